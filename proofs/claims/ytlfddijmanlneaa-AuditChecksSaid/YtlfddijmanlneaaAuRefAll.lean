/-
  The document's own Decode of a commit.
-/
import Derived.Test.YtlfddijmanlneaaAuComAll
import Derived.Test.YtlfddijmanlneaaRefBytes
import Derived.Test.YtlfddijmanlneaaRefRest
import Derived.Test.YtlfddijmanlneaaSame
import Derived.Test.YtlfddijmanlneaaGen
namespace Go.Proofs.Ytlfddijmanlneaa
open Go.RowKit
set_option linter.unusedVariables false
set_option linter.unusedSimpArgs false


/-- Block q is a document's In over the bytes L; what is left of it is s. -/
def RSt (w : World) (q : Nat) (L : List UInt8) (A : Option Addr) (c : Nat) (s : St) : Prop := RFix w q L A c ∧ ∃ o, RIn w q L A c o s.2 ∧ Rel s.1 L o s.2
theorem RSt.lt {w : World} {q : Nat} {L : List UInt8} {A : Option Addr} {c : Nat} {s : St} (h : RSt w q L A c s) : q < w.heap.size := by
  obtain ⟨_, o, h, _⟩ := h
  exact h.lt
theorem RSt.low {w w' : World} {q : Nat} {L : List UInt8} {A : Option Addr} {c : Nat} {s : St} (h : RSt w q L A c s) (hb : Low q w w') : RSt w' q L A c s := by
  obtain ⟨f, o, h, r⟩ := h
  exact ⟨f.low hb, o, h.low hb, r⟩
theorem RSt.lowN {w w' : World} {q : Nat} {L : List UInt8} {A : Option Addr} {c : Nat} {s : St} (h : RSt w q L A c s) (hb : LowN q w w') : RSt w' q L A c s := by
  obtain ⟨f, o, h, r⟩ := h
  exact ⟨f.lowN hb, o, h.lowN hb, r⟩
theorem RSt.wrong {w : World} {q : Nat} {L : List UInt8} {A : Option Addr} {c : Nat} {s : St} (h : RSt w q L A c s) : w.cell? ⟨q, 2, none⟩ = some (.bool s.2) := by
  obtain ⟨f, o, h, r⟩ := h
  exact h.cells.2.2.1
variable {L : List UInt8} {A : Option Addr} {c : Nat}
theorem rnumber_fl (q most : Nat) (s : St) (w : World) (h : RSt w q L A c s) (hm : most < 18446744073709551616) :
    Calls Try.prog 49 #[.pointer (some ⟨q, 0, none⟩), .int .u64 most] w fun e w' => e = .returned (.int .u64 (numS most s).1) ∧ RSt w' q L A c (numS most s).2 ∧ Turn q w w' := by
  obtain ⟨f, o, h, r⟩ := h
  obtain ⟨e1, e2, e3⟩ := rel_num r most
  refine (rnumber_in q most L A c o s.2 w h f r.2.2 hm).mono ?_
  rintro e w' ⟨he, hi, ht⟩
  refine ⟨by rw [he, ← e1]; rfl, ⟨f.turn ht h.lt, (rnF most L o s.2).2.1, ?_, ?_⟩, ht⟩
  · show RIn w' q L A c _ (s.2 || (numF most s.1).2.2)
    rw [e2]; exact hi
  · show Rel (numF most s.1).2.1 L _ (s.2 || (numF most s.1).2.2)
    rw [e2]; exact e3
theorem rdigest_fl (q : Nat) (s : St) (w : World) (h : RSt w q L A c s) :
    Calls Try.prog 52 #[.pointer (some ⟨q, 0, none⟩)] w fun e w' => e = .returned (.agg (Lib.byteCells (digS s).1).toArray) ∧ RSt w' q L A c (digS s).2 ∧ Turn q w w' := by
  obtain ⟨f, o, h, r⟩ := h
  obtain ⟨_, e2, e3⟩ := rel_cut r 32 (fun _ => by omega)
  have ed := rel_dig r
  refine (rdigest_in q L A c o s.2 w h f r.2.2).mono ?_
  rintro e w' ⟨he, hi, ht⟩
  refine ⟨by rw [he, ← ed]; rfl, ⟨f.turn ht h.lt, (takeF 32 L o s.2).2.1, ?_, ?_⟩, ht⟩
  · show RIn w' q L A c _ (s.2 || (cutF 32 s.1).2.2)
    rw [e2]; exact hi
  · show Rel (cutF 32 s.1).2.1 L _ (s.2 || (cutF 32 s.1).2.2)
    rw [e2]; exact e3
theorem rbytes_fl (q : Nat) (s : St) (w : World) (h : RSt w q L A c s) :
    Calls Try.prog 53 #[.pointer (some ⟨q, 0, none⟩), .int .i64 65536] w fun e w' => ∃ A' c', e = .returned (.slice A' (evS s).1.length c') ∧ (evS s).1.length ≤ c' ∧ c' ≤ maxLen ∧ Bs w' w'.heap.size A' (evS s).1 ∧ (∀ a : Addr, A' = some a → w.heap.size ≤ a.block) ∧ RSt w' q L A c (evS s).2 ∧ Turn q w w' := by
  obtain ⟨f, o, h, r⟩ := h
  obtain ⟨e1, e2, e3⟩ := rel_bytes r 65536
  refine (rbytes_in q 65536 L A c o s.2 w h f r.2.2 (by omega) (by omega)).mono ?_
  rintro e w' ⟨v, he, hown, hi, ht⟩
  rw [← e1] at hown
  have hlb : ∀ a n k, v = .slice (some a) n k → w.heap.size ≤ a.block := by
    intro a n k e
    rcases hown.2 with ⟨hv, _⟩ | ⟨g, cap, cur, hv, hge, _⟩
    · rw [hv] at e; cases e
    · rw [hv] at e; cases e; exact hge
  obtain ⟨A', c', rfl, k1, k2, k3⟩ := hown.slice
  refine ⟨A', c', he, k1, k2, k3, fun a e => hlb a _ _ (by rw [e]), ⟨f.turn ht h.lt, (rbF 65536 L o s.2).2.1, ?_, ?_⟩, ht⟩
  · show RIn w' q L A c _ (s.2 || (bytesF 65536 s.1).2.2)
    rw [e2]; exact hi
  · show Rel (bytesF 65536 s.1).2.1 L _ (s.2 || (bytesF 65536 s.1).2.2)
    rw [e2]; exact e3
theorem rdone_fl (q : Nat) (s : St) (w : World) (h : RSt w q L A c s) :
    Calls Try.prog 54 #[.pointer (some ⟨q, 0, none⟩)] w fun e w' => e = .returned (.int .i64 (doneF s.1 s.2)) ∧ ∃ k, w' = w.drewN k := by
  obtain ⟨f, o, h, r⟩ := h
  refine (rdone_in q L A c o s.2 w h f).mono ?_
  rintro e w' ⟨he, hw⟩
  exact ⟨by rw [he, rel_done r], hw⟩
theorem rrtake_fl (s : St) (q : Nat) (w : World) (h : RSt w q L A c s) (TL : List Value) (hTL : TL = rC (refS s).1) :
    Calls Try.prog 50 #[.pointer (some ⟨q, 0, none⟩)] w fun e w' => e = .returned (.agg TL.toArray) ∧ RSt w' q L A c (refS s).2 ∧ Turn q w w' := by
  have hT : TL = tkC (digS s).1 (numS 65535 (digS s).2).1 (numS 65536 (numS 65535 (digS s).2).2).1 (refS s).2.2 := by
    rw [hTL]
    unfold tkC refS rC
    cases (numS 65536 (numS 65535 (digS s).2).2).2.2 <;> rfl
  refine rtake_gen q (fun w => RSt w q L A c s) (fun w => RSt w q L A c (digS s).2) (fun w => RSt w q L A c (numS 65535 (digS s).2).2) (fun w => RSt w q L A c (refS s).2) (digS s).1 (digF_length _) (Lib.byteCells (digS s).1) rfl _ _ (numF_le' _ _) (numF_le' _ _) _ TL hT
    (fun _ _ h k => h.low k) (fun _ _ h k => h.low k) (fun _ _ h k => h.low k) (fun _ _ h k => h.low k) (fun w h => rdigest_fl q s w h) (fun w h => rnumber_fl q 65535 _ w h (by omega)) (fun w h => rnumber_fl q 65536 _ w h (by omega)) (fun w h => h.wrong) w h h.lt
theorem rntake_fl (s : St) (q : Nat) (w : World) (h : RSt w q L A c s) (TL : List Value) (hTL : TL = bC (binS s).1) :
    Calls Try.prog 51 #[.pointer (some ⟨q, 0, none⟩)] w fun e w' => e = .returned (.agg TL.toArray) ∧ RSt w' q L A c (binS s).2 ∧ Turn q w w' := by
  have hT : TL = tkN (numS 2147483647 s).1 (numS 65535 (numS 2147483647 s).2).1 (numS 65536 (numS 65535 (numS 2147483647 s).2).2).1 (digS (numS 65536 (numS 65535 (numS 2147483647 s).2).2).2).1 (binS s).2.2 := by
    rw [hTL]
    unfold tkN binS bC
    cases (digS (numS 65536 (numS 65535 (numS 2147483647 s).2).2).2).2.2 <;> rfl
  refine rntake_gen q (fun w => RSt w q L A c s) (fun w => RSt w q L A c (numS 2147483647 s).2) (fun w => RSt w q L A c (numS 65535 (numS 2147483647 s).2).2) (fun w => RSt w q L A c (numS 65536 (numS 65535 (numS 2147483647 s).2).2).2) (fun w => RSt w q L A c (binS s).2) _ (digF_length _) (Lib.byteCells _) rfl _ _ _ (numF_le' _ _) (numF_le' _ _) (numF_le' _ _) _ TL hT
    (fun _ _ h k => h.lowN k) (fun _ _ h k => h.lowN k) (fun _ _ h k => h.lowN k) (fun _ _ h k => h.lowN k) (fun _ _ h k => h.lowN k) (fun w h => rnumber_fl q 2147483647 s w h (by omega)) (fun w h => rnumber_fl q 65535 _ w h (by omega)) (fun w h => rnumber_fl q 65536 _ w h (by omega)) (fun w h => rdigest_fl q _ w h) (fun w h => h.wrong) w h h.lt

/-! ### rows of the document's Decode -/
/-- What lay from block lo on is as it was. -/
def Up (lo : Nat) (w w' : World) : Prop := w.heap.size ≤ w'.heap.size ∧ ∀ k, lo ≤ k → k < w.heap.size → w'.heap[k]? = w.heap[k]?
theorem Up.refl (lo : Nat) (w : World) : Up lo w w := ⟨Nat.le_refl _, fun _ _ _ => rfl⟩
theorem Up.trans {lo : Nat} {a b d : World} (h : Up lo a b) (k : Up lo b d) : Up lo a d := ⟨Nat.le_trans h.1 k.1, fun i hi hl => (k.2 i hi (Nat.lt_of_lt_of_le hl h.1)).trans (h.2 i hi hl)⟩
theorem Turn.upQ {lo q : Nat} {w w' : World} (h : Turn q w w') (hq : q < lo) : Up lo w w' := ⟨h.size, fun k hk hl => h.block k hl (fun e => by injection e; omega)⟩
theorem Only.upQ {lo g : Nat} {w w' : World} (h : Only (fun k => k = g) w w') (hg : g < lo) : Up lo w w' := ⟨h.size, fun k hk hl => h.block k hl (by omega)⟩
theorem Below.upQ {lo : Nat} {w w' : World} (h : Below w.heap.size w w') : Up lo w w' := ⟨h.size, fun k hk hl => h.block k hl⟩
theorem BRow.keepUp {w w' : World} {B : Nat} {v : Value} {bs : List BinF} (h : BRow w B v bs) (hu : Up B w w') : BRow w' B v bs := by
  refine ⟨h.1, h.2.1, ?_⟩
  rcases h.2.2 with hn | ⟨g, cap, cur, rfl, h1, hg, rest⟩
  · exact .inl hn
  · exact .inr ⟨g, cap, cur, rfl, h1, (hu.2 g h1 (Array.getElem?_eq_some_iff.1 hg).1).trans hg, rest⟩
/-- A row of rows of bytes of the call's own; all lie from block B on, no row's bytes in the row's own block. -/
def QRow (w : World) (B : Nat) (v : Value) (rs : List (List UInt8)) : Prop :=
  ∃ cs : List Value, w.ownsRow B 33 1 v rs.length cs ∧ ∀ (i : Nat) (r : List UInt8), rs[i]? = some r → ∃ (A : Option Addr) (c : Nat), cs[i]? = some (.slice A r.length c) ∧ r.length ≤ c ∧ c ≤ maxLen ∧ Bs w w.heap.size A r ∧ ∀ a : Addr, A = some a → 0 < r.length → B ≤ a.block ∧ v.ownBlock ≠ some a.block
theorem QRow.nil (w : World) (B : Nat) : QRow w B (.slice none 0 0) [] := ⟨[], World.ownsRow_nil w B _ 1, fun i r h => by simp at h⟩
theorem QRow.lt {w : World} {B : Nat} {v : Value} {rs : List (List UInt8)} (h : QRow w B v rs) : ∀ k, v.ownBlock = some k → B ≤ k ∧ k < w.heap.size := by
  obtain ⟨cs, h1, _⟩ := h
  exact World.ownsRow.lt h1
theorem QRow.keepUp {w w' : World} {B : Nat} {v : Value} {rs : List (List UInt8)} (h : QRow w B v rs) (hu : Up B w w') : QRow w' B v rs := by
  obtain ⟨cs, h1, h2⟩ := h
  refine ⟨cs, ⟨h1.1, ?_⟩, fun i r hr => ?_⟩
  · rcases h1.2 with hn | ⟨g, cap, cur, rfl, e1, hg, rest⟩
    · exact .inl hn
    · exact .inr ⟨g, cap, cur, rfl, e1, (hu.2 g e1 (Array.getElem?_eq_some_iff.1 hg).1).trans hg, rest⟩
  · obtain ⟨A, c, k1, k2, k3, k4, k5⟩ := h2 i r hr
    refine ⟨A, c, k1, k2, k3, fun hp => ?_, k5⟩
    obtain ⟨b, off, e, hlt, hc⟩ := k4 hp
    have hlo := (k5 _ e hp).1
    exact ⟨b, off, e, Nat.lt_of_lt_of_le hlt hu.1, fun j hj => (World.cell?_of_block (hu.2 b hlo hlt)).trans (hc j hj)⟩
theorem QRow.snoc {w w' : World} {B : Nat} {v v' : Value} {rs : List (List UInt8)} {cs : List Value} {Y : List UInt8} {A : Option Addr} {n c : Nat} (h1 : w'.ownsRow B 33 1 v' (rs.length + 1) (cs ++ [.slice A n c])) (hl : cs.length = rs.length * 1)
    (h2 : ∀ (i : Nat) (r : List UInt8), rs[i]? = some r → ∃ (A : Option Addr) (c : Nat), cs[i]? = some (.slice A r.length c) ∧ r.length ≤ c ∧ c ≤ maxLen ∧ Bs w w.heap.size A r ∧ ∀ a : Addr, A = some a → 0 < r.length → B ≤ a.block ∧ v.ownBlock ≠ some a.block)
    (hg : w.grownBy w' v.ownBlock) (hp : v'.ownBlock = v.ownBlock ∨ v'.ownBlock = some w.heap.size) (hn : Y.length = n) (hc : n ≤ c) (hm : c ≤ maxLen) (hb : Bs w w.heap.size A Y) (ha : ∀ a : Addr, A = some a → 0 < Y.length → B ≤ a.block ∧ v.ownBlock ≠ some a.block) : QRow w' B v' (rs ++ [Y]) := by
  have keep : ∀ (A : Option Addr) (r : List UInt8), Bs w w.heap.size A r → (∀ a : Addr, A = some a → 0 < r.length → B ≤ a.block ∧ v.ownBlock ≠ some a.block) → Bs w' w'.heap.size A r ∧ ∀ a : Addr, A = some a → 0 < r.length → B ≤ a.block ∧ v'.ownBlock ≠ some a.block := by
    intro A r hb ha
    refine ⟨fun hp0 => ?_, fun a e h0 => ⟨(ha a e h0).1, ?_⟩⟩
    · obtain ⟨b, off, e, hlt, hcell⟩ := hb hp0
      refine ⟨b, off, e, Nat.lt_of_lt_of_le hlt hg.size, fun j hj => ?_⟩
      rw [← hcell j hj]
      exact World.cell?_of_block (hg.block b hlt (fun e2 => (ha _ e hp0).2 e2.symm))
    · rcases hp with hp | hp
      · rw [hp]; exact (ha a e h0).2
      · rw [hp]
        obtain ⟨b, off, e2, hlt, _⟩ := hb h0
        rw [e] at e2
        injection e2 with e2
        subst e2
        intro e3
        injection e3 with e3
        simp only at e3
        omega
  subst hn
  refine ⟨cs ++ [.slice A Y.length c], by rw [List.length_append]; exact h1, fun i r hr => ?_⟩
  by_cases hi : i < rs.length
  · rw [List.getElem?_append_left hi] at hr
    obtain ⟨A', c', k1, k2, k3, k4, k5⟩ := h2 i r hr
    obtain ⟨q1, q2⟩ := keep A' r k4 k5
    exact ⟨A', c', by rw [List.getElem?_append_left (List.getElem?_eq_some_iff.1 k1).1]; exact k1, k2, k3, q1, q2⟩
  · have hlt := (List.getElem?_eq_some_iff.1 hr).1
    simp at hlt
    have hi2 : i = rs.length := by omega
    subst hi2
    rw [List.getElem?_append_right (Nat.le_refl _)] at hr
    simp at hr
    subst hr
    obtain ⟨q1, q2⟩ := keep A Y hb ha
    exact ⟨A, c, by rw [List.getElem?_append_right (by omega)]; simp [hl], hc, hm, q1, q2⟩
theorem QRow.rows {w : World} {B : Nat} {v : Value} {rs : List (List UInt8)} (h : QRow w B v rs) : ∃ A c, v = .slice A rs.length c ∧ rs.length ≤ c ∧ c ≤ maxLen ∧ RowsAt w w.heap.size A rs := by
  obtain ⟨cs, h1, h2⟩ := h
  rcases h1.2 with ⟨rfl, hn⟩ | ⟨g, cap, cur, rfl, e1, hg, e2, e3, e4, e5⟩
  · exact ⟨none, 0, by rw [hn], by omega, by unfold maxLen; omega, fun hp => by omega⟩
  · refine ⟨_, cap, rfl, e2, e3, fun hp => ⟨g, 0, rfl, (Array.getElem?_eq_some_iff.1 hg).1, fun i hi => ?_⟩⟩
    obtain ⟨A, c, k1, k2, k3, k4, _⟩ := h2 i (rs[i]'hi) (List.getElem?_eq_getElem hi)
    have hgd : rs.getD i [] = rs[i] := by simp [List.getD, hi]
    rw [hgd]
    refine ⟨A, c, ?_, k2, k3, k4⟩
    rw [← e5] at k1
    have hlt := (List.getElem?_eq_some_iff.1 k1).1
    rw [List.length_take] at hlt
    rw [List.getElem?_take_of_lt (by omega)] at k1
    rw [cell_of_row w g _ cur 33 (0, 0) hg, Nat.zero_add]
    simpa using k1

end Go.Proofs.Ytlfddijmanlneaa

namespace Go.Proofs.Ytlfddijmanlneaa
open Go.RowKit
set_option linter.unusedVariables false
set_option linter.unusedSimpArgs false


theorem wpList_at {P : Program} {ops : Array Oper} {rest : List Oper} {o : Oper} {a : Act} {w : World} {Q : Exit → Act → World → Prop} (n : Nat) (hd : o.dst = some n) (h : wpList P ops Q (o :: rest) a w) : wpList P ops Q (o :: rest) a w := h
theorem wpList_neq_ifC {P : Program} {ops : Array Oper} {rest : List Oper} {o : Oper} {a : Act} {w : World} {Q : Exit → Act → World → Prop} (hw : Region.wanted o (yielded ops a.tmps) = true) (ty ty2 : TypeId) (x y : Operand) (ho : o.op = .binOp .neq ty x y ty2)
    (X Y : List Value) (hx : a.eval x = .agg X.toArray) (hy : a.eval y = .agg Y.toArray) (b : Bool) (he : ∀ w, (Op.equalIn 10000 ty (.agg X.toArray) (.agg Y.toArray)).run P w = .ok b w) (hm : P.eqGuardType P.depth ty = false)
    (h : wpList P ops Q rest (a.put o.dst (.bool (!b))) w) : wpList P ops Q (o :: rest) a w :=
  wpList_step fun K hK => by
    rw [if_pos hw]
    unfold Oper.wp execOp
    simp only [ho, hx, hy, Sem.run_bind, Sem.run_pure, Result.andThen_ok, run_eqGuard_agg, run_neq_struct, he, hm]
    exact hK _ _ h
theorem ref_cmp {a b : RefF} (ha : a.d.length = 32) (hb : b.d.length = 32) {XL YL : List Value} (hX : XL = rC a) (hY : YL = rC b) : ∃ r : Bool, (∀ w, (Op.equalIn 10000 26 (.agg XL.toArray) (.agg YL.toArray)).run Try.prog w = .ok r w) ∧ (r = true ↔ a = b) := by
  classical
  refine ⟨decide (a = b), fun w => ?_, decide_eq_true_iff⟩
  obtain ⟨r, h1, h2⟩ := refs_eqv a b ha hb XL YL hX hY w
  have e : r = decide (a = b) := by rw [Bool.eq_iff_iff, h2, decide_eq_true_eq]
  rw [h1, e]
theorem bin_cmp {a b : BinF} (ha : a.d.length = 32) (hb : b.d.length = 32) {XL YL : List Value} (hX : XL = bC a) (hY : YL = bC b) : ∃ r : Bool, (∀ w, (Op.equalIn 10000 63 (.agg XL.toArray) (.agg YL.toArray)).run Try.prog w = .ok r w) ∧ (r = true ↔ a = b) := by
  classical
  refine ⟨decide (a = b), fun w => ?_, decide_eq_true_iff⟩
  obtain ⟨r, h1, h2⟩ := bin_eqv a b ha hb XL YL hX hY w
  have e : r = decide (a = b) := by rw [Bool.eq_iff_iff, h2, decide_eq_true_eq]
  rw [h1, e]


set_option maxHeartbeats 16000000 in
set_option maxRecDepth 100000 in
theorem same_anyC (x y : Cx) (XL YL : List Value) (hXL : XL = comC x) (hYL : YL = comC y) (w : World) (hx : CxOk w w.heap.size x) (hy : CxOk w w.heap.size y) (r : Bool) (hr : r = true ↔ x.c = y.c) :
    Calls Try.prog 14 #[.agg XL.toArray, .agg YL.toArray] w fun e w' => e = .returned (.bool r) ∧ Below w.heap.size w w' := by
  obtain ⟨W1, hW1⟩ : ∃ z, z = w.alloc (.cells XL.toArray 30) := ⟨_, rfl⟩
  obtain ⟨W2, hW2⟩ : ∃ z, z = W1.alloc (.cells YL.toArray 30) := ⟨_, rfl⟩
  have hb01 : Below w.heap.size w W1 := by rw [hW1]; exact (Below.refl _ w).alloc (Nat.le_refl _) _
  have hb12 : Below W1.heap.size W1 W2 := by rw [hW2]; exact (Below.refl _ W1).alloc (Nat.le_refl _) _
  have hb0 := hb01.trans (hb12.mono hb01.size)
  have hRx : Arr W2 w.heap.size 30 XL := Arr.up (by rw [hW1]; exact Arr.new w _ _) hb12
  have hRy : Arr W2 W1.heap.size 30 YL := by rw [hW2]; exact Arr.new W1 _ _
  rw [hXL] at hRx
  rw [hYL] at hRy
  obtain ⟨x0, x1, x2, x3, x4, x5, x6⟩ := Arr.com hRx (rC_length hx.r1) (rC_length hx.r2) (rC_length hx.r3) (by rw [Lib.byteCells_length, hx.st])
  obtain ⟨y0, y1, y2, y3, y4, y5, y6⟩ := Arr.com hRy (rC_length hy.r1) (rC_length hy.r2) (rC_length hy.r3) (by rw [Lib.byteCells_length, hy.st])
  have hltx := hRx.lt
  have hlty := hRy.lt
  have hW1s : W1.heap.size = w.heap.size + 1 := by rw [hW1]; simp
  obtain ⟨X1, hX1⟩ : ∃ z, z = rC x.c.r1 := ⟨_, rfl⟩
  obtain ⟨X2, hX2⟩ : ∃ z, z = rC x.c.r2 := ⟨_, rfl⟩
  obtain ⟨X3, hX3⟩ : ∃ z, z = rC x.c.r3 := ⟨_, rfl⟩
  obtain ⟨X4, hX4⟩ : ∃ z, z = Lib.byteCells x.c.st := ⟨_, rfl⟩
  obtain ⟨epx, hepx⟩ : ∃ z, x.c.ep = z := ⟨_, rfl⟩
  obtain ⟨nbx, hnbx⟩ : ∃ z, x.c.bins.length = z := ⟨_, rfl⟩
  obtain ⟨nex, hnex⟩ : ∃ z, x.c.evs.length = z := ⟨_, rfl⟩
  obtain ⟨Abx, hAbx⟩ : ∃ z, x.Ab = z := ⟨_, rfl⟩
  obtain ⟨cbx, hcbx⟩ : ∃ z, x.cb = z := ⟨_, rfl⟩
  obtain ⟨Aex, hAex⟩ : ∃ z, x.Ae = z := ⟨_, rfl⟩
  obtain ⟨cex, hcex⟩ : ∃ z, x.ce = z := ⟨_, rfl⟩
  rw [hepx] at x0
  rw [← hX1] at x1
  rw [← hX2] at x2
  rw [← hX3] at x3
  rw [hAbx, hnbx, hcbx] at x4
  rw [← hX4] at x5
  rw [hAex, hnex, hcex] at x6
  obtain ⟨Y1, hY1⟩ : ∃ z, z = rC y.c.r1 := ⟨_, rfl⟩
  obtain ⟨Y2, hY2⟩ : ∃ z, z = rC y.c.r2 := ⟨_, rfl⟩
  obtain ⟨Y3, hY3⟩ : ∃ z, z = rC y.c.r3 := ⟨_, rfl⟩
  obtain ⟨Y4, hY4⟩ : ∃ z, z = Lib.byteCells y.c.st := ⟨_, rfl⟩
  obtain ⟨epy, hepy⟩ : ∃ z, y.c.ep = z := ⟨_, rfl⟩
  obtain ⟨nby, hnby⟩ : ∃ z, y.c.bins.length = z := ⟨_, rfl⟩
  obtain ⟨ney, hney⟩ : ∃ z, y.c.evs.length = z := ⟨_, rfl⟩
  obtain ⟨Aby, hAby⟩ : ∃ z, y.Ab = z := ⟨_, rfl⟩
  obtain ⟨cby, hcby⟩ : ∃ z, y.cb = z := ⟨_, rfl⟩
  obtain ⟨Aey, hAey⟩ : ∃ z, y.Ae = z := ⟨_, rfl⟩
  obtain ⟨cey, hcey⟩ : ∃ z, y.ce = z := ⟨_, rfl⟩
  rw [hepy] at y0
  rw [← hY1] at y1
  rw [← hY2] at y2
  rw [← hY3] at y3
  rw [hAby, hnby, hcby] at y4
  rw [← hY4] at y5
  rw [hAey, hney, hcey] at y6
  obtain ⟨gx, hgx⟩ : ∃ z, w.heap.size = z := ⟨_, rfl⟩
  obtain ⟨gy, hgy⟩ : ∃ z, W1.heap.size = z := ⟨_, rfl⟩
  have HW1 := Lib.hid hW1
  have HW2 := Lib.hid hW2
  have Hr := Lib.hid hr
  have Hext := Lib.hid (fun h1 h2 h3 h4 h5 h6 h7 => show x.c = y.c from com_ext h1 h2 h3 h4 h5 h6 h7)
  have Hbx := Lib.hid (show RowOf bC 35 W2 w.heap.size Abx x.c.bins by rw [← hAbx]; exact hx.bins.below hb0 (Nat.le_refl _))
  have Hby := Lib.hid (show RowOf bC 35 W2 w.heap.size Aby y.c.bins by rw [← hAby]; exact hy.bins.below hb0 (Nat.le_refl _))
  have Hex := Lib.hid (show RowsAt W2 w.heap.size Aex x.c.evs by rw [← hAex]; exact hx.evs.below hb0 (Nat.le_refl _))
  have Hey := Lib.hid (show RowsAt W2 w.heap.size Aey y.c.evs by rw [← hAey]; exact hy.evs.below hb0 (Nat.le_refl _))
  have Hbwx := Lib.hid hx.bw
  have Hbwy := Lib.hid hy.bw
  have hcx : nbx ≤ cbx ∧ cbx ≤ 9223372036854775807 ∧ nex ≤ cex ∧ cex ≤ 9223372036854775807 := by
    rw [← hnbx, ← hcbx, ← hnex, ← hcex]
    exact ⟨hx.lb, by have := hx.mb; unfold maxLen at this; omega, hx.le, by have := hx.me; unfold maxLen at this; omega⟩
  have hcy : nby ≤ cby ∧ cby ≤ 9223372036854775807 ∧ ney ≤ cey ∧ cey ≤ 9223372036854775807 := by
    rw [← hnby, ← hcby, ← hney, ← hcey]
    exact ⟨hy.lb, by have := hy.mb; unfold maxLen at this; omega, hy.le, by have := hy.me; unfold maxLen at this; omega⟩
  have hepl : epx < 18446744073709551616 ∧ epy < 18446744073709551616 := by rw [← hepx, ← hepy]; exact ⟨hx.ep, hy.ep⟩
  obtain ⟨f1, hf1, hf1r⟩ : ∃ r : Bool, (∀ w, (Op.equalIn 10000 26 (.agg X1.toArray) (.agg Y1.toArray)).run Try.prog w = .ok r w) ∧ (r = true ↔ x.c.r1 = y.c.r1) := ref_cmp hx.r1.d hy.r1.d hX1 hY1
  obtain ⟨f2, hf2, hf2r⟩ : ∃ r : Bool, (∀ w, (Op.equalIn 10000 26 (.agg X2.toArray) (.agg Y2.toArray)).run Try.prog w = .ok r w) ∧ (r = true ↔ x.c.r2 = y.c.r2) := ref_cmp hx.r2.d hy.r2.d hX2 hY2
  obtain ⟨f3, hf3, hf3r⟩ : ∃ r : Bool, (∀ w, (Op.equalIn 10000 26 (.agg X3.toArray) (.agg Y3.toArray)).run Try.prog w = .ok r w) ∧ (r = true ↔ x.c.r3 = y.c.r3) := ref_cmp hx.r3.d hy.r3.d hX3 hY3
  obtain ⟨f4, hf4, hf4r⟩ : ∃ r : Bool, (∀ w, (Op.equalIn 10000 24 (.agg X4.toArray) (.agg Y4.toArray)).run Try.prog w = .ok r w) ∧ (r = true ↔ x.c.st = y.c.st) := ⟨_, fun w => eqv_at Try.underlying24 x.c.st y.c.st hx.st hy.st X4 Y4 hX4 hY4 w, by simp⟩
  have Hf := Lib.hid (show (f1 = true ↔ x.c.r1 = y.c.r1) ∧ (f2 = true ↔ x.c.r2 = y.c.r2) ∧ (f3 = true ↔ x.c.r3 = y.c.r3) ∧ (f4 = true ↔ x.c.st = y.c.st) from ⟨hf1r, hf2r, hf3r, hf4r⟩)
  have Hep := Lib.hid (show x.c.ep = epx ∧ y.c.ep = epy from ⟨hepx, hepy⟩)
  have Hnb := Lib.hid (show x.c.bins.length = nbx ∧ y.c.bins.length = nby from ⟨hnbx, hnby⟩)
  have Hne := Lib.hid (show x.c.evs.length = nex ∧ y.c.evs.length = ney from ⟨hnex, hney⟩)
  have HX1 := Lib.hid (show (Try.prog.info? 26).map (·.size) = some X1.length by rw [hX1, rC_length hx.r1]; exact refSize)
  have HX2 := Lib.hid (show (Try.prog.info? 26).map (·.size) = some X2.length by rw [hX2, rC_length hx.r2]; exact refSize)
  have HX3 := Lib.hid (show (Try.prog.info? 26).map (·.size) = some X3.length by rw [hX3, rC_length hx.r3]; exact refSize)
  have HX4 := Lib.hid (show (Try.prog.info? 24).map (·.size) = some X4.length by rw [hX4, Lib.byteCells_length, hx.st]; exact digInfo)
  have HY1 := Lib.hid (show (Try.prog.info? 26).map (·.size) = some Y1.length by rw [hY1, rC_length hy.r1]; exact refSize)
  have HY2 := Lib.hid (show (Try.prog.info? 26).map (·.size) = some Y2.length by rw [hY2, rC_length hy.r2]; exact refSize)
  have HY3 := Lib.hid (show (Try.prog.info? 26).map (·.size) = some Y3.length by rw [hY3, rC_length hy.r3]; exact refSize)
  have HY4 := Lib.hid (show (Try.prog.info? 24).map (·.size) = some Y4.length by rw [hY4, Lib.byteCells_length, hy.st]; exact digInfo)
  have Hhx := Lib.hid hx
  have Hhy := Lib.hid hy
  rw [hgx] at hb0 x0 x1 x2 x3 x4 x5 x6 Hbx Hby Hex Hey ⊢
  rw [hgy] at y0 y1 y2 y3 y4 y5 y6
  have hgg : gx < gy := by omega
  have Hgx := Lib.hid hgx
  have Hgy := Lib.hid (show w.heap.size + 1 = gy by omega)
  have Hb0 := Lib.hid hb0
  rw [hgx] at hltx
  rw [hgy] at hlty
  have HF1 := Lib.hid hf1
  have HF2 := Lib.hid hf2
  have HF3 := Lib.hid hf3
  have HF4 := Lib.hid hf4
  clear hf1 hf2 hf3 hf4 hXL hYL hW1 hW2 hb01 hb12 hRx hRy hr hx hy hf1r hf2r hf3r hf4r hgx hgy hW1s hb0 hX1 hX2 hX3 hX4 hY1 hY2 hY3 hY4 hepx hnbx hnex hAbx hcbx hAex hcex hepy hnby hney hAby hcby hAey hcey
  go_enter Try.func14, Try.ntmps14
  go_upto_region 1 with fail
  rw [← HW1.out, ← HW2.out, Hgy.out, Hgx.out]
  by_cases h0 : epx = epy
  · subst h0
    have q0 : ((epx : Int) != (epx : Int)) = false := by simp
    have q0' : (epx != epx) = false := by simp
    cases f1 with
    | false =>
      have Hno := Lib.hid (show r = false by
        cases r with
        | false => rfl
        | true =>
          exfalso
          have he := Hr.out.1 rfl
          have := Hf.out.1.2 (by rw [he])
          cases this)
      go_wp2_with (first
    | ((with_reducible refine wpList_at 14 (by rfl) ?_); refine wpList_load_mid_ifC (by rfl) _ _ rfl gx 1 rfl X1 _ x1 Try.underlying26 rfl HX1.out ?_)
    | ((with_reducible refine wpList_at 16 (by rfl) ?_); refine wpList_load_mid_ifC (by rfl) _ _ rfl gy 1 rfl Y1 _ y1 Try.underlying26 rfl HY1.out ?_)
    | ((with_reducible refine wpList_at 21 (by rfl) ?_); refine wpList_load_mid_ifC (by rfl) _ _ rfl gx 35 rfl X2 _ x2 Try.underlying26 rfl HX2.out ?_)
    | ((with_reducible refine wpList_at 23 (by rfl) ?_); refine wpList_load_mid_ifC (by rfl) _ _ rfl gy 35 rfl Y2 _ y2 Try.underlying26 rfl HY2.out ?_)
    | ((with_reducible refine wpList_at 28 (by rfl) ?_); refine wpList_load_mid_ifC (by rfl) _ _ rfl gx 69 rfl X3 _ x3 Try.underlying26 rfl HX3.out ?_)
    | ((with_reducible refine wpList_at 30 (by rfl) ?_); refine wpList_load_mid_ifC (by rfl) _ _ rfl gy 69 rfl Y3 _ y3 Try.underlying26 rfl HY3.out ?_)
    | ((with_reducible refine wpList_at 35 (by rfl) ?_); refine wpList_load_mid_ifC (by rfl) _ _ rfl gx 104 rfl X4 _ x5 Try.underlying24 rfl HX4.out ?_)
    | ((with_reducible refine wpList_at 37 (by rfl) ?_); refine wpList_load_mid_ifC (by rfl) _ _ rfl gy 104 rfl Y4 _ y5 Try.underlying24 rfl HY4.out ?_)
    | ((with_reducible refine wpList_at 17 (by rfl) ?_); refine wpList_neq_ifC (by rfl) _ _ _ _ rfl X1 Y1 rfl rfl _ HF1.out gtR ?_)
    | ((with_reducible refine wpList_at 24 (by rfl) ?_); refine wpList_neq_ifC (by rfl) _ _ _ _ rfl X2 Y2 rfl rfl _ HF2.out gtR ?_)
    | ((with_reducible refine wpList_at 31 (by rfl) ?_); refine wpList_neq_ifC (by rfl) _ _ _ _ rfl X3 Y3 rfl rfl _ HF3.out gtR ?_)
    | ((with_reducible refine wpList_at 38 (by rfl) ?_); refine wpList_neq_ifC (by rfl) _ _ _ _ rfl X4 Y4 rfl rfl _ HF4.out gt32 ?_))
      go_ret
      exact ⟨by rw [Hno.out]; rfl, Hb0.out⟩
    | true =>
      cases f2 with
      | false =>
        have Hno := Lib.hid (show r = false by
          cases r with
          | false => rfl
          | true =>
            exfalso
            have he := Hr.out.1 rfl
            have := Hf.out.2.1.2 (by rw [he])
            cases this)
        go_wp2_with (first
    | ((with_reducible refine wpList_at 14 (by rfl) ?_); refine wpList_load_mid_ifC (by rfl) _ _ rfl gx 1 rfl X1 _ x1 Try.underlying26 rfl HX1.out ?_)
    | ((with_reducible refine wpList_at 16 (by rfl) ?_); refine wpList_load_mid_ifC (by rfl) _ _ rfl gy 1 rfl Y1 _ y1 Try.underlying26 rfl HY1.out ?_)
    | ((with_reducible refine wpList_at 21 (by rfl) ?_); refine wpList_load_mid_ifC (by rfl) _ _ rfl gx 35 rfl X2 _ x2 Try.underlying26 rfl HX2.out ?_)
    | ((with_reducible refine wpList_at 23 (by rfl) ?_); refine wpList_load_mid_ifC (by rfl) _ _ rfl gy 35 rfl Y2 _ y2 Try.underlying26 rfl HY2.out ?_)
    | ((with_reducible refine wpList_at 28 (by rfl) ?_); refine wpList_load_mid_ifC (by rfl) _ _ rfl gx 69 rfl X3 _ x3 Try.underlying26 rfl HX3.out ?_)
    | ((with_reducible refine wpList_at 30 (by rfl) ?_); refine wpList_load_mid_ifC (by rfl) _ _ rfl gy 69 rfl Y3 _ y3 Try.underlying26 rfl HY3.out ?_)
    | ((with_reducible refine wpList_at 35 (by rfl) ?_); refine wpList_load_mid_ifC (by rfl) _ _ rfl gx 104 rfl X4 _ x5 Try.underlying24 rfl HX4.out ?_)
    | ((with_reducible refine wpList_at 37 (by rfl) ?_); refine wpList_load_mid_ifC (by rfl) _ _ rfl gy 104 rfl Y4 _ y5 Try.underlying24 rfl HY4.out ?_)
    | ((with_reducible refine wpList_at 17 (by rfl) ?_); refine wpList_neq_ifC (by rfl) _ _ _ _ rfl X1 Y1 rfl rfl _ HF1.out gtR ?_)
    | ((with_reducible refine wpList_at 24 (by rfl) ?_); refine wpList_neq_ifC (by rfl) _ _ _ _ rfl X2 Y2 rfl rfl _ HF2.out gtR ?_)
    | ((with_reducible refine wpList_at 31 (by rfl) ?_); refine wpList_neq_ifC (by rfl) _ _ _ _ rfl X3 Y3 rfl rfl _ HF3.out gtR ?_)
    | ((with_reducible refine wpList_at 38 (by rfl) ?_); refine wpList_neq_ifC (by rfl) _ _ _ _ rfl X4 Y4 rfl rfl _ HF4.out gt32 ?_))
        go_ret
        exact ⟨by rw [Hno.out]; rfl, Hb0.out⟩
      | true =>
        cases f3 with
        | false =>
          have Hno := Lib.hid (show r = false by
            cases r with
            | false => rfl
            | true =>
              exfalso
              have he := Hr.out.1 rfl
              have := Hf.out.2.2.1.2 (by rw [he])
              cases this)
          go_wp2_with (first
    | ((with_reducible refine wpList_at 14 (by rfl) ?_); refine wpList_load_mid_ifC (by rfl) _ _ rfl gx 1 rfl X1 _ x1 Try.underlying26 rfl HX1.out ?_)
    | ((with_reducible refine wpList_at 16 (by rfl) ?_); refine wpList_load_mid_ifC (by rfl) _ _ rfl gy 1 rfl Y1 _ y1 Try.underlying26 rfl HY1.out ?_)
    | ((with_reducible refine wpList_at 21 (by rfl) ?_); refine wpList_load_mid_ifC (by rfl) _ _ rfl gx 35 rfl X2 _ x2 Try.underlying26 rfl HX2.out ?_)
    | ((with_reducible refine wpList_at 23 (by rfl) ?_); refine wpList_load_mid_ifC (by rfl) _ _ rfl gy 35 rfl Y2 _ y2 Try.underlying26 rfl HY2.out ?_)
    | ((with_reducible refine wpList_at 28 (by rfl) ?_); refine wpList_load_mid_ifC (by rfl) _ _ rfl gx 69 rfl X3 _ x3 Try.underlying26 rfl HX3.out ?_)
    | ((with_reducible refine wpList_at 30 (by rfl) ?_); refine wpList_load_mid_ifC (by rfl) _ _ rfl gy 69 rfl Y3 _ y3 Try.underlying26 rfl HY3.out ?_)
    | ((with_reducible refine wpList_at 35 (by rfl) ?_); refine wpList_load_mid_ifC (by rfl) _ _ rfl gx 104 rfl X4 _ x5 Try.underlying24 rfl HX4.out ?_)
    | ((with_reducible refine wpList_at 37 (by rfl) ?_); refine wpList_load_mid_ifC (by rfl) _ _ rfl gy 104 rfl Y4 _ y5 Try.underlying24 rfl HY4.out ?_)
    | ((with_reducible refine wpList_at 17 (by rfl) ?_); refine wpList_neq_ifC (by rfl) _ _ _ _ rfl X1 Y1 rfl rfl _ HF1.out gtR ?_)
    | ((with_reducible refine wpList_at 24 (by rfl) ?_); refine wpList_neq_ifC (by rfl) _ _ _ _ rfl X2 Y2 rfl rfl _ HF2.out gtR ?_)
    | ((with_reducible refine wpList_at 31 (by rfl) ?_); refine wpList_neq_ifC (by rfl) _ _ _ _ rfl X3 Y3 rfl rfl _ HF3.out gtR ?_)
    | ((with_reducible refine wpList_at 38 (by rfl) ?_); refine wpList_neq_ifC (by rfl) _ _ _ _ rfl X4 Y4 rfl rfl _ HF4.out gt32 ?_))
          go_ret
          exact ⟨by rw [Hno.out]; rfl, Hb0.out⟩
        | true =>
          cases f4 with
          | false =>
            have Hno := Lib.hid (show r = false by
              cases r with
              | false => rfl
              | true =>
                exfalso
                have he := Hr.out.1 rfl
                have := Hf.out.2.2.2.2 (by rw [he])
                cases this)
            go_wp2_with (first
    | ((with_reducible refine wpList_at 14 (by rfl) ?_); refine wpList_load_mid_ifC (by rfl) _ _ rfl gx 1 rfl X1 _ x1 Try.underlying26 rfl HX1.out ?_)
    | ((with_reducible refine wpList_at 16 (by rfl) ?_); refine wpList_load_mid_ifC (by rfl) _ _ rfl gy 1 rfl Y1 _ y1 Try.underlying26 rfl HY1.out ?_)
    | ((with_reducible refine wpList_at 21 (by rfl) ?_); refine wpList_load_mid_ifC (by rfl) _ _ rfl gx 35 rfl X2 _ x2 Try.underlying26 rfl HX2.out ?_)
    | ((with_reducible refine wpList_at 23 (by rfl) ?_); refine wpList_load_mid_ifC (by rfl) _ _ rfl gy 35 rfl Y2 _ y2 Try.underlying26 rfl HY2.out ?_)
    | ((with_reducible refine wpList_at 28 (by rfl) ?_); refine wpList_load_mid_ifC (by rfl) _ _ rfl gx 69 rfl X3 _ x3 Try.underlying26 rfl HX3.out ?_)
    | ((with_reducible refine wpList_at 30 (by rfl) ?_); refine wpList_load_mid_ifC (by rfl) _ _ rfl gy 69 rfl Y3 _ y3 Try.underlying26 rfl HY3.out ?_)
    | ((with_reducible refine wpList_at 35 (by rfl) ?_); refine wpList_load_mid_ifC (by rfl) _ _ rfl gx 104 rfl X4 _ x5 Try.underlying24 rfl HX4.out ?_)
    | ((with_reducible refine wpList_at 37 (by rfl) ?_); refine wpList_load_mid_ifC (by rfl) _ _ rfl gy 104 rfl Y4 _ y5 Try.underlying24 rfl HY4.out ?_)
    | ((with_reducible refine wpList_at 17 (by rfl) ?_); refine wpList_neq_ifC (by rfl) _ _ _ _ rfl X1 Y1 rfl rfl _ HF1.out gtR ?_)
    | ((with_reducible refine wpList_at 24 (by rfl) ?_); refine wpList_neq_ifC (by rfl) _ _ _ _ rfl X2 Y2 rfl rfl _ HF2.out gtR ?_)
    | ((with_reducible refine wpList_at 31 (by rfl) ?_); refine wpList_neq_ifC (by rfl) _ _ _ _ rfl X3 Y3 rfl rfl _ HF3.out gtR ?_)
    | ((with_reducible refine wpList_at 38 (by rfl) ?_); refine wpList_neq_ifC (by rfl) _ _ _ _ rfl X4 Y4 rfl rfl _ HF4.out gt32 ?_))
            go_ret
            exact ⟨by rw [Hno.out]; rfl, Hb0.out⟩
          | true =>
            by_cases hnb : nbx = nby
            · subst hnb
              have qb : ((nbx : Int) != (nbx : Int)) = false := by simp
              by_cases hne : nex = ney
              · subst hne
                have qe : ((nex : Int) != (nex : Int)) = false := by simp
                go_upto_region 3 with (first
    | ((with_reducible refine wpList_at 14 (by rfl) ?_); refine wpList_load_mid_ifC (by rfl) _ _ rfl gx 1 rfl X1 _ x1 Try.underlying26 rfl HX1.out ?_)
    | ((with_reducible refine wpList_at 16 (by rfl) ?_); refine wpList_load_mid_ifC (by rfl) _ _ rfl gy 1 rfl Y1 _ y1 Try.underlying26 rfl HY1.out ?_)
    | ((with_reducible refine wpList_at 21 (by rfl) ?_); refine wpList_load_mid_ifC (by rfl) _ _ rfl gx 35 rfl X2 _ x2 Try.underlying26 rfl HX2.out ?_)
    | ((with_reducible refine wpList_at 23 (by rfl) ?_); refine wpList_load_mid_ifC (by rfl) _ _ rfl gy 35 rfl Y2 _ y2 Try.underlying26 rfl HY2.out ?_)
    | ((with_reducible refine wpList_at 28 (by rfl) ?_); refine wpList_load_mid_ifC (by rfl) _ _ rfl gx 69 rfl X3 _ x3 Try.underlying26 rfl HX3.out ?_)
    | ((with_reducible refine wpList_at 30 (by rfl) ?_); refine wpList_load_mid_ifC (by rfl) _ _ rfl gy 69 rfl Y3 _ y3 Try.underlying26 rfl HY3.out ?_)
    | ((with_reducible refine wpList_at 35 (by rfl) ?_); refine wpList_load_mid_ifC (by rfl) _ _ rfl gx 104 rfl X4 _ x5 Try.underlying24 rfl HX4.out ?_)
    | ((with_reducible refine wpList_at 37 (by rfl) ?_); refine wpList_load_mid_ifC (by rfl) _ _ rfl gy 104 rfl Y4 _ y5 Try.underlying24 rfl HY4.out ?_)
    | ((with_reducible refine wpList_at 17 (by rfl) ?_); refine wpList_neq_ifC (by rfl) _ _ _ _ rfl X1 Y1 rfl rfl _ HF1.out gtR ?_)
    | ((with_reducible refine wpList_at 24 (by rfl) ?_); refine wpList_neq_ifC (by rfl) _ _ _ _ rfl X2 Y2 rfl rfl _ HF2.out gtR ?_)
    | ((with_reducible refine wpList_at 31 (by rfl) ?_); refine wpList_neq_ifC (by rfl) _ _ _ _ rfl X3 Y3 rfl rfl _ HF3.out gtR ?_)
    | ((with_reducible refine wpList_at 38 (by rfl) ?_); refine wpList_neq_ifC (by rfl) _ _ _ _ rfl X4 Y4 rfl rfl _ HF4.out gt32 ?_))
                clear x0 x1 x2 x3 x5 y0 y1 y2 y3 y5 q0 q0' qb qe
                go_wp2_with fail
                go_loopw [5] (fun i wr => ∃ k : Nat, k ≤ nbx ∧ i = .int .i64 k ∧ Drawn W2 wr ∧ Hid (∀ j, j < k → x.c.bins[j]? = y.c.bins[j]?)) (fun i _ => nbx - (Go.RowKit.intOf i).toNat)
                case atStart => exact ⟨0, Nat.zero_le _, rfl, Drawn.refl W2, fun j hj => by omega⟩
                case round =>
                  obtain ⟨k, hk, rfl, ⟨dn, rfl⟩, Hk⟩ := hrel
                  have x4' : (W2.drewN dn).cell? ⟨gx, 103, none⟩ = some (.slice Abx nbx cbx) := x4
                  have y4' : (W2.drewN dn).cell? ⟨gy, 103, none⟩ = some (.slice Aby nbx cby) := y4
                  by_cases hlt : k < nbx
                  · have hd1 : decide ((k : Int) < (nbx : Int)) = true := by simp; omega
                    obtain ⟨bx, ox, rfl, hbx, hrx⟩ := Hbx.out (by rw [Hnb.out.1]; omega)
                    obtain ⟨bY, oy, rfl, hby, hry⟩ := Hby.out (by rw [Hnb.out.2]; omega)
                    obtain ⟨u, hu⟩ : ∃ z, x.c.bins[k]? = some z := ⟨_, List.getElem?_eq_getElem (by rw [Hnb.out.1]; exact hlt)⟩
                    obtain ⟨v, hv⟩ : ∃ z, y.c.bins[k]? = some z := ⟨_, List.getElem?_eq_getElem (by rw [Hnb.out.2]; exact hlt)⟩
                    have huw := Hbwx.out u (List.mem_of_getElem? hu)
                    have hvw := Hbwy.out v (List.mem_of_getElem? hv)
                    obtain ⟨UL, hUL⟩ : ∃ z, z = bC u := ⟨_, rfl⟩
                    obtain ⟨VL, hVL⟩ : ∃ z, z = bC v := ⟨_, rfl⟩
                    obtain ⟨r0, hr0, hr0r⟩ := bin_cmp huw.d hvw.d hUL hVL
                    have Hr0 := Lib.hid hr0
                    have Hr0r := Lib.hid hr0r
                    have HUi := Lib.hid (show (Try.prog.info? 63).map (·.size) = some UL.length by rw [hUL, bC_length huw]; exact binSize)
                    have HVi := Lib.hid (show (Try.prog.info? 63).map (·.size) = some VL.length by rw [hVL, bC_length hvw]; exact binSize)
                    have hru : (W2.drewN dn).rangeAt bx (ox + k * 35) UL := fun j q hq => by rw [hUL] at hq; exact hrx k u hu j q hq
                    have hrv : (W2.drewN dn).rangeAt bY (oy + k * 35) VL := fun j q hq => by rw [hVL] at hq; exact hry k v hv j q hq
                    have Hu := Lib.hid hu
                    have Hv := Lib.hid hv
                    clear hr0 hr0r hUL hVL huw hvw hu hv hrx hry hbx hby
                    go_upto_region 6 with fail
                    refine wp_region_held_drew (S := fun w' => w'.cell? ⟨gx, 103, none⟩ = some (.slice (some ⟨bx, ox, none⟩) nbx cbx) ∧ w'.cell? ⟨gy, 103, none⟩ = some (.slice (some ⟨bY, oy, none⟩) nbx cby) ∧ w'.rangeAt bx (ox + k * 35) UL ∧ w'.rangeAt bY (oy + k * 35) VL) (by kernel_rfl) ⟨x4', y4', hru, hrv⟩ (fun hHeld => ?_)
                    refine anyH_take (i := 0) (v := .pointer (some ⟨gx, 103, none⟩)) (some 65) rfl rfl (by kernel_rfl) (by kernel_rfl) (by kernel_rfl) (fun _ _ _ h => h) (Or.inl ⟨by rfl, fun w' hw => by (go_simp)⟩) (by assumption) ?_
                    simp only [Act.put, List.setIfInBounds_toArray, List.set_cons_zero, List.set_cons_succ]
                    refine anyH_take (i := 1) (v := .slice (some ⟨bx, ox, none⟩) nbx cbx) (some 66) rfl rfl (by kernel_rfl) (by kernel_rfl) (by kernel_rfl) (fun _ _ _ h => h) (Or.inl ⟨by rfl, fun w' hw => by (have hcc := hw.1; go_simp)⟩) (by assumption) ?_
                    simp only [Act.put, List.setIfInBounds_toArray, List.set_cons_zero, List.set_cons_succ]
                    refine anyH_take (i := 2) (v := .int .i64 (k : Nat)) (some 67) rfl rfl (by kernel_rfl) (by kernel_rfl) (by kernel_rfl) (fun _ _ _ h => h) (Or.inl ⟨by rfl, fun w' hw => by (go_simp)⟩) (by assumption) ?_
                    simp only [Act.put, List.setIfInBounds_toArray, List.set_cons_zero, List.set_cons_succ]
                    refine anyH_take (i := 3) (v := .pointer (some ⟨bx, ox + k * 35, none⟩)) (some 68) rfl rfl (by kernel_rfl) (by kernel_rfl) (by kernel_rfl) (fun _ _ _ h => h) (Or.inl ⟨by rfl, fun w' hw => by (go_simp; try (intro h; omega))⟩) (by assumption) ?_
                    simp only [Act.put, List.setIfInBounds_toArray, List.set_cons_zero, List.set_cons_succ]
                    refine anyH_take (i := 4) (v := .agg UL.toArray) (some 69) rfl rfl (by kernel_rfl) (by kernel_rfl) (by kernel_rfl) (fun _ _ _ h => h) (yieldsIf_load_mid (by rfl) 63 (.tmp 68) rfl bx (ox + k * 35) rfl UL _ (fun w' h => h.2.2.1) Try.underlying63 rfl HUi.out) (by assumption) ?_
                    simp only [Act.put, List.setIfInBounds_toArray, List.set_cons_zero, List.set_cons_succ]
                    refine anyH_take (i := 5) (v := .pointer (some ⟨gy, 103, none⟩)) (some 70) rfl rfl (by kernel_rfl) (by kernel_rfl) (by kernel_rfl) (fun _ _ _ h => h) (Or.inl ⟨by rfl, fun w' hw => by (go_simp)⟩) (by assumption) ?_
                    simp only [Act.put, List.setIfInBounds_toArray, List.set_cons_zero, List.set_cons_succ]
                    refine anyH_take (i := 6) (v := .slice (some ⟨bY, oy, none⟩) nbx cby) (some 71) rfl rfl (by kernel_rfl) (by kernel_rfl) (by kernel_rfl) (fun _ _ _ h => h) (Or.inl ⟨by rfl, fun w' hw => by (have hcc := hw.2.1; go_simp)⟩) (by assumption) ?_
                    simp only [Act.put, List.setIfInBounds_toArray, List.set_cons_zero, List.set_cons_succ]
                    refine anyH_take (i := 7) (v := .int .i64 (k : Nat)) (some 72) rfl rfl (by kernel_rfl) (by kernel_rfl) (by kernel_rfl) (fun _ _ _ h => h) (Or.inl ⟨by rfl, fun w' hw => by (go_simp)⟩) (by assumption) ?_
                    simp only [Act.put, List.setIfInBounds_toArray, List.set_cons_zero, List.set_cons_succ]
                    refine anyH_take (i := 8) (v := .pointer (some ⟨bY, oy + k * 35, none⟩)) (some 73) rfl rfl (by kernel_rfl) (by kernel_rfl) (by kernel_rfl) (fun _ _ _ h => h) (Or.inl ⟨by rfl, fun w' hw => by (go_simp; try (intro h; omega))⟩) (by assumption) ?_
                    simp only [Act.put, List.setIfInBounds_toArray, List.set_cons_zero, List.set_cons_succ]
                    refine anyH_take (i := 9) (v := .agg VL.toArray) (some 74) rfl rfl (by kernel_rfl) (by kernel_rfl) (by kernel_rfl) (fun _ _ _ h => h) (yieldsIf_load_mid (by rfl) 63 (.tmp 73) rfl bY (oy + k * 35) rfl VL _ (fun w' h => h.2.2.2) Try.underlying63 rfl HVi.out) (by assumption) ?_
                    simp only [Act.put, List.setIfInBounds_toArray, List.set_cons_zero, List.set_cons_succ]
                    refine anyH_take (i := 10) (v := .bool (!r0)) (some 75) rfl rfl (by kernel_rfl) (by kernel_rfl) (by kernel_rfl) (fun _ _ _ h => h) (Or.inl ⟨by rfl, fun w' hw => by (have hc := Hr0.out; have hg := gtNN; go_simp)⟩) (by assumption) ?_
                    simp only [Act.put, List.setIfInBounds_toArray, List.set_cons_zero, List.set_cons_succ]
                    refine wpAnyH_done (by kernel_rfl) ?_ _
                    clear hHeld hru hrv
                    cases r0 with
                    | false =>
                      have Hno := Lib.hid (show r = false by
                        cases r with
                        | false => rfl
                        | true =>
                          have he := Hr.out.1 rfl
                          have h1 := Hu.out
                          rw [he, Hv.out] at h1
                          injection h1 with h1
                          have := Hr0r.out.2 h1.symm
                          cases this)
                      go_wp2_with fail
                      go_ret
                      exact ⟨by rw [Hno.out]; rfl, by first | exact Below.dN Hb0.out _ | exact Below.dN (Below.dN Hb0.out _) _⟩
                    | true =>
                      have Hk2 : Hid (∀ j, j < k + 1 → x.c.bins[j]? = y.c.bins[j]?) := fun j hj => by
                        by_cases e : j = k
                        · rw [e, Hu.out, Hv.out, Hr0r.out.1 rfl]
                        · exact Hk.out j (by omega)
                      go_wp2_with fail
                      go_roundw
                      case rel => exact ⟨k + 1, by omega, by go_num, ⟨dn + 1, rfl⟩, Hk2⟩
                      case measure => simp [Go.RowKit.intOf]; omega
                  · obtain rfl : k = nbx := by omega
                    have hd1 : decide ((k : Int) < (k : Int)) = false := by simp
                    have Hbins := Lib.hid (show x.c.bins = y.c.bins from List.ext_getElem? fun j => by
                      by_cases hj : j < k
                      · exact Hk.out j hj
                      · rw [List.getElem?_eq_none (by rw [Hnb.out.1]; omega), List.getElem?_eq_none (by rw [Hnb.out.2]; omega)])
                    have X6 := Lib.hid x6
                    have Y6 := Lib.hid y6
                    clear x4 y4 x6 y6
                    go_wp2_with fail
                    obtain ⟨W3, hW3⟩ : ∃ z, z = W2.drewN dn := ⟨_, rfl⟩
                    have x6 : W3.cell? ⟨gx, 136, none⟩ = some (.slice Aex nex cex) := by rw [hW3]; exact X6.out
                    have y6 : W3.cell? ⟨gy, 136, none⟩ = some (.slice Aey nex cey) := by rw [hW3]; exact Y6.out
                    have Hex3 := Lib.hid (show RowsAt W3 gx Aex x.c.evs by rw [hW3]; exact Hex.out)
                    have Hey3 := Lib.hid (show RowsAt W3 gx Aey y.c.evs by rw [hW3]; exact Hey.out)
                    have Hb3 := Lib.hid (show Below gx w W3 by rw [hW3]; exact Below.dN Hb0.out _)
                    rw [← hW3]
                    clear hW3 x4' y4'
                    go_loopw [6] (fun i wr => ∃ k : Nat, k ≤ nex ∧ i = .int .i64 k ∧ Drawn W3 wr ∧ Hid (∀ j, j < k → x.c.evs.getD j [] = y.c.evs.getD j [])) (fun i _ => nex - (Go.RowKit.intOf i).toNat)
                    case atStart => exact ⟨0, Nat.zero_le _, rfl, Drawn.refl W3, fun j hj => by omega⟩
                    case round =>
                      obtain ⟨k2, hk2, rfl, ⟨dm, rfl⟩, Hk2⟩ := hrel
                      have x6' : (W3.drewN dm).cell? ⟨gx, 136, none⟩ = some (.slice Aex nex cex) := x6
                      have y6' : (W3.drewN dm).cell? ⟨gy, 136, none⟩ = some (.slice Aey nex cey) := y6
                      by_cases hlt2 : k2 < nex
                      · have hd2 : decide ((k2 : Int) < (nex : Int)) = true := by simp; omega
                        obtain ⟨bx, ox, rfl, hbx, hrx⟩ := Hex3.out (by rw [Hne.out.1]; omega)
                        obtain ⟨bY, oy, rfl, hby, hry⟩ := Hey3.out (by rw [Hne.out.2]; omega)
                        obtain ⟨Au, cu, hcu, hlu, hmu, hbu⟩ := hrx k2 (by rw [Hne.out.1]; exact hlt2)
                        obtain ⟨Av, cv, hcv, hlv, hmv, hbv⟩ := hry k2 (by rw [Hne.out.2]; exact hlt2)
                        obtain ⟨u, hu⟩ : ∃ z, x.c.evs.getD k2 [] = z := ⟨_, rfl⟩
                        obtain ⟨v, hv⟩ : ∃ z, y.c.evs.getD k2 [] = z := ⟨_, rfl⟩
                        rw [hu] at hcu hlu hbu
                        rw [hv] at hcv hlv hbv
                        have hcu' : (W3.drewN dm).cell? ⟨bx, ox + k2, none⟩ = some (.slice Au u.length cu) := hcu
                        have hcv' : (W3.drewN dm).cell? ⟨bY, oy + k2, none⟩ = some (.slice Av v.length cv) := hcv
                        have hlim : u.length ≤ maxLen ∧ v.length ≤ maxLen := ⟨Nat.le_trans hlu hmu, Nat.le_trans hlv hmv⟩
                        obtain ⟨lu, hlu2⟩ : ∃ z, u.length = z := ⟨_, rfl⟩
                        obtain ⟨lv, hlv2⟩ : ∃ z, v.length = z := ⟨_, rfl⟩
                        have hsame := fun dd => same_any gx gx Au Av cu cv u v (W3.drewN dd) (hbu.drewN dd) (hbv.drewN dd) hlim.1 hlim.2
                        rw [hlu2, hlv2] at hsame
                        rw [hlu2] at hcu'
                        rw [hlv2] at hcv'
                        have Hsame := Lib.hid hsame
                        have Hu := Lib.hid hu
                        have Hv := Lib.hid hv
                        clear hrx hry hcu hcv hbu hbv hu hv hlu hlv hmu hmv hlu2 hlv2 hsame hlim hbx hby
                        go_upto_region 11 with fail
                        refine wp_region_held_drew (S := fun w' => w'.cell? ⟨gx, 136, none⟩ = some (.slice (some ⟨bx, ox, none⟩) nex cex) ∧ w'.cell? ⟨gy, 136, none⟩ = some (.slice (some ⟨bY, oy, none⟩) nex cey) ∧ w'.cell? ⟨bx, ox + k2, none⟩ = some (.slice Au lu cu) ∧ w'.cell? ⟨bY, oy + k2, none⟩ = some (.slice Av lv cv)) (by kernel_rfl) ⟨x6', y6', hcu', hcv'⟩ (fun hHeld => ?_)
                        refine anyH_take (i := 0) (v := .pointer (some ⟨gx, 136, none⟩)) (some 83) rfl rfl (by kernel_rfl) (by kernel_rfl) (by kernel_rfl) (fun _ _ _ h => h) (Or.inl ⟨by rfl, fun w' hw => by (go_simp)⟩) (by assumption) ?_
                        simp only [Act.put, List.setIfInBounds_toArray, List.set_cons_zero, List.set_cons_succ]
                        refine anyH_take (i := 1) (v := .slice (some ⟨bx, ox, none⟩) nex cex) (some 84) rfl rfl (by kernel_rfl) (by kernel_rfl) (by kernel_rfl) (fun _ _ _ h => h) (Or.inl ⟨by rfl, fun w' hw => by (have hcc := hw.1; go_simp)⟩) (by assumption) ?_
                        simp only [Act.put, List.setIfInBounds_toArray, List.set_cons_zero, List.set_cons_succ]
                        refine anyH_take (i := 2) (v := .int .i64 (k2 : Nat)) (some 85) rfl rfl (by kernel_rfl) (by kernel_rfl) (by kernel_rfl) (fun _ _ _ h => h) (Or.inl ⟨by rfl, fun w' hw => by (go_simp)⟩) (by assumption) ?_
                        simp only [Act.put, List.setIfInBounds_toArray, List.set_cons_zero, List.set_cons_succ]
                        refine anyH_take (i := 3) (v := .pointer (some ⟨bx, ox + k2, none⟩)) (some 86) rfl rfl (by kernel_rfl) (by kernel_rfl) (by kernel_rfl) (fun _ _ _ h => h) (Or.inl ⟨by rfl, fun w' hw => by (go_simp; try (intro h; omega))⟩) (by assumption) ?_
                        simp only [Act.put, List.setIfInBounds_toArray, List.set_cons_zero, List.set_cons_succ]
                        refine anyH_take (i := 4) (v := .slice Au lu cu) (some 87) rfl rfl (by kernel_rfl) (by kernel_rfl) (by kernel_rfl) (fun _ _ _ h => h) (Or.inl ⟨by rfl, fun w' hw => by (have hcc := hw.2.2.1; go_simp)⟩) (by assumption) ?_
                        simp only [Act.put, List.setIfInBounds_toArray, List.set_cons_zero, List.set_cons_succ]
                        refine anyH_take (i := 5) (v := .pointer (some ⟨gy, 136, none⟩)) (some 88) rfl rfl (by kernel_rfl) (by kernel_rfl) (by kernel_rfl) (fun _ _ _ h => h) (Or.inl ⟨by rfl, fun w' hw => by (go_simp)⟩) (by assumption) ?_
                        simp only [Act.put, List.setIfInBounds_toArray, List.set_cons_zero, List.set_cons_succ]
                        refine anyH_take (i := 6) (v := .slice (some ⟨bY, oy, none⟩) nex cey) (some 89) rfl rfl (by kernel_rfl) (by kernel_rfl) (by kernel_rfl) (fun _ _ _ h => h) (Or.inl ⟨by rfl, fun w' hw => by (have hcc := hw.2.1; go_simp)⟩) (by assumption) ?_
                        simp only [Act.put, List.setIfInBounds_toArray, List.set_cons_zero, List.set_cons_succ]
                        refine anyH_take (i := 7) (v := .int .i64 (k2 : Nat)) (some 90) rfl rfl (by kernel_rfl) (by kernel_rfl) (by kernel_rfl) (fun _ _ _ h => h) (Or.inl ⟨by rfl, fun w' hw => by (go_simp)⟩) (by assumption) ?_
                        simp only [Act.put, List.setIfInBounds_toArray, List.set_cons_zero, List.set_cons_succ]
                        refine anyH_take (i := 8) (v := .pointer (some ⟨bY, oy + k2, none⟩)) (some 91) rfl rfl (by kernel_rfl) (by kernel_rfl) (by kernel_rfl) (fun _ _ _ h => h) (Or.inl ⟨by rfl, fun w' hw => by (go_simp; try (intro h; omega))⟩) (by assumption) ?_
                        simp only [Act.put, List.setIfInBounds_toArray, List.set_cons_zero, List.set_cons_succ]
                        refine anyH_take (i := 9) (v := .slice Av lv cv) (some 92) rfl rfl (by kernel_rfl) (by kernel_rfl) (by kernel_rfl) (fun _ _ _ h => h) (Or.inl ⟨by rfl, fun w' hw => by (have hcc := hw.2.2.2; go_simp)⟩) (by assumption) ?_
                        simp only [Act.put, List.setIfInBounds_toArray, List.set_cons_zero, List.set_cons_succ]
                        refine wpAnyH_ready (rs := [10]) (by kernel_rfl) (by simp) ?_
                        refine AllReadyH.cons rfl (fun K hK => ?_) AllReadyH.nil
                        go_simp
                        go_at_call 13
                        refine Calls.mono (Hsame.out (dm + 1)) ?_
                        rintro e w5 ⟨rfl, nd, rfl⟩
                        go_wp2_with fail
                        refine hK.out _ _ ⟨x6', y6', hcu', hcv'⟩ (fun hHeldx => ?_)
                        clear hK K
                        try simp only [Act.put, List.setIfInBounds_toArray, List.set_cons_zero, List.set_cons_succ]
                        refine anyH_take (i := 11) (v := .bool (!decide (u = v))) (some 94) rfl rfl (by kernel_rfl) (by kernel_rfl) (by kernel_rfl) (fun _ _ _ h => h) (Or.inl ⟨by rfl, fun w' hw => by (go_simp)⟩) (by assumption) ?_
                        simp only [Act.put, List.setIfInBounds_toArray, List.set_cons_zero, List.set_cons_succ]
                        refine wpAnyH_done (by kernel_rfl) ?_ _
                        clear hHeld hcu' hcv'
                        by_cases huv : u = v
                        · have hq : decide (u = v) = true := by simp [huv]
                          have Hk3 : Hid (∀ j, j < k2 + 1 → x.c.evs.getD j [] = y.c.evs.getD j []) := fun j hj => by
                            by_cases e : j = k2
                            · rw [e, Hu.out, Hv.out, huv]
                            · exact Hk2.out j (by omega)
                          rw [hq]
                          clear huv hq
                          go_wp2_with fail
                          go_roundw
                          case rel => exact ⟨k2 + 1, by omega, by go_num, ⟨dm + 1 + nd, by first | rfl | (simp only [World.drewN_add_]; done) | (rw [World.drewN_add_]; rfl) | skip⟩, Hk3⟩
                          case measure => simp [Go.RowKit.intOf]; omega
                        · have hq : decide (u = v) = false := by simp [huv]
                          have Hno := Lib.hid (show r = false by
                            cases r with
                            | false => rfl
                            | true =>
                              have he := Hr.out.1 rfl
                              exact absurd (by rw [← Hu.out, ← Hv.out, he]) huv)
                          rw [hq]
                          clear huv hq
                          go_wp2_with fail
                          go_ret
                          exact ⟨by rw [Hno.out]; rfl, by first | exact Below.dN Hb3.out _ | exact Below.dN (Below.dN Hb3.out _) _ | exact Below.dN (Below.dN (Below.dN Hb3.out _) _) _⟩
                      · obtain rfl : k2 = nex := by omega
                        have hd2 : decide ((k2 : Int) < (k2 : Int)) = false := by simp
                        have Hyes := Lib.hid (show r = true from Hr.out.2 (Hext.out (by rw [Hep.out.1, Hep.out.2]) (Hf.out.1.1 (by simp)) (Hf.out.2.1.1 (by simp)) (Hf.out.2.2.1.1 (by simp)) Hbins.out (Hf.out.2.2.2.1 (by simp)) (List.ext_getElem? fun j => by
                          by_cases hj : j < k2
                          · have := Hk2.out j hj
                            have h1 : j < x.c.evs.length := by rw [Hne.out.1]; exact hj
                            have h2 : j < y.c.evs.length := by rw [Hne.out.2]; exact hj
                            simp only [List.getD, List.getElem?_eq_getElem h1, List.getElem?_eq_getElem h2, Option.getD_some] at this
                            rw [List.getElem?_eq_getElem h1, List.getElem?_eq_getElem h2, this]
                          · rw [List.getElem?_eq_none (by rw [Hne.out.1]; omega), List.getElem?_eq_none (by rw [Hne.out.2]; omega)])))
                        go_wp2_with fail
                        go_ret
                        exact ⟨by rw [Hyes.out]; rfl, by first | exact Below.dN Hb3.out _ | exact Hb3.out⟩
              · have qe : ((nex : Int) != (ney : Int)) = true := by simp; omega
                have Hno := Lib.hid (show r = false by
                  cases r with
                  | false => rfl
                  | true =>
                    exfalso
                    have he := Hr.out.1 rfl
                    exact hne (by rw [← Hne.out.1, ← Hne.out.2, he]))
                go_wp2_with (first
    | ((with_reducible refine wpList_at 14 (by rfl) ?_); refine wpList_load_mid_ifC (by rfl) _ _ rfl gx 1 rfl X1 _ x1 Try.underlying26 rfl HX1.out ?_)
    | ((with_reducible refine wpList_at 16 (by rfl) ?_); refine wpList_load_mid_ifC (by rfl) _ _ rfl gy 1 rfl Y1 _ y1 Try.underlying26 rfl HY1.out ?_)
    | ((with_reducible refine wpList_at 21 (by rfl) ?_); refine wpList_load_mid_ifC (by rfl) _ _ rfl gx 35 rfl X2 _ x2 Try.underlying26 rfl HX2.out ?_)
    | ((with_reducible refine wpList_at 23 (by rfl) ?_); refine wpList_load_mid_ifC (by rfl) _ _ rfl gy 35 rfl Y2 _ y2 Try.underlying26 rfl HY2.out ?_)
    | ((with_reducible refine wpList_at 28 (by rfl) ?_); refine wpList_load_mid_ifC (by rfl) _ _ rfl gx 69 rfl X3 _ x3 Try.underlying26 rfl HX3.out ?_)
    | ((with_reducible refine wpList_at 30 (by rfl) ?_); refine wpList_load_mid_ifC (by rfl) _ _ rfl gy 69 rfl Y3 _ y3 Try.underlying26 rfl HY3.out ?_)
    | ((with_reducible refine wpList_at 35 (by rfl) ?_); refine wpList_load_mid_ifC (by rfl) _ _ rfl gx 104 rfl X4 _ x5 Try.underlying24 rfl HX4.out ?_)
    | ((with_reducible refine wpList_at 37 (by rfl) ?_); refine wpList_load_mid_ifC (by rfl) _ _ rfl gy 104 rfl Y4 _ y5 Try.underlying24 rfl HY4.out ?_)
    | ((with_reducible refine wpList_at 17 (by rfl) ?_); refine wpList_neq_ifC (by rfl) _ _ _ _ rfl X1 Y1 rfl rfl _ HF1.out gtR ?_)
    | ((with_reducible refine wpList_at 24 (by rfl) ?_); refine wpList_neq_ifC (by rfl) _ _ _ _ rfl X2 Y2 rfl rfl _ HF2.out gtR ?_)
    | ((with_reducible refine wpList_at 31 (by rfl) ?_); refine wpList_neq_ifC (by rfl) _ _ _ _ rfl X3 Y3 rfl rfl _ HF3.out gtR ?_)
    | ((with_reducible refine wpList_at 38 (by rfl) ?_); refine wpList_neq_ifC (by rfl) _ _ _ _ rfl X4 Y4 rfl rfl _ HF4.out gt32 ?_))
                go_ret
                exact ⟨by rw [Hno.out]; rfl, Hb0.out⟩
            · have qb : ((nbx : Int) != (nby : Int)) = true := by simp; omega
              have Hno := Lib.hid (show r = false by
                cases r with
                | false => rfl
                | true =>
                  exfalso
                  have he := Hr.out.1 rfl
                  exact hnb (by rw [← Hnb.out.1, ← Hnb.out.2, he]))
              go_wp2_with (first
    | ((with_reducible refine wpList_at 14 (by rfl) ?_); refine wpList_load_mid_ifC (by rfl) _ _ rfl gx 1 rfl X1 _ x1 Try.underlying26 rfl HX1.out ?_)
    | ((with_reducible refine wpList_at 16 (by rfl) ?_); refine wpList_load_mid_ifC (by rfl) _ _ rfl gy 1 rfl Y1 _ y1 Try.underlying26 rfl HY1.out ?_)
    | ((with_reducible refine wpList_at 21 (by rfl) ?_); refine wpList_load_mid_ifC (by rfl) _ _ rfl gx 35 rfl X2 _ x2 Try.underlying26 rfl HX2.out ?_)
    | ((with_reducible refine wpList_at 23 (by rfl) ?_); refine wpList_load_mid_ifC (by rfl) _ _ rfl gy 35 rfl Y2 _ y2 Try.underlying26 rfl HY2.out ?_)
    | ((with_reducible refine wpList_at 28 (by rfl) ?_); refine wpList_load_mid_ifC (by rfl) _ _ rfl gx 69 rfl X3 _ x3 Try.underlying26 rfl HX3.out ?_)
    | ((with_reducible refine wpList_at 30 (by rfl) ?_); refine wpList_load_mid_ifC (by rfl) _ _ rfl gy 69 rfl Y3 _ y3 Try.underlying26 rfl HY3.out ?_)
    | ((with_reducible refine wpList_at 35 (by rfl) ?_); refine wpList_load_mid_ifC (by rfl) _ _ rfl gx 104 rfl X4 _ x5 Try.underlying24 rfl HX4.out ?_)
    | ((with_reducible refine wpList_at 37 (by rfl) ?_); refine wpList_load_mid_ifC (by rfl) _ _ rfl gy 104 rfl Y4 _ y5 Try.underlying24 rfl HY4.out ?_)
    | ((with_reducible refine wpList_at 17 (by rfl) ?_); refine wpList_neq_ifC (by rfl) _ _ _ _ rfl X1 Y1 rfl rfl _ HF1.out gtR ?_)
    | ((with_reducible refine wpList_at 24 (by rfl) ?_); refine wpList_neq_ifC (by rfl) _ _ _ _ rfl X2 Y2 rfl rfl _ HF2.out gtR ?_)
    | ((with_reducible refine wpList_at 31 (by rfl) ?_); refine wpList_neq_ifC (by rfl) _ _ _ _ rfl X3 Y3 rfl rfl _ HF3.out gtR ?_)
    | ((with_reducible refine wpList_at 38 (by rfl) ?_); refine wpList_neq_ifC (by rfl) _ _ _ _ rfl X4 Y4 rfl rfl _ HF4.out gt32 ?_))
              go_ret
              exact ⟨by rw [Hno.out]; rfl, Hb0.out⟩
  · have q0 : ((epx : Int) != (epy : Int)) = true := by simp; omega
    have q0' : (epx != epy) = true := by simpa using h0
    have Hno := Lib.hid (show r = false by
      cases r with
      | false => rfl
      | true =>
        exfalso
        have he := Hr.out.1 rfl
        exact h0 (by rw [← Hep.out.1, ← Hep.out.2, he]))
    go_wp2_with (first
    | ((with_reducible refine wpList_at 14 (by rfl) ?_); refine wpList_load_mid_ifC (by rfl) _ _ rfl gx 1 rfl X1 _ x1 Try.underlying26 rfl HX1.out ?_)
    | ((with_reducible refine wpList_at 16 (by rfl) ?_); refine wpList_load_mid_ifC (by rfl) _ _ rfl gy 1 rfl Y1 _ y1 Try.underlying26 rfl HY1.out ?_)
    | ((with_reducible refine wpList_at 21 (by rfl) ?_); refine wpList_load_mid_ifC (by rfl) _ _ rfl gx 35 rfl X2 _ x2 Try.underlying26 rfl HX2.out ?_)
    | ((with_reducible refine wpList_at 23 (by rfl) ?_); refine wpList_load_mid_ifC (by rfl) _ _ rfl gy 35 rfl Y2 _ y2 Try.underlying26 rfl HY2.out ?_)
    | ((with_reducible refine wpList_at 28 (by rfl) ?_); refine wpList_load_mid_ifC (by rfl) _ _ rfl gx 69 rfl X3 _ x3 Try.underlying26 rfl HX3.out ?_)
    | ((with_reducible refine wpList_at 30 (by rfl) ?_); refine wpList_load_mid_ifC (by rfl) _ _ rfl gy 69 rfl Y3 _ y3 Try.underlying26 rfl HY3.out ?_)
    | ((with_reducible refine wpList_at 35 (by rfl) ?_); refine wpList_load_mid_ifC (by rfl) _ _ rfl gx 104 rfl X4 _ x5 Try.underlying24 rfl HX4.out ?_)
    | ((with_reducible refine wpList_at 37 (by rfl) ?_); refine wpList_load_mid_ifC (by rfl) _ _ rfl gy 104 rfl Y4 _ y5 Try.underlying24 rfl HY4.out ?_)
    | ((with_reducible refine wpList_at 17 (by rfl) ?_); refine wpList_neq_ifC (by rfl) _ _ _ _ rfl X1 Y1 rfl rfl _ HF1.out gtR ?_)
    | ((with_reducible refine wpList_at 24 (by rfl) ?_); refine wpList_neq_ifC (by rfl) _ _ _ _ rfl X2 Y2 rfl rfl _ HF2.out gtR ?_)
    | ((with_reducible refine wpList_at 31 (by rfl) ?_); refine wpList_neq_ifC (by rfl) _ _ _ _ rfl X3 Y3 rfl rfl _ HF3.out gtR ?_)
    | ((with_reducible refine wpList_at 38 (by rfl) ?_); refine wpList_neq_ifC (by rfl) _ _ _ _ rfl X4 Y4 rfl rfl _ HF4.out gt32 ?_))
    go_ret
    exact ⟨by rw [Hno.out]; rfl, Hb0.out⟩

end Go.Proofs.Ytlfddijmanlneaa

namespace Go.Proofs.Ytlfddijmanlneaa
open Go.RowKit
set_option linter.unusedVariables false
set_option linter.unusedSimpArgs false


def okR (r : RefF) : Bool := decide (0 ≤ r.a) && (decide (r.a ≤ 65535) && (decide (0 ≤ r.n) && decide (r.n ≤ 65536)))
theorem okR_iff {r : RefF} : okR r = true ↔ OkR r := by
  unfold okR OkR
  simp only [Bool.and_eq_true, decide_eq_true_eq]
set_option maxHeartbeats 4000000 in
set_option maxRecDepth 100000 in
theorem rref_any (r : RefF) (hr : RefW r) (TL : List Value) (hTL : TL = rC r) (w : World) :
    Calls Try.prog 31 #[.agg TL.toArray] w fun e w' => e = .returned (.bool (okR r)) ∧ Below w.heap.size w w' := by
  obtain ⟨W, hW⟩ : ∃ W, W = w.alloc (.cells TL.toArray 26) := ⟨_, rfl⟩
  have hR : Arr W w.heap.size 26 TL := by rw [hW]; exact Arr.new w _ _
  have hB : Below w.heap.size w W := by rw [hW]; exact (Below.refl _ w).alloc (Nat.le_refl _) _
  have hc1 : W.cell? ⟨w.heap.size, 32, none⟩ = some (.int .i64 r.a) := by rw [hR.cell, hTL]; exact (refC_at hr.d r.a r.n).1
  have hc2 : W.cell? ⟨w.heap.size, 33, none⟩ = some (.int .i64 r.n) := by rw [hR.cell, hTL]; exact (refC_at hr.d r.a r.n).2
  obtain ⟨a, ha⟩ : ∃ z, r.a = z := ⟨_, rfl⟩
  obtain ⟨n, hn⟩ : ∃ z, r.n = z := ⟨_, rfl⟩
  have Hok := Lib.hid (show okR r = (decide (0 ≤ a) && (decide (a ≤ 65535) && (decide (0 ≤ n) && decide (n ≤ 65536)))) by rw [← ha, ← hn]; rfl)
  rw [ha] at hc1
  rw [hn] at hc2
  have HW := Lib.hid hW
  clear hW hR hTL ha hn
  rw [Hok.out]
  obtain ⟨b1, hb1⟩ : ∃ b, decide (0 ≤ a) = b := ⟨_, rfl⟩
  obtain ⟨b2, hb2⟩ : ∃ b, decide (a ≤ 65535) = b := ⟨_, rfl⟩
  obtain ⟨b3, hb3⟩ : ∃ b, decide (0 ≤ n) = b := ⟨_, rfl⟩
  obtain ⟨b4, hb4⟩ : ∃ b, decide (n ≤ 65536) = b := ⟨_, rfl⟩
  have hb1' : decide (a ≥ 0) = b1 := hb1
  have hb3' : decide (n ≥ 0) = b3 := hb3
  rw [hb1, hb2, hb3, hb4]
  go_enter Try.func31, Try.ntmps31
  go_upto_region 1 with fail
  rw [← HW.out]
  clear HW Hok
  cases b1 with
  | false =>
    go_wp2_with fail
    go_ret
    exact ⟨rfl, hB⟩
  | true =>
    cases b2 with
    | false =>
      go_wp2_with fail
      go_ret
      exact ⟨rfl, hB⟩
    | true =>
      cases b3 with
      | false =>
        go_wp2_with fail
        go_ret
        exact ⟨rfl, hB⟩
      | true =>
        go_wp2_with fail
        go_ret
        exact ⟨rfl, hB⟩


set_option maxHeartbeats 16000000 in
set_option maxRecDepth 100000 in
theorem right_any (c : Com) (Ab : Option Addr) (cb : Nat) (VL R1 R2 R3 SL : List Value) (ev : Value) (n0 : Nat) (hn0 : c.bins.length = n0) (hcb : n0 ≤ cb) (hcm : cb ≤ maxLen)
    (hVL : VL = comV c.ep R1 R2 R3 (.slice Ab n0 cb) SL ev) (hR1 : R1 = rC c.r1) (hR2 : R2 = rC c.r2) (hR3 : R3 = rC c.r3) (hr1 : RefW c.r1) (hr2 : RefW c.r2) (hr3 : RefW c.r3) (hsl : SL.length = 32) (hep : c.ep < 18446744073709551616)
    (w : World) (hbn : RowOf bC 35 w w.heap.size Ab c.bins) (hbw : ∀ b ∈ c.bins, BinW b) (r : Bool) (hr : r = true ↔ MayC c) :
    Calls Try.prog 10 #[.agg VL.toArray] w fun e w' => e = .returned (.bool r) ∧ Below w.heap.size w w' := by
  obtain ⟨W, hW⟩ : ∃ W, W = w.alloc (.cells VL.toArray 30) := ⟨_, rfl⟩
  have l1 : R1.length = 34 := by rw [hR1]; exact rC_length hr1
  have l2 : R2.length = 34 := by rw [hR2]; exact rC_length hr2
  have l3 : R3.length = 34 := by rw [hR3]; exact rC_length hr3
  have hB : Below w.heap.size w W := by rw [hW]; exact (Below.refl _ w).alloc (Nat.le_refl _) _
  have hR : Arr W w.heap.size 30 VL := by rw [hW]; exact Arr.new w _ _
  have Hat := Lib.hid (fun (w' : World) (hA : Arr w' w.heap.size 30 VL) => (show ComAt w' w.heap.size c.ep R1 R2 R3 (.slice Ab n0 cb) SL ev from Arr.com (by rw [← hVL]; exact hA) l1 l2 l3 hsl))
  have hm' : cb ≤ 9223372036854775807 := by unfold maxLen at hcm; omega
  have HBi := Lib.hid (show ∀ L : List Value, L.length = 35 → (Try.prog.info? 63).map (·.size) = some L.length from fun L h => by rw [h]; exact binSize)
  have H1 := Lib.hid (show (Try.prog.info? 26).map (·.size) = some R1.length by rw [l1]; exact refSize)
  have H2 := Lib.hid (show (Try.prog.info? 26).map (·.size) = some R2.length by rw [l2]; exact refSize)
  have H3 := Lib.hid (show (Try.prog.info? 26).map (·.size) = some R3.length by rw [l3]; exact refSize)
  have HR := Lib.hid (show R1 = rC c.r1 ∧ R2 = rC c.r2 ∧ R3 = rC c.r3 from ⟨hR1, hR2, hR3⟩)
  have Hw := Lib.hid (show RefW c.r1 ∧ RefW c.r2 ∧ RefW c.r3 from ⟨hr1, hr2, hr3⟩)
  have HW := Lib.hid hW
  have Hbn := Lib.hid hbn
  have Hbw := Lib.hid hbw
  have Hn := Lib.hid hn0
  have Hr := Lib.hid hr
  obtain ⟨ep, hepe⟩ : ∃ z, c.ep = z := ⟨_, rfl⟩
  have Hep := Lib.hid hepe
  rw [hepe] at hep
  obtain ⟨ZL, hZL⟩ : ∃ z, z = binZ := ⟨_, rfl⟩
  have HZ := Lib.hid (fun w : World => show (zeroValue 63).run Try.prog w = .ok (.agg ZL.toArray) w by rw [hZL]; exact binZero w)
  have HZl := Lib.hid (show ZL.length = 35 by rw [hZL]; rfl)
  have HR0 := Lib.hid hR
  clear hW hVL hR1 hR2 hR3 hr1 hr2 hr3 hsl hbn hbw hn0 hr l1 l2 l3 hepe hZL hR
  go_enter Try.func10, Try.ntmps10
  go_upto_region 1 with fail
  rw [← HW.out]
  clear HW
  go_wp2_with fail
  go_loopw [3] (fun i wr => ∃ k : Nat, k ≤ n0 ∧ i = .int .i64 k ∧ Below w.heap.size w wr ∧ Arr wr w.heap.size 30 VL ∧ Hid (∀ j, j < k → OkB (c.bins.getD j zB)) ∧ Hid (∀ j, j + 1 < k → (c.bins.getD j zB).x < (c.bins.getD (j + 1) zB).x)) (fun i _ => n0 - (Go.RowKit.intOf i).toNat)
  case atStart => exact ⟨0, Nat.zero_le _, rfl, hB, HR0.out, Lib.hid (fun j hj => by omega), Lib.hid (fun j hj => by omega)⟩
  case round =>
    clear hB HR0
    obtain ⟨k, hk, rfl, hbr, hAr, Hok, Hri⟩ := hrel
    have q4 := (Hat.out wr hAr).bins
    have hwr := hbr.size
    have hgr := hAr.lt
    by_cases hlt : k < n0
    · have hd1 : decide ((k : Int) < (n0 : Int)) = true := by simp; omega
      obtain ⟨bb, off, rfl, hblk, hrow⟩ := Hbn.out (by rw [Hn.out]; omega)
      have hget : ∀ i, i < n0 → c.bins[i]? = some (c.bins.getD i zB) := fun i hi => by
        rw [List.getElem?_eq_getElem (by rw [Hn.out]; exact hi)]
        simp [List.getD, Hn.out, hi]
      obtain ⟨b, hb⟩ : ∃ b, c.bins.getD k zB = b := ⟨_, rfl⟩
      have hbe := hget k hlt
      rw [hb] at hbe
      have hbW := Hbw.out b (List.mem_of_getElem? hbe)
      obtain ⟨BL, hBL⟩ : ∃ z, z = bC b := ⟨_, rfl⟩
      have hBl : BL.length = 35 := by rw [hBL]; exact bC_length hbW
      have hrg : wr.rangeAt bb (off + k * 35) BL := fun j v hj => (World.cell?_of_block (hbr.block bb hblk)).trans (hrow k b hbe j v (by rw [← hBL]; exact hj))
      have HBl := Lib.hid (HBi.out BL hBl)
      have HTi := Lib.hid (show (Try.prog.info? 63).map (·.size) = some BL.toArray.size ∧ ZL.toArray.size = BL.toArray.size by rw [List.size_toArray, List.size_toArray, hBl, HZl.out]; exact ⟨binSize, rfl⟩)
      have HT1 := Lib.hid (show BL.toArray.all (·.oneCell') = true by rw [hBL]; exact all_oneC (bC_one _))
      have HBL := Lib.hid hBL
      have Hb := Lib.hid hb
      have Hrow := Lib.hid (fun (i : Nat) (hi : i < n0) => show w.cell? ⟨bb, off + i * 35, none⟩ = some (.int .i64 (c.bins.getD i zB).x) from by
        have := hrow i _ (hget i hi) 0 (.int .i64 (c.bins.getD i zB).x) rfl
        rwa [Nat.add_zero] at this)
      have Hblk := Lib.hid hblk
      obtain ⟨g, hg⟩ : ∃ z, z = wr.heap.size := ⟨_, rfl⟩
      have Hg := Lib.hid hg
      clear hrow hget hb hbW hBL hBl hblk hg
      go_upto_region 5 with (first | ((with_reducible refine wpList_at 16 (by rfl) ?_); refine wpList_load_mid_ifC (by rfl) 63 _ rfl bb (off + k * 35) rfl BL _ (hrg) Try.underlying63 rfl HBl.out ?_) | (refine wpList_allocZC rfl 63 rfl ZL.toArray (HZ.out _) ?_) | (change wpList _ _ _ _ _ (wr.alloc (.cells ZL.toArray 63)); refine wpList_store_row rfl _ _ _ rfl wr.heap.size BL.toArray rfl rfl 63 ZL.toArray (heap_alloc_new wr _) HTi.out.1 HTi.out.2 HT1.out ?_; obtain ⟨w5, hw5⟩ : ∃ x, x = (wr.alloc (.cells ZL.toArray 63)).setRow wr.heap.size BL.toArray := ⟨_, rfl⟩; rw [← hw5]; obtain ⟨hP5, hb5'⟩ := alloc_row wr 63 ZL.toArray BL; rw [← hw5] at hP5 hb5'; clear hw5))
      rw [← Hg.out] at hP5 ⊢
      have hA5 := hAr.up hb5'
      have hb5 := hbr.trans (hb5'.mono hwr)
      have q4 := (Hat.out w5 hA5).bins
      have q0 : w5.cell? ⟨g, 0, none⟩ = some (.int .i64 b.x) := by rw [hP5.cell, HBL.out]; rfl
      have q1 : w5.cell? ⟨g, 1, none⟩ = some (.int .i64 b.a) := by rw [hP5.cell, HBL.out]; rfl
      have q2 : w5.cell? ⟨g, 2, none⟩ = some (.int .i64 b.n) := by rw [hP5.cell, HBL.out]; rfl
      clear hb5' hAr hbr hrg hP5 HTi HT1 HBl
      obtain ⟨x, hx⟩ : ∃ z, b.x = z := ⟨_, rfl⟩
      obtain ⟨a, ha⟩ : ∃ z, b.a = z := ⟨_, rfl⟩
      obtain ⟨n, hn⟩ : ∃ z, b.n = z := ⟨_, rfl⟩
      rw [hx] at q0
      rw [ha] at q1
      rw [hn] at q2
      have Hxan := Lib.hid (show b.x = x ∧ b.a = a ∧ b.n = n from ⟨hx, ha, hn⟩)
      have Hbad := Lib.hid (show ¬ OkB b → false = r from fun h => by
        cases r with
        | false => rfl
        | true =>
          have h1 := (Hr.out.1 rfl).2.2.2.2.1 b (List.mem_of_getElem? hbe)
          exact absurd h1 h)
      clear hx ha hn
      by_cases c1 : x < 0
      · have Hc1 := Lib.hid (show decide (x < 0) = true ∧ True from ⟨decide_eq_true c1, trivial⟩)
        have Hno := Lib.hid (Hbad.out (fun h => by have := h.1; rw [Hxan.out.1] at this; omega))
        refine wp_region_held_drew (S := fun w' => w'.cell? ⟨g, 0, none⟩ = some (.int .i64 x) ∧ w'.cell? ⟨g, 1, none⟩ = some (.int .i64 a) ∧ w'.cell? ⟨g, 2, none⟩ = some (.int .i64 n) ∧ True) (by kernel_rfl) ⟨q0, q1, q2, trivial⟩ (fun hHeld => ?_)
        refine anyH_take (i := 0) (v := .pointer (some ⟨g, 0, none⟩)) (some 17) rfl rfl (by kernel_rfl) (by kernel_rfl) (by kernel_rfl) (fun _ _ _ h => h) (Or.inl ⟨by rfl, fun w' hw => by (go_simp)⟩) (by assumption) ?_
        simp only [Act.put, List.setIfInBounds_toArray, List.set_cons_zero, List.set_cons_succ]
        refine anyH_take (i := 1) (v := .int .i64 x) (some 18) rfl rfl (by kernel_rfl) (by kernel_rfl) (by kernel_rfl) (fun _ _ _ h => h) (Or.inl ⟨by rfl, fun w' hw => by (have hc := hw.1; go_simp)⟩) (by assumption) ?_
        simp only [Act.put, List.setIfInBounds_toArray, List.set_cons_zero, List.set_cons_succ]
        refine anyH_take (i := 2) (v := .bool true) (some 19) rfl rfl (by kernel_rfl) (by kernel_rfl) (by kernel_rfl) (fun _ _ _ h => h) (Or.inl ⟨by rfl, fun w' hw => by (have hq1 := (Hc1.out).1; have hq2 := (Hc1.out).2; go_simp)⟩) (by assumption) ?_
        simp only [Act.put, List.setIfInBounds_toArray, List.set_cons_zero, List.set_cons_succ]
        refine anyH_take (i := 3) (v := .bool true) (some 20) rfl rfl (by kernel_rfl) (by kernel_rfl) (by kernel_rfl) (fun _ _ _ h => h) (Or.inl ⟨by rfl, fun w' hw => by (go_simp)⟩) (by assumption) ?_
        simp only [Act.put, List.setIfInBounds_toArray, List.set_cons_zero, List.set_cons_succ]
        refine anyH_take (i := 4) (v := undef) (some 21) rfl rfl (by kernel_rfl) (by kernel_rfl) (by kernel_rfl) (fun _ _ _ h => h) (Or.inr ⟨by rfl, rfl⟩) (by assumption) ?_
        simp only [Act.put, List.setIfInBounds_toArray, List.set_cons_zero, List.set_cons_succ]
        refine anyH_take (i := 5) (v := undef) (some 22) rfl rfl (by kernel_rfl) (by kernel_rfl) (by kernel_rfl) (fun _ _ _ h => h) (Or.inr ⟨by rfl, rfl⟩) (by assumption) ?_
        simp only [Act.put, List.setIfInBounds_toArray, List.set_cons_zero, List.set_cons_succ]
        refine anyH_take (i := 6) (v := undef) (some 23) rfl rfl (by kernel_rfl) (by kernel_rfl) (by kernel_rfl) (fun _ _ _ h => h) (Or.inr ⟨by rfl, rfl⟩) (by assumption) ?_
        simp only [Act.put, List.setIfInBounds_toArray, List.set_cons_zero, List.set_cons_succ]
        refine anyH_take (i := 7) (v := .bool true) (some 24) rfl rfl (by kernel_rfl) (by kernel_rfl) (by kernel_rfl) (fun _ _ _ h => h) (Or.inl ⟨by rfl, fun w' hw => by (go_simp)⟩) (by assumption) ?_
        simp only [Act.put, List.setIfInBounds_toArray, List.set_cons_zero, List.set_cons_succ]
        refine anyH_take (i := 8) (v := .bool true) (some 25) rfl rfl (by kernel_rfl) (by kernel_rfl) (by kernel_rfl) (fun _ _ _ h => h) (Or.inl ⟨by rfl, fun w' hw => by (go_simp)⟩) (by assumption) ?_
        simp only [Act.put, List.setIfInBounds_toArray, List.set_cons_zero, List.set_cons_succ]
        refine anyH_take (i := 9) (v := undef) (some 26) rfl rfl (by kernel_rfl) (by kernel_rfl) (by kernel_rfl) (fun _ _ _ h => h) (Or.inr ⟨by rfl, rfl⟩) (by assumption) ?_
        simp only [Act.put, List.setIfInBounds_toArray, List.set_cons_zero, List.set_cons_succ]
        refine anyH_take (i := 10) (v := undef) (some 27) rfl rfl (by kernel_rfl) (by kernel_rfl) (by kernel_rfl) (fun _ _ _ h => h) (Or.inr ⟨by rfl, rfl⟩) (by assumption) ?_
        simp only [Act.put, List.setIfInBounds_toArray, List.set_cons_zero, List.set_cons_succ]
        refine anyH_take (i := 11) (v := undef) (some 28) rfl rfl (by kernel_rfl) (by kernel_rfl) (by kernel_rfl) (fun _ _ _ h => h) (Or.inr ⟨by rfl, rfl⟩) (by assumption) ?_
        simp only [Act.put, List.setIfInBounds_toArray, List.set_cons_zero, List.set_cons_succ]
        refine anyH_take (i := 12) (v := .bool true) (some 29) rfl rfl (by kernel_rfl) (by kernel_rfl) (by kernel_rfl) (fun _ _ _ h => h) (Or.inl ⟨by rfl, fun w' hw => by (go_simp)⟩) (by assumption) ?_
        simp only [Act.put, List.setIfInBounds_toArray, List.set_cons_zero, List.set_cons_succ]
        refine anyH_take (i := 13) (v := .bool true) (some 30) rfl rfl (by kernel_rfl) (by kernel_rfl) (by kernel_rfl) (fun _ _ _ h => h) (Or.inl ⟨by rfl, fun w' hw => by (go_simp)⟩) (by assumption) ?_
        simp only [Act.put, List.setIfInBounds_toArray, List.set_cons_zero, List.set_cons_succ]
        refine anyH_take (i := 14) (v := undef) (some 31) rfl rfl (by kernel_rfl) (by kernel_rfl) (by kernel_rfl) (fun _ _ _ h => h) (Or.inr ⟨by rfl, rfl⟩) (by assumption) ?_
        simp only [Act.put, List.setIfInBounds_toArray, List.set_cons_zero, List.set_cons_succ]
        refine anyH_take (i := 15) (v := undef) (some 32) rfl rfl (by kernel_rfl) (by kernel_rfl) (by kernel_rfl) (fun _ _ _ h => h) (Or.inr ⟨by rfl, rfl⟩) (by assumption) ?_
        simp only [Act.put, List.setIfInBounds_toArray, List.set_cons_zero, List.set_cons_succ]
        refine anyH_take (i := 16) (v := undef) (some 33) rfl rfl (by kernel_rfl) (by kernel_rfl) (by kernel_rfl) (fun _ _ _ h => h) (Or.inr ⟨by rfl, rfl⟩) (by assumption) ?_
        simp only [Act.put, List.setIfInBounds_toArray, List.set_cons_zero, List.set_cons_succ]
        refine anyH_take (i := 17) (v := .bool true) (some 34) rfl rfl (by kernel_rfl) (by kernel_rfl) (by kernel_rfl) (fun _ _ _ h => h) (Or.inl ⟨by rfl, fun w' hw => by (go_simp)⟩) (by assumption) ?_
        simp only [Act.put, List.setIfInBounds_toArray, List.set_cons_zero, List.set_cons_succ]
        refine anyH_take (i := 18) (v := .bool true) (some 35) rfl rfl (by kernel_rfl) (by kernel_rfl) (by kernel_rfl) (fun _ _ _ h => h) (Or.inl ⟨by rfl, fun w' hw => by (go_simp)⟩) (by assumption) ?_
        simp only [Act.put, List.setIfInBounds_toArray, List.set_cons_zero, List.set_cons_succ]
        refine anyH_take (i := 19) (v := undef) (some 36) rfl rfl (by kernel_rfl) (by kernel_rfl) (by kernel_rfl) (fun _ _ _ h => h) (Or.inr ⟨by rfl, rfl⟩) (by assumption) ?_
        simp only [Act.put, List.setIfInBounds_toArray, List.set_cons_zero, List.set_cons_succ]
        refine anyH_take (i := 20) (v := undef) (some 37) rfl rfl (by kernel_rfl) (by kernel_rfl) (by kernel_rfl) (fun _ _ _ h => h) (Or.inr ⟨by rfl, rfl⟩) (by assumption) ?_
        simp only [Act.put, List.setIfInBounds_toArray, List.set_cons_zero, List.set_cons_succ]
        refine anyH_take (i := 21) (v := undef) (some 38) rfl rfl (by kernel_rfl) (by kernel_rfl) (by kernel_rfl) (fun _ _ _ h => h) (Or.inr ⟨by rfl, rfl⟩) (by assumption) ?_
        simp only [Act.put, List.setIfInBounds_toArray, List.set_cons_zero, List.set_cons_succ]
        refine anyH_take (i := 22) (v := .bool true) (some 39) rfl rfl (by kernel_rfl) (by kernel_rfl) (by kernel_rfl) (fun _ _ _ h => h) (Or.inl ⟨by rfl, fun w' hw => by (go_simp)⟩) (by assumption) ?_
        simp only [Act.put, List.setIfInBounds_toArray, List.set_cons_zero, List.set_cons_succ]
        refine anyH_take (i := 23) (v := .bool true) (some 40) rfl rfl (by kernel_rfl) (by kernel_rfl) (by kernel_rfl) (fun _ _ _ h => h) (Or.inl ⟨by rfl, fun w' hw => by (go_simp)⟩) (by assumption) ?_
        simp only [Act.put, List.setIfInBounds_toArray, List.set_cons_zero, List.set_cons_succ]
        refine anyH_take (i := 24) (v := undef) (some 41) rfl rfl (by kernel_rfl) (by kernel_rfl) (by kernel_rfl) (fun _ _ _ h => h) (Or.inr ⟨by rfl, rfl⟩) (by assumption) ?_
        simp only [Act.put, List.setIfInBounds_toArray, List.set_cons_zero, List.set_cons_succ]
        refine anyH_take (i := 25) (v := undef) (some 42) rfl rfl (by kernel_rfl) (by kernel_rfl) (by kernel_rfl) (fun _ _ _ h => h) (Or.inr ⟨by rfl, rfl⟩) (by assumption) ?_
        simp only [Act.put, List.setIfInBounds_toArray, List.set_cons_zero, List.set_cons_succ]
        refine anyH_take (i := 26) (v := undef) (some 43) rfl rfl (by kernel_rfl) (by kernel_rfl) (by kernel_rfl) (fun _ _ _ h => h) (Or.inr ⟨by rfl, rfl⟩) (by assumption) ?_
        simp only [Act.put, List.setIfInBounds_toArray, List.set_cons_zero, List.set_cons_succ]
        refine anyH_take (i := 27) (v := .bool true) (some 44) rfl rfl (by kernel_rfl) (by kernel_rfl) (by kernel_rfl) (fun _ _ _ h => h) (Or.inl ⟨by rfl, fun w' hw => by (go_simp)⟩) (by assumption) ?_
        simp only [Act.put, List.setIfInBounds_toArray, List.set_cons_zero, List.set_cons_succ]
        refine anyH_take (i := 28) (v := .bool true) (some 45) rfl rfl (by kernel_rfl) (by kernel_rfl) (by kernel_rfl) (fun _ _ _ h => h) (Or.inl ⟨by rfl, fun w' hw => by (go_simp)⟩) (by assumption) ?_
        simp only [Act.put, List.setIfInBounds_toArray, List.set_cons_zero, List.set_cons_succ]
        refine anyH_take (i := 29) (v := undef) (some 46) rfl rfl (by kernel_rfl) (by kernel_rfl) (by kernel_rfl) (fun _ _ _ h => h) (Or.inr ⟨by rfl, rfl⟩) (by assumption) ?_
        simp only [Act.put, List.setIfInBounds_toArray, List.set_cons_zero, List.set_cons_succ]
        refine anyH_take (i := 30) (v := undef) (some 47) rfl rfl (by kernel_rfl) (by kernel_rfl) (by kernel_rfl) (fun _ _ _ h => h) (Or.inr ⟨by rfl, rfl⟩) (by assumption) ?_
        simp only [Act.put, List.setIfInBounds_toArray, List.set_cons_zero, List.set_cons_succ]
        refine anyH_take (i := 31) (v := undef) (some 48) rfl rfl (by kernel_rfl) (by kernel_rfl) (by kernel_rfl) (fun _ _ _ h => h) (Or.inr ⟨by rfl, rfl⟩) (by assumption) ?_
        simp only [Act.put, List.setIfInBounds_toArray, List.set_cons_zero, List.set_cons_succ]
        refine anyH_take (i := 32) (v := undef) (some 49) rfl rfl (by kernel_rfl) (by kernel_rfl) (by kernel_rfl) (fun _ _ _ h => h) (Or.inr ⟨by rfl, rfl⟩) (by assumption) ?_
        simp only [Act.put, List.setIfInBounds_toArray, List.set_cons_zero, List.set_cons_succ]
        refine anyH_take (i := 33) (v := undef) (some 50) rfl rfl (by kernel_rfl) (by kernel_rfl) (by kernel_rfl) (fun _ _ _ h => h) (Or.inr ⟨by rfl, rfl⟩) (by assumption) ?_
        simp only [Act.put, List.setIfInBounds_toArray, List.set_cons_zero, List.set_cons_succ]
        refine anyH_take (i := 34) (v := undef) (some 51) rfl rfl (by kernel_rfl) (by kernel_rfl) (by kernel_rfl) (fun _ _ _ h => h) (Or.inr ⟨by rfl, rfl⟩) (by assumption) ?_
        simp only [Act.put, List.setIfInBounds_toArray, List.set_cons_zero, List.set_cons_succ]
        refine anyH_take (i := 35) (v := undef) (some 52) rfl rfl (by kernel_rfl) (by kernel_rfl) (by kernel_rfl) (fun _ _ _ h => h) (Or.inr ⟨by rfl, rfl⟩) (by assumption) ?_
        simp only [Act.put, List.setIfInBounds_toArray, List.set_cons_zero, List.set_cons_succ]
        refine anyH_take (i := 36) (v := undef) (some 53) rfl rfl (by kernel_rfl) (by kernel_rfl) (by kernel_rfl) (fun _ _ _ h => h) (Or.inr ⟨by rfl, rfl⟩) (by assumption) ?_
        simp only [Act.put, List.setIfInBounds_toArray, List.set_cons_zero, List.set_cons_succ]
        refine anyH_take (i := 37) (v := undef) (some 54) rfl rfl (by kernel_rfl) (by kernel_rfl) (by kernel_rfl) (fun _ _ _ h => h) (Or.inr ⟨by rfl, rfl⟩) (by assumption) ?_
        simp only [Act.put, List.setIfInBounds_toArray, List.set_cons_zero, List.set_cons_succ]
        refine anyH_take (i := 38) (v := undef) (some 55) rfl rfl (by kernel_rfl) (by kernel_rfl) (by kernel_rfl) (fun _ _ _ h => h) (Or.inr ⟨by rfl, rfl⟩) (by assumption) ?_
        simp only [Act.put, List.setIfInBounds_toArray, List.set_cons_zero, List.set_cons_succ]
        refine anyH_take (i := 39) (v := undef) (some 56) rfl rfl (by kernel_rfl) (by kernel_rfl) (by kernel_rfl) (fun _ _ _ h => h) (Or.inr ⟨by rfl, rfl⟩) (by assumption) ?_
        simp only [Act.put, List.setIfInBounds_toArray, List.set_cons_zero, List.set_cons_succ]
        refine anyH_take (i := 40) (v := undef) (some 57) rfl rfl (by kernel_rfl) (by kernel_rfl) (by kernel_rfl) (fun _ _ _ h => h) (Or.inr ⟨by rfl, rfl⟩) (by assumption) ?_
        simp only [Act.put, List.setIfInBounds_toArray, List.set_cons_zero, List.set_cons_succ]
        refine anyH_take (i := 41) (v := undef) (some 58) rfl rfl (by kernel_rfl) (by kernel_rfl) (by kernel_rfl) (fun _ _ _ h => h) (Or.inr ⟨by rfl, rfl⟩) (by assumption) ?_
        simp only [Act.put, List.setIfInBounds_toArray, List.set_cons_zero, List.set_cons_succ]
        refine anyH_take (i := 42) (v := undef) (some 59) rfl rfl (by kernel_rfl) (by kernel_rfl) (by kernel_rfl) (fun _ _ _ h => h) (Or.inr ⟨by rfl, rfl⟩) (by assumption) ?_
        simp only [Act.put, List.setIfInBounds_toArray, List.set_cons_zero, List.set_cons_succ]
        refine anyH_take (i := 43) (v := .bool true) (some 60) rfl rfl (by kernel_rfl) (by kernel_rfl) (by kernel_rfl) (fun _ _ _ h => h) (Or.inl ⟨by rfl, fun w' hw => by (go_simp)⟩) (by assumption) ?_
        simp only [Act.put, List.setIfInBounds_toArray, List.set_cons_zero, List.set_cons_succ]
        refine wpAnyH_done (by kernel_rfl) ?_ _
        go_wp2_with fail
        go_ret
        exact ⟨by rw [← Hno.out]; rfl, Below.dN hb5 1⟩
      have Hc1 := Lib.hid (show decide (x < 0) = false ∧ True from ⟨decide_eq_false c1, trivial⟩)
      by_cases c2 : 2147483647 < x
      · have Hc2 := Lib.hid (show decide (2147483647 < x) = true ∧ decide (x > 2147483647) = true from ⟨decide_eq_true c2, decide_eq_true c2⟩)
        have Hno := Lib.hid (Hbad.out (fun h => by have := h.2.1; rw [Hxan.out.1] at this; omega))
        refine wp_region_held_drew (S := fun w' => w'.cell? ⟨g, 0, none⟩ = some (.int .i64 x) ∧ w'.cell? ⟨g, 1, none⟩ = some (.int .i64 a) ∧ w'.cell? ⟨g, 2, none⟩ = some (.int .i64 n) ∧ True) (by kernel_rfl) ⟨q0, q1, q2, trivial⟩ (fun hHeld => ?_)
        refine anyH_take (i := 0) (v := .pointer (some ⟨g, 0, none⟩)) (some 17) rfl rfl (by kernel_rfl) (by kernel_rfl) (by kernel_rfl) (fun _ _ _ h => h) (Or.inl ⟨by rfl, fun w' hw => by (go_simp)⟩) (by assumption) ?_
        simp only [Act.put, List.setIfInBounds_toArray, List.set_cons_zero, List.set_cons_succ]
        refine anyH_take (i := 1) (v := .int .i64 x) (some 18) rfl rfl (by kernel_rfl) (by kernel_rfl) (by kernel_rfl) (fun _ _ _ h => h) (Or.inl ⟨by rfl, fun w' hw => by (have hc := hw.1; go_simp)⟩) (by assumption) ?_
        simp only [Act.put, List.setIfInBounds_toArray, List.set_cons_zero, List.set_cons_succ]
        refine anyH_take (i := 2) (v := .bool false) (some 19) rfl rfl (by kernel_rfl) (by kernel_rfl) (by kernel_rfl) (fun _ _ _ h => h) (Or.inl ⟨by rfl, fun w' hw => by (have hq1 := (Hc1.out).1; have hq2 := (Hc1.out).2; go_simp)⟩) (by assumption) ?_
        simp only [Act.put, List.setIfInBounds_toArray, List.set_cons_zero, List.set_cons_succ]
        refine anyH_take (i := 3) (v := .bool false) (some 20) rfl rfl (by kernel_rfl) (by kernel_rfl) (by kernel_rfl) (fun _ _ _ h => h) (Or.inl ⟨by rfl, fun w' hw => by (go_simp)⟩) (by assumption) ?_
        simp only [Act.put, List.setIfInBounds_toArray, List.set_cons_zero, List.set_cons_succ]
        refine anyH_take (i := 4) (v := .pointer (some ⟨g, 0, none⟩)) (some 21) rfl rfl (by kernel_rfl) (by kernel_rfl) (by kernel_rfl) (fun _ _ _ h => h) (Or.inl ⟨by rfl, fun w' hw => by (go_simp)⟩) (by assumption) ?_
        simp only [Act.put, List.setIfInBounds_toArray, List.set_cons_zero, List.set_cons_succ]
        refine anyH_take (i := 5) (v := .int .i64 x) (some 22) rfl rfl (by kernel_rfl) (by kernel_rfl) (by kernel_rfl) (fun _ _ _ h => h) (Or.inl ⟨by rfl, fun w' hw => by (have hc := hw.1; go_simp)⟩) (by assumption) ?_
        simp only [Act.put, List.setIfInBounds_toArray, List.set_cons_zero, List.set_cons_succ]
        refine anyH_take (i := 6) (v := .bool true) (some 23) rfl rfl (by kernel_rfl) (by kernel_rfl) (by kernel_rfl) (fun _ _ _ h => h) (Or.inl ⟨by rfl, fun w' hw => by (have hq1 := (Hc2.out).1; have hq2 := (Hc2.out).2; go_simp)⟩) (by assumption) ?_
        simp only [Act.put, List.setIfInBounds_toArray, List.set_cons_zero, List.set_cons_succ]
        refine anyH_take (i := 7) (v := .bool true) (some 24) rfl rfl (by kernel_rfl) (by kernel_rfl) (by kernel_rfl) (fun _ _ _ h => h) (Or.inl ⟨by rfl, fun w' hw => by (go_simp)⟩) (by assumption) ?_
        simp only [Act.put, List.setIfInBounds_toArray, List.set_cons_zero, List.set_cons_succ]
        refine anyH_take (i := 8) (v := .bool true) (some 25) rfl rfl (by kernel_rfl) (by kernel_rfl) (by kernel_rfl) (fun _ _ _ h => h) (Or.inl ⟨by rfl, fun w' hw => by (go_simp)⟩) (by assumption) ?_
        simp only [Act.put, List.setIfInBounds_toArray, List.set_cons_zero, List.set_cons_succ]
        refine anyH_take (i := 9) (v := undef) (some 26) rfl rfl (by kernel_rfl) (by kernel_rfl) (by kernel_rfl) (fun _ _ _ h => h) (Or.inr ⟨by rfl, rfl⟩) (by assumption) ?_
        simp only [Act.put, List.setIfInBounds_toArray, List.set_cons_zero, List.set_cons_succ]
        refine anyH_take (i := 10) (v := undef) (some 27) rfl rfl (by kernel_rfl) (by kernel_rfl) (by kernel_rfl) (fun _ _ _ h => h) (Or.inr ⟨by rfl, rfl⟩) (by assumption) ?_
        simp only [Act.put, List.setIfInBounds_toArray, List.set_cons_zero, List.set_cons_succ]
        refine anyH_take (i := 11) (v := undef) (some 28) rfl rfl (by kernel_rfl) (by kernel_rfl) (by kernel_rfl) (fun _ _ _ h => h) (Or.inr ⟨by rfl, rfl⟩) (by assumption) ?_
        simp only [Act.put, List.setIfInBounds_toArray, List.set_cons_zero, List.set_cons_succ]
        refine anyH_take (i := 12) (v := .bool true) (some 29) rfl rfl (by kernel_rfl) (by kernel_rfl) (by kernel_rfl) (fun _ _ _ h => h) (Or.inl ⟨by rfl, fun w' hw => by (go_simp)⟩) (by assumption) ?_
        simp only [Act.put, List.setIfInBounds_toArray, List.set_cons_zero, List.set_cons_succ]
        refine anyH_take (i := 13) (v := .bool true) (some 30) rfl rfl (by kernel_rfl) (by kernel_rfl) (by kernel_rfl) (fun _ _ _ h => h) (Or.inl ⟨by rfl, fun w' hw => by (go_simp)⟩) (by assumption) ?_
        simp only [Act.put, List.setIfInBounds_toArray, List.set_cons_zero, List.set_cons_succ]
        refine anyH_take (i := 14) (v := undef) (some 31) rfl rfl (by kernel_rfl) (by kernel_rfl) (by kernel_rfl) (fun _ _ _ h => h) (Or.inr ⟨by rfl, rfl⟩) (by assumption) ?_
        simp only [Act.put, List.setIfInBounds_toArray, List.set_cons_zero, List.set_cons_succ]
        refine anyH_take (i := 15) (v := undef) (some 32) rfl rfl (by kernel_rfl) (by kernel_rfl) (by kernel_rfl) (fun _ _ _ h => h) (Or.inr ⟨by rfl, rfl⟩) (by assumption) ?_
        simp only [Act.put, List.setIfInBounds_toArray, List.set_cons_zero, List.set_cons_succ]
        refine anyH_take (i := 16) (v := undef) (some 33) rfl rfl (by kernel_rfl) (by kernel_rfl) (by kernel_rfl) (fun _ _ _ h => h) (Or.inr ⟨by rfl, rfl⟩) (by assumption) ?_
        simp only [Act.put, List.setIfInBounds_toArray, List.set_cons_zero, List.set_cons_succ]
        refine anyH_take (i := 17) (v := .bool true) (some 34) rfl rfl (by kernel_rfl) (by kernel_rfl) (by kernel_rfl) (fun _ _ _ h => h) (Or.inl ⟨by rfl, fun w' hw => by (go_simp)⟩) (by assumption) ?_
        simp only [Act.put, List.setIfInBounds_toArray, List.set_cons_zero, List.set_cons_succ]
        refine anyH_take (i := 18) (v := .bool true) (some 35) rfl rfl (by kernel_rfl) (by kernel_rfl) (by kernel_rfl) (fun _ _ _ h => h) (Or.inl ⟨by rfl, fun w' hw => by (go_simp)⟩) (by assumption) ?_
        simp only [Act.put, List.setIfInBounds_toArray, List.set_cons_zero, List.set_cons_succ]
        refine anyH_take (i := 19) (v := undef) (some 36) rfl rfl (by kernel_rfl) (by kernel_rfl) (by kernel_rfl) (fun _ _ _ h => h) (Or.inr ⟨by rfl, rfl⟩) (by assumption) ?_
        simp only [Act.put, List.setIfInBounds_toArray, List.set_cons_zero, List.set_cons_succ]
        refine anyH_take (i := 20) (v := undef) (some 37) rfl rfl (by kernel_rfl) (by kernel_rfl) (by kernel_rfl) (fun _ _ _ h => h) (Or.inr ⟨by rfl, rfl⟩) (by assumption) ?_
        simp only [Act.put, List.setIfInBounds_toArray, List.set_cons_zero, List.set_cons_succ]
        refine anyH_take (i := 21) (v := undef) (some 38) rfl rfl (by kernel_rfl) (by kernel_rfl) (by kernel_rfl) (fun _ _ _ h => h) (Or.inr ⟨by rfl, rfl⟩) (by assumption) ?_
        simp only [Act.put, List.setIfInBounds_toArray, List.set_cons_zero, List.set_cons_succ]
        refine anyH_take (i := 22) (v := .bool true) (some 39) rfl rfl (by kernel_rfl) (by kernel_rfl) (by kernel_rfl) (fun _ _ _ h => h) (Or.inl ⟨by rfl, fun w' hw => by (go_simp)⟩) (by assumption) ?_
        simp only [Act.put, List.setIfInBounds_toArray, List.set_cons_zero, List.set_cons_succ]
        refine anyH_take (i := 23) (v := .bool true) (some 40) rfl rfl (by kernel_rfl) (by kernel_rfl) (by kernel_rfl) (fun _ _ _ h => h) (Or.inl ⟨by rfl, fun w' hw => by (go_simp)⟩) (by assumption) ?_
        simp only [Act.put, List.setIfInBounds_toArray, List.set_cons_zero, List.set_cons_succ]
        refine anyH_take (i := 24) (v := undef) (some 41) rfl rfl (by kernel_rfl) (by kernel_rfl) (by kernel_rfl) (fun _ _ _ h => h) (Or.inr ⟨by rfl, rfl⟩) (by assumption) ?_
        simp only [Act.put, List.setIfInBounds_toArray, List.set_cons_zero, List.set_cons_succ]
        refine anyH_take (i := 25) (v := undef) (some 42) rfl rfl (by kernel_rfl) (by kernel_rfl) (by kernel_rfl) (fun _ _ _ h => h) (Or.inr ⟨by rfl, rfl⟩) (by assumption) ?_
        simp only [Act.put, List.setIfInBounds_toArray, List.set_cons_zero, List.set_cons_succ]
        refine anyH_take (i := 26) (v := undef) (some 43) rfl rfl (by kernel_rfl) (by kernel_rfl) (by kernel_rfl) (fun _ _ _ h => h) (Or.inr ⟨by rfl, rfl⟩) (by assumption) ?_
        simp only [Act.put, List.setIfInBounds_toArray, List.set_cons_zero, List.set_cons_succ]
        refine anyH_take (i := 27) (v := .bool true) (some 44) rfl rfl (by kernel_rfl) (by kernel_rfl) (by kernel_rfl) (fun _ _ _ h => h) (Or.inl ⟨by rfl, fun w' hw => by (go_simp)⟩) (by assumption) ?_
        simp only [Act.put, List.setIfInBounds_toArray, List.set_cons_zero, List.set_cons_succ]
        refine anyH_take (i := 28) (v := .bool true) (some 45) rfl rfl (by kernel_rfl) (by kernel_rfl) (by kernel_rfl) (fun _ _ _ h => h) (Or.inl ⟨by rfl, fun w' hw => by (go_simp)⟩) (by assumption) ?_
        simp only [Act.put, List.setIfInBounds_toArray, List.set_cons_zero, List.set_cons_succ]
        refine anyH_take (i := 29) (v := undef) (some 46) rfl rfl (by kernel_rfl) (by kernel_rfl) (by kernel_rfl) (fun _ _ _ h => h) (Or.inr ⟨by rfl, rfl⟩) (by assumption) ?_
        simp only [Act.put, List.setIfInBounds_toArray, List.set_cons_zero, List.set_cons_succ]
        refine anyH_take (i := 30) (v := undef) (some 47) rfl rfl (by kernel_rfl) (by kernel_rfl) (by kernel_rfl) (fun _ _ _ h => h) (Or.inr ⟨by rfl, rfl⟩) (by assumption) ?_
        simp only [Act.put, List.setIfInBounds_toArray, List.set_cons_zero, List.set_cons_succ]
        refine anyH_take (i := 31) (v := undef) (some 48) rfl rfl (by kernel_rfl) (by kernel_rfl) (by kernel_rfl) (fun _ _ _ h => h) (Or.inr ⟨by rfl, rfl⟩) (by assumption) ?_
        simp only [Act.put, List.setIfInBounds_toArray, List.set_cons_zero, List.set_cons_succ]
        refine anyH_take (i := 32) (v := undef) (some 49) rfl rfl (by kernel_rfl) (by kernel_rfl) (by kernel_rfl) (fun _ _ _ h => h) (Or.inr ⟨by rfl, rfl⟩) (by assumption) ?_
        simp only [Act.put, List.setIfInBounds_toArray, List.set_cons_zero, List.set_cons_succ]
        refine anyH_take (i := 33) (v := undef) (some 50) rfl rfl (by kernel_rfl) (by kernel_rfl) (by kernel_rfl) (fun _ _ _ h => h) (Or.inr ⟨by rfl, rfl⟩) (by assumption) ?_
        simp only [Act.put, List.setIfInBounds_toArray, List.set_cons_zero, List.set_cons_succ]
        refine anyH_take (i := 34) (v := undef) (some 51) rfl rfl (by kernel_rfl) (by kernel_rfl) (by kernel_rfl) (fun _ _ _ h => h) (Or.inr ⟨by rfl, rfl⟩) (by assumption) ?_
        simp only [Act.put, List.setIfInBounds_toArray, List.set_cons_zero, List.set_cons_succ]
        refine anyH_take (i := 35) (v := undef) (some 52) rfl rfl (by kernel_rfl) (by kernel_rfl) (by kernel_rfl) (fun _ _ _ h => h) (Or.inr ⟨by rfl, rfl⟩) (by assumption) ?_
        simp only [Act.put, List.setIfInBounds_toArray, List.set_cons_zero, List.set_cons_succ]
        refine anyH_take (i := 36) (v := undef) (some 53) rfl rfl (by kernel_rfl) (by kernel_rfl) (by kernel_rfl) (fun _ _ _ h => h) (Or.inr ⟨by rfl, rfl⟩) (by assumption) ?_
        simp only [Act.put, List.setIfInBounds_toArray, List.set_cons_zero, List.set_cons_succ]
        refine anyH_take (i := 37) (v := undef) (some 54) rfl rfl (by kernel_rfl) (by kernel_rfl) (by kernel_rfl) (fun _ _ _ h => h) (Or.inr ⟨by rfl, rfl⟩) (by assumption) ?_
        simp only [Act.put, List.setIfInBounds_toArray, List.set_cons_zero, List.set_cons_succ]
        refine anyH_take (i := 38) (v := undef) (some 55) rfl rfl (by kernel_rfl) (by kernel_rfl) (by kernel_rfl) (fun _ _ _ h => h) (Or.inr ⟨by rfl, rfl⟩) (by assumption) ?_
        simp only [Act.put, List.setIfInBounds_toArray, List.set_cons_zero, List.set_cons_succ]
        refine anyH_take (i := 39) (v := undef) (some 56) rfl rfl (by kernel_rfl) (by kernel_rfl) (by kernel_rfl) (fun _ _ _ h => h) (Or.inr ⟨by rfl, rfl⟩) (by assumption) ?_
        simp only [Act.put, List.setIfInBounds_toArray, List.set_cons_zero, List.set_cons_succ]
        refine anyH_take (i := 40) (v := undef) (some 57) rfl rfl (by kernel_rfl) (by kernel_rfl) (by kernel_rfl) (fun _ _ _ h => h) (Or.inr ⟨by rfl, rfl⟩) (by assumption) ?_
        simp only [Act.put, List.setIfInBounds_toArray, List.set_cons_zero, List.set_cons_succ]
        refine anyH_take (i := 41) (v := undef) (some 58) rfl rfl (by kernel_rfl) (by kernel_rfl) (by kernel_rfl) (fun _ _ _ h => h) (Or.inr ⟨by rfl, rfl⟩) (by assumption) ?_
        simp only [Act.put, List.setIfInBounds_toArray, List.set_cons_zero, List.set_cons_succ]
        refine anyH_take (i := 42) (v := undef) (some 59) rfl rfl (by kernel_rfl) (by kernel_rfl) (by kernel_rfl) (fun _ _ _ h => h) (Or.inr ⟨by rfl, rfl⟩) (by assumption) ?_
        simp only [Act.put, List.setIfInBounds_toArray, List.set_cons_zero, List.set_cons_succ]
        refine anyH_take (i := 43) (v := .bool true) (some 60) rfl rfl (by kernel_rfl) (by kernel_rfl) (by kernel_rfl) (fun _ _ _ h => h) (Or.inl ⟨by rfl, fun w' hw => by (go_simp)⟩) (by assumption) ?_
        simp only [Act.put, List.setIfInBounds_toArray, List.set_cons_zero, List.set_cons_succ]
        refine wpAnyH_done (by kernel_rfl) ?_ _
        go_wp2_with fail
        go_ret
        exact ⟨by rw [← Hno.out]; rfl, Below.dN hb5 1⟩
      have Hc2 := Lib.hid (show decide (2147483647 < x) = false ∧ decide (x > 2147483647) = false from ⟨decide_eq_false c2, decide_eq_false c2⟩)
      by_cases c3 : a < 0
      · have Hc3 := Lib.hid (show decide (a < 0) = true ∧ True from ⟨decide_eq_true c3, trivial⟩)
        have Hno := Lib.hid (Hbad.out (fun h => by have := h.2.2.1; rw [Hxan.out.2.1] at this; omega))
        refine wp_region_held_drew (S := fun w' => w'.cell? ⟨g, 0, none⟩ = some (.int .i64 x) ∧ w'.cell? ⟨g, 1, none⟩ = some (.int .i64 a) ∧ w'.cell? ⟨g, 2, none⟩ = some (.int .i64 n) ∧ True) (by kernel_rfl) ⟨q0, q1, q2, trivial⟩ (fun hHeld => ?_)
        refine anyH_take (i := 0) (v := .pointer (some ⟨g, 0, none⟩)) (some 17) rfl rfl (by kernel_rfl) (by kernel_rfl) (by kernel_rfl) (fun _ _ _ h => h) (Or.inl ⟨by rfl, fun w' hw => by (go_simp)⟩) (by assumption) ?_
        simp only [Act.put, List.setIfInBounds_toArray, List.set_cons_zero, List.set_cons_succ]
        refine anyH_take (i := 1) (v := .int .i64 x) (some 18) rfl rfl (by kernel_rfl) (by kernel_rfl) (by kernel_rfl) (fun _ _ _ h => h) (Or.inl ⟨by rfl, fun w' hw => by (have hc := hw.1; go_simp)⟩) (by assumption) ?_
        simp only [Act.put, List.setIfInBounds_toArray, List.set_cons_zero, List.set_cons_succ]
        refine anyH_take (i := 2) (v := .bool false) (some 19) rfl rfl (by kernel_rfl) (by kernel_rfl) (by kernel_rfl) (fun _ _ _ h => h) (Or.inl ⟨by rfl, fun w' hw => by (have hq1 := (Hc1.out).1; have hq2 := (Hc1.out).2; go_simp)⟩) (by assumption) ?_
        simp only [Act.put, List.setIfInBounds_toArray, List.set_cons_zero, List.set_cons_succ]
        refine anyH_take (i := 3) (v := .bool false) (some 20) rfl rfl (by kernel_rfl) (by kernel_rfl) (by kernel_rfl) (fun _ _ _ h => h) (Or.inl ⟨by rfl, fun w' hw => by (go_simp)⟩) (by assumption) ?_
        simp only [Act.put, List.setIfInBounds_toArray, List.set_cons_zero, List.set_cons_succ]
        refine anyH_take (i := 4) (v := .pointer (some ⟨g, 0, none⟩)) (some 21) rfl rfl (by kernel_rfl) (by kernel_rfl) (by kernel_rfl) (fun _ _ _ h => h) (Or.inl ⟨by rfl, fun w' hw => by (go_simp)⟩) (by assumption) ?_
        simp only [Act.put, List.setIfInBounds_toArray, List.set_cons_zero, List.set_cons_succ]
        refine anyH_take (i := 5) (v := .int .i64 x) (some 22) rfl rfl (by kernel_rfl) (by kernel_rfl) (by kernel_rfl) (fun _ _ _ h => h) (Or.inl ⟨by rfl, fun w' hw => by (have hc := hw.1; go_simp)⟩) (by assumption) ?_
        simp only [Act.put, List.setIfInBounds_toArray, List.set_cons_zero, List.set_cons_succ]
        refine anyH_take (i := 6) (v := .bool false) (some 23) rfl rfl (by kernel_rfl) (by kernel_rfl) (by kernel_rfl) (fun _ _ _ h => h) (Or.inl ⟨by rfl, fun w' hw => by (have hq1 := (Hc2.out).1; have hq2 := (Hc2.out).2; go_simp)⟩) (by assumption) ?_
        simp only [Act.put, List.setIfInBounds_toArray, List.set_cons_zero, List.set_cons_succ]
        refine anyH_take (i := 7) (v := .bool false) (some 24) rfl rfl (by kernel_rfl) (by kernel_rfl) (by kernel_rfl) (fun _ _ _ h => h) (Or.inl ⟨by rfl, fun w' hw => by (go_simp)⟩) (by assumption) ?_
        simp only [Act.put, List.setIfInBounds_toArray, List.set_cons_zero, List.set_cons_succ]
        refine anyH_take (i := 8) (v := .bool false) (some 25) rfl rfl (by kernel_rfl) (by kernel_rfl) (by kernel_rfl) (fun _ _ _ h => h) (Or.inl ⟨by rfl, fun w' hw => by (go_simp)⟩) (by assumption) ?_
        simp only [Act.put, List.setIfInBounds_toArray, List.set_cons_zero, List.set_cons_succ]
        refine anyH_take (i := 9) (v := .pointer (some ⟨g, 1, none⟩)) (some 26) rfl rfl (by kernel_rfl) (by kernel_rfl) (by kernel_rfl) (fun _ _ _ h => h) (Or.inl ⟨by rfl, fun w' hw => by (go_simp)⟩) (by assumption) ?_
        simp only [Act.put, List.setIfInBounds_toArray, List.set_cons_zero, List.set_cons_succ]
        refine anyH_take (i := 10) (v := .int .i64 a) (some 27) rfl rfl (by kernel_rfl) (by kernel_rfl) (by kernel_rfl) (fun _ _ _ h => h) (Or.inl ⟨by rfl, fun w' hw => by (have hc := hw.2.1; go_simp)⟩) (by assumption) ?_
        simp only [Act.put, List.setIfInBounds_toArray, List.set_cons_zero, List.set_cons_succ]
        refine anyH_take (i := 11) (v := .bool true) (some 28) rfl rfl (by kernel_rfl) (by kernel_rfl) (by kernel_rfl) (fun _ _ _ h => h) (Or.inl ⟨by rfl, fun w' hw => by (have hq1 := (Hc3.out).1; have hq2 := (Hc3.out).2; go_simp)⟩) (by assumption) ?_
        simp only [Act.put, List.setIfInBounds_toArray, List.set_cons_zero, List.set_cons_succ]
        refine anyH_take (i := 12) (v := .bool true) (some 29) rfl rfl (by kernel_rfl) (by kernel_rfl) (by kernel_rfl) (fun _ _ _ h => h) (Or.inl ⟨by rfl, fun w' hw => by (go_simp)⟩) (by assumption) ?_
        simp only [Act.put, List.setIfInBounds_toArray, List.set_cons_zero, List.set_cons_succ]
        refine anyH_take (i := 13) (v := .bool true) (some 30) rfl rfl (by kernel_rfl) (by kernel_rfl) (by kernel_rfl) (fun _ _ _ h => h) (Or.inl ⟨by rfl, fun w' hw => by (go_simp)⟩) (by assumption) ?_
        simp only [Act.put, List.setIfInBounds_toArray, List.set_cons_zero, List.set_cons_succ]
        refine anyH_take (i := 14) (v := undef) (some 31) rfl rfl (by kernel_rfl) (by kernel_rfl) (by kernel_rfl) (fun _ _ _ h => h) (Or.inr ⟨by rfl, rfl⟩) (by assumption) ?_
        simp only [Act.put, List.setIfInBounds_toArray, List.set_cons_zero, List.set_cons_succ]
        refine anyH_take (i := 15) (v := undef) (some 32) rfl rfl (by kernel_rfl) (by kernel_rfl) (by kernel_rfl) (fun _ _ _ h => h) (Or.inr ⟨by rfl, rfl⟩) (by assumption) ?_
        simp only [Act.put, List.setIfInBounds_toArray, List.set_cons_zero, List.set_cons_succ]
        refine anyH_take (i := 16) (v := undef) (some 33) rfl rfl (by kernel_rfl) (by kernel_rfl) (by kernel_rfl) (fun _ _ _ h => h) (Or.inr ⟨by rfl, rfl⟩) (by assumption) ?_
        simp only [Act.put, List.setIfInBounds_toArray, List.set_cons_zero, List.set_cons_succ]
        refine anyH_take (i := 17) (v := .bool true) (some 34) rfl rfl (by kernel_rfl) (by kernel_rfl) (by kernel_rfl) (fun _ _ _ h => h) (Or.inl ⟨by rfl, fun w' hw => by (go_simp)⟩) (by assumption) ?_
        simp only [Act.put, List.setIfInBounds_toArray, List.set_cons_zero, List.set_cons_succ]
        refine anyH_take (i := 18) (v := .bool true) (some 35) rfl rfl (by kernel_rfl) (by kernel_rfl) (by kernel_rfl) (fun _ _ _ h => h) (Or.inl ⟨by rfl, fun w' hw => by (go_simp)⟩) (by assumption) ?_
        simp only [Act.put, List.setIfInBounds_toArray, List.set_cons_zero, List.set_cons_succ]
        refine anyH_take (i := 19) (v := undef) (some 36) rfl rfl (by kernel_rfl) (by kernel_rfl) (by kernel_rfl) (fun _ _ _ h => h) (Or.inr ⟨by rfl, rfl⟩) (by assumption) ?_
        simp only [Act.put, List.setIfInBounds_toArray, List.set_cons_zero, List.set_cons_succ]
        refine anyH_take (i := 20) (v := undef) (some 37) rfl rfl (by kernel_rfl) (by kernel_rfl) (by kernel_rfl) (fun _ _ _ h => h) (Or.inr ⟨by rfl, rfl⟩) (by assumption) ?_
        simp only [Act.put, List.setIfInBounds_toArray, List.set_cons_zero, List.set_cons_succ]
        refine anyH_take (i := 21) (v := undef) (some 38) rfl rfl (by kernel_rfl) (by kernel_rfl) (by kernel_rfl) (fun _ _ _ h => h) (Or.inr ⟨by rfl, rfl⟩) (by assumption) ?_
        simp only [Act.put, List.setIfInBounds_toArray, List.set_cons_zero, List.set_cons_succ]
        refine anyH_take (i := 22) (v := .bool true) (some 39) rfl rfl (by kernel_rfl) (by kernel_rfl) (by kernel_rfl) (fun _ _ _ h => h) (Or.inl ⟨by rfl, fun w' hw => by (go_simp)⟩) (by assumption) ?_
        simp only [Act.put, List.setIfInBounds_toArray, List.set_cons_zero, List.set_cons_succ]
        refine anyH_take (i := 23) (v := .bool true) (some 40) rfl rfl (by kernel_rfl) (by kernel_rfl) (by kernel_rfl) (fun _ _ _ h => h) (Or.inl ⟨by rfl, fun w' hw => by (go_simp)⟩) (by assumption) ?_
        simp only [Act.put, List.setIfInBounds_toArray, List.set_cons_zero, List.set_cons_succ]
        refine anyH_take (i := 24) (v := undef) (some 41) rfl rfl (by kernel_rfl) (by kernel_rfl) (by kernel_rfl) (fun _ _ _ h => h) (Or.inr ⟨by rfl, rfl⟩) (by assumption) ?_
        simp only [Act.put, List.setIfInBounds_toArray, List.set_cons_zero, List.set_cons_succ]
        refine anyH_take (i := 25) (v := undef) (some 42) rfl rfl (by kernel_rfl) (by kernel_rfl) (by kernel_rfl) (fun _ _ _ h => h) (Or.inr ⟨by rfl, rfl⟩) (by assumption) ?_
        simp only [Act.put, List.setIfInBounds_toArray, List.set_cons_zero, List.set_cons_succ]
        refine anyH_take (i := 26) (v := undef) (some 43) rfl rfl (by kernel_rfl) (by kernel_rfl) (by kernel_rfl) (fun _ _ _ h => h) (Or.inr ⟨by rfl, rfl⟩) (by assumption) ?_
        simp only [Act.put, List.setIfInBounds_toArray, List.set_cons_zero, List.set_cons_succ]
        refine anyH_take (i := 27) (v := .bool true) (some 44) rfl rfl (by kernel_rfl) (by kernel_rfl) (by kernel_rfl) (fun _ _ _ h => h) (Or.inl ⟨by rfl, fun w' hw => by (go_simp)⟩) (by assumption) ?_
        simp only [Act.put, List.setIfInBounds_toArray, List.set_cons_zero, List.set_cons_succ]
        refine anyH_take (i := 28) (v := .bool true) (some 45) rfl rfl (by kernel_rfl) (by kernel_rfl) (by kernel_rfl) (fun _ _ _ h => h) (Or.inl ⟨by rfl, fun w' hw => by (go_simp)⟩) (by assumption) ?_
        simp only [Act.put, List.setIfInBounds_toArray, List.set_cons_zero, List.set_cons_succ]
        refine anyH_take (i := 29) (v := undef) (some 46) rfl rfl (by kernel_rfl) (by kernel_rfl) (by kernel_rfl) (fun _ _ _ h => h) (Or.inr ⟨by rfl, rfl⟩) (by assumption) ?_
        simp only [Act.put, List.setIfInBounds_toArray, List.set_cons_zero, List.set_cons_succ]
        refine anyH_take (i := 30) (v := undef) (some 47) rfl rfl (by kernel_rfl) (by kernel_rfl) (by kernel_rfl) (fun _ _ _ h => h) (Or.inr ⟨by rfl, rfl⟩) (by assumption) ?_
        simp only [Act.put, List.setIfInBounds_toArray, List.set_cons_zero, List.set_cons_succ]
        refine anyH_take (i := 31) (v := undef) (some 48) rfl rfl (by kernel_rfl) (by kernel_rfl) (by kernel_rfl) (fun _ _ _ h => h) (Or.inr ⟨by rfl, rfl⟩) (by assumption) ?_
        simp only [Act.put, List.setIfInBounds_toArray, List.set_cons_zero, List.set_cons_succ]
        refine anyH_take (i := 32) (v := undef) (some 49) rfl rfl (by kernel_rfl) (by kernel_rfl) (by kernel_rfl) (fun _ _ _ h => h) (Or.inr ⟨by rfl, rfl⟩) (by assumption) ?_
        simp only [Act.put, List.setIfInBounds_toArray, List.set_cons_zero, List.set_cons_succ]
        refine anyH_take (i := 33) (v := undef) (some 50) rfl rfl (by kernel_rfl) (by kernel_rfl) (by kernel_rfl) (fun _ _ _ h => h) (Or.inr ⟨by rfl, rfl⟩) (by assumption) ?_
        simp only [Act.put, List.setIfInBounds_toArray, List.set_cons_zero, List.set_cons_succ]
        refine anyH_take (i := 34) (v := undef) (some 51) rfl rfl (by kernel_rfl) (by kernel_rfl) (by kernel_rfl) (fun _ _ _ h => h) (Or.inr ⟨by rfl, rfl⟩) (by assumption) ?_
        simp only [Act.put, List.setIfInBounds_toArray, List.set_cons_zero, List.set_cons_succ]
        refine anyH_take (i := 35) (v := undef) (some 52) rfl rfl (by kernel_rfl) (by kernel_rfl) (by kernel_rfl) (fun _ _ _ h => h) (Or.inr ⟨by rfl, rfl⟩) (by assumption) ?_
        simp only [Act.put, List.setIfInBounds_toArray, List.set_cons_zero, List.set_cons_succ]
        refine anyH_take (i := 36) (v := undef) (some 53) rfl rfl (by kernel_rfl) (by kernel_rfl) (by kernel_rfl) (fun _ _ _ h => h) (Or.inr ⟨by rfl, rfl⟩) (by assumption) ?_
        simp only [Act.put, List.setIfInBounds_toArray, List.set_cons_zero, List.set_cons_succ]
        refine anyH_take (i := 37) (v := undef) (some 54) rfl rfl (by kernel_rfl) (by kernel_rfl) (by kernel_rfl) (fun _ _ _ h => h) (Or.inr ⟨by rfl, rfl⟩) (by assumption) ?_
        simp only [Act.put, List.setIfInBounds_toArray, List.set_cons_zero, List.set_cons_succ]
        refine anyH_take (i := 38) (v := undef) (some 55) rfl rfl (by kernel_rfl) (by kernel_rfl) (by kernel_rfl) (fun _ _ _ h => h) (Or.inr ⟨by rfl, rfl⟩) (by assumption) ?_
        simp only [Act.put, List.setIfInBounds_toArray, List.set_cons_zero, List.set_cons_succ]
        refine anyH_take (i := 39) (v := undef) (some 56) rfl rfl (by kernel_rfl) (by kernel_rfl) (by kernel_rfl) (fun _ _ _ h => h) (Or.inr ⟨by rfl, rfl⟩) (by assumption) ?_
        simp only [Act.put, List.setIfInBounds_toArray, List.set_cons_zero, List.set_cons_succ]
        refine anyH_take (i := 40) (v := undef) (some 57) rfl rfl (by kernel_rfl) (by kernel_rfl) (by kernel_rfl) (fun _ _ _ h => h) (Or.inr ⟨by rfl, rfl⟩) (by assumption) ?_
        simp only [Act.put, List.setIfInBounds_toArray, List.set_cons_zero, List.set_cons_succ]
        refine anyH_take (i := 41) (v := undef) (some 58) rfl rfl (by kernel_rfl) (by kernel_rfl) (by kernel_rfl) (fun _ _ _ h => h) (Or.inr ⟨by rfl, rfl⟩) (by assumption) ?_
        simp only [Act.put, List.setIfInBounds_toArray, List.set_cons_zero, List.set_cons_succ]
        refine anyH_take (i := 42) (v := undef) (some 59) rfl rfl (by kernel_rfl) (by kernel_rfl) (by kernel_rfl) (fun _ _ _ h => h) (Or.inr ⟨by rfl, rfl⟩) (by assumption) ?_
        simp only [Act.put, List.setIfInBounds_toArray, List.set_cons_zero, List.set_cons_succ]
        refine anyH_take (i := 43) (v := .bool true) (some 60) rfl rfl (by kernel_rfl) (by kernel_rfl) (by kernel_rfl) (fun _ _ _ h => h) (Or.inl ⟨by rfl, fun w' hw => by (go_simp)⟩) (by assumption) ?_
        simp only [Act.put, List.setIfInBounds_toArray, List.set_cons_zero, List.set_cons_succ]
        refine wpAnyH_done (by kernel_rfl) ?_ _
        go_wp2_with fail
        go_ret
        exact ⟨by rw [← Hno.out]; rfl, Below.dN hb5 1⟩
      have Hc3 := Lib.hid (show decide (a < 0) = false ∧ True from ⟨decide_eq_false c3, trivial⟩)
      by_cases c4 : 65535 < a
      · have Hc4 := Lib.hid (show decide (65535 < a) = true ∧ decide (a > 65535) = true from ⟨decide_eq_true c4, decide_eq_true c4⟩)
        have Hno := Lib.hid (Hbad.out (fun h => by have := h.2.2.2.1; rw [Hxan.out.2.1] at this; omega))
        refine wp_region_held_drew (S := fun w' => w'.cell? ⟨g, 0, none⟩ = some (.int .i64 x) ∧ w'.cell? ⟨g, 1, none⟩ = some (.int .i64 a) ∧ w'.cell? ⟨g, 2, none⟩ = some (.int .i64 n) ∧ True) (by kernel_rfl) ⟨q0, q1, q2, trivial⟩ (fun hHeld => ?_)
        refine anyH_take (i := 0) (v := .pointer (some ⟨g, 0, none⟩)) (some 17) rfl rfl (by kernel_rfl) (by kernel_rfl) (by kernel_rfl) (fun _ _ _ h => h) (Or.inl ⟨by rfl, fun w' hw => by (go_simp)⟩) (by assumption) ?_
        simp only [Act.put, List.setIfInBounds_toArray, List.set_cons_zero, List.set_cons_succ]
        refine anyH_take (i := 1) (v := .int .i64 x) (some 18) rfl rfl (by kernel_rfl) (by kernel_rfl) (by kernel_rfl) (fun _ _ _ h => h) (Or.inl ⟨by rfl, fun w' hw => by (have hc := hw.1; go_simp)⟩) (by assumption) ?_
        simp only [Act.put, List.setIfInBounds_toArray, List.set_cons_zero, List.set_cons_succ]
        refine anyH_take (i := 2) (v := .bool false) (some 19) rfl rfl (by kernel_rfl) (by kernel_rfl) (by kernel_rfl) (fun _ _ _ h => h) (Or.inl ⟨by rfl, fun w' hw => by (have hq1 := (Hc1.out).1; have hq2 := (Hc1.out).2; go_simp)⟩) (by assumption) ?_
        simp only [Act.put, List.setIfInBounds_toArray, List.set_cons_zero, List.set_cons_succ]
        refine anyH_take (i := 3) (v := .bool false) (some 20) rfl rfl (by kernel_rfl) (by kernel_rfl) (by kernel_rfl) (fun _ _ _ h => h) (Or.inl ⟨by rfl, fun w' hw => by (go_simp)⟩) (by assumption) ?_
        simp only [Act.put, List.setIfInBounds_toArray, List.set_cons_zero, List.set_cons_succ]
        refine anyH_take (i := 4) (v := .pointer (some ⟨g, 0, none⟩)) (some 21) rfl rfl (by kernel_rfl) (by kernel_rfl) (by kernel_rfl) (fun _ _ _ h => h) (Or.inl ⟨by rfl, fun w' hw => by (go_simp)⟩) (by assumption) ?_
        simp only [Act.put, List.setIfInBounds_toArray, List.set_cons_zero, List.set_cons_succ]
        refine anyH_take (i := 5) (v := .int .i64 x) (some 22) rfl rfl (by kernel_rfl) (by kernel_rfl) (by kernel_rfl) (fun _ _ _ h => h) (Or.inl ⟨by rfl, fun w' hw => by (have hc := hw.1; go_simp)⟩) (by assumption) ?_
        simp only [Act.put, List.setIfInBounds_toArray, List.set_cons_zero, List.set_cons_succ]
        refine anyH_take (i := 6) (v := .bool false) (some 23) rfl rfl (by kernel_rfl) (by kernel_rfl) (by kernel_rfl) (fun _ _ _ h => h) (Or.inl ⟨by rfl, fun w' hw => by (have hq1 := (Hc2.out).1; have hq2 := (Hc2.out).2; go_simp)⟩) (by assumption) ?_
        simp only [Act.put, List.setIfInBounds_toArray, List.set_cons_zero, List.set_cons_succ]
        refine anyH_take (i := 7) (v := .bool false) (some 24) rfl rfl (by kernel_rfl) (by kernel_rfl) (by kernel_rfl) (fun _ _ _ h => h) (Or.inl ⟨by rfl, fun w' hw => by (go_simp)⟩) (by assumption) ?_
        simp only [Act.put, List.setIfInBounds_toArray, List.set_cons_zero, List.set_cons_succ]
        refine anyH_take (i := 8) (v := .bool false) (some 25) rfl rfl (by kernel_rfl) (by kernel_rfl) (by kernel_rfl) (fun _ _ _ h => h) (Or.inl ⟨by rfl, fun w' hw => by (go_simp)⟩) (by assumption) ?_
        simp only [Act.put, List.setIfInBounds_toArray, List.set_cons_zero, List.set_cons_succ]
        refine anyH_take (i := 9) (v := .pointer (some ⟨g, 1, none⟩)) (some 26) rfl rfl (by kernel_rfl) (by kernel_rfl) (by kernel_rfl) (fun _ _ _ h => h) (Or.inl ⟨by rfl, fun w' hw => by (go_simp)⟩) (by assumption) ?_
        simp only [Act.put, List.setIfInBounds_toArray, List.set_cons_zero, List.set_cons_succ]
        refine anyH_take (i := 10) (v := .int .i64 a) (some 27) rfl rfl (by kernel_rfl) (by kernel_rfl) (by kernel_rfl) (fun _ _ _ h => h) (Or.inl ⟨by rfl, fun w' hw => by (have hc := hw.2.1; go_simp)⟩) (by assumption) ?_
        simp only [Act.put, List.setIfInBounds_toArray, List.set_cons_zero, List.set_cons_succ]
        refine anyH_take (i := 11) (v := .bool false) (some 28) rfl rfl (by kernel_rfl) (by kernel_rfl) (by kernel_rfl) (fun _ _ _ h => h) (Or.inl ⟨by rfl, fun w' hw => by (have hq1 := (Hc3.out).1; have hq2 := (Hc3.out).2; go_simp)⟩) (by assumption) ?_
        simp only [Act.put, List.setIfInBounds_toArray, List.set_cons_zero, List.set_cons_succ]
        refine anyH_take (i := 12) (v := .bool false) (some 29) rfl rfl (by kernel_rfl) (by kernel_rfl) (by kernel_rfl) (fun _ _ _ h => h) (Or.inl ⟨by rfl, fun w' hw => by (go_simp)⟩) (by assumption) ?_
        simp only [Act.put, List.setIfInBounds_toArray, List.set_cons_zero, List.set_cons_succ]
        refine anyH_take (i := 13) (v := .bool false) (some 30) rfl rfl (by kernel_rfl) (by kernel_rfl) (by kernel_rfl) (fun _ _ _ h => h) (Or.inl ⟨by rfl, fun w' hw => by (go_simp)⟩) (by assumption) ?_
        simp only [Act.put, List.setIfInBounds_toArray, List.set_cons_zero, List.set_cons_succ]
        refine anyH_take (i := 14) (v := .pointer (some ⟨g, 1, none⟩)) (some 31) rfl rfl (by kernel_rfl) (by kernel_rfl) (by kernel_rfl) (fun _ _ _ h => h) (Or.inl ⟨by rfl, fun w' hw => by (go_simp)⟩) (by assumption) ?_
        simp only [Act.put, List.setIfInBounds_toArray, List.set_cons_zero, List.set_cons_succ]
        refine anyH_take (i := 15) (v := .int .i64 a) (some 32) rfl rfl (by kernel_rfl) (by kernel_rfl) (by kernel_rfl) (fun _ _ _ h => h) (Or.inl ⟨by rfl, fun w' hw => by (have hc := hw.2.1; go_simp)⟩) (by assumption) ?_
        simp only [Act.put, List.setIfInBounds_toArray, List.set_cons_zero, List.set_cons_succ]
        refine anyH_take (i := 16) (v := .bool true) (some 33) rfl rfl (by kernel_rfl) (by kernel_rfl) (by kernel_rfl) (fun _ _ _ h => h) (Or.inl ⟨by rfl, fun w' hw => by (have hq1 := (Hc4.out).1; have hq2 := (Hc4.out).2; go_simp)⟩) (by assumption) ?_
        simp only [Act.put, List.setIfInBounds_toArray, List.set_cons_zero, List.set_cons_succ]
        refine anyH_take (i := 17) (v := .bool true) (some 34) rfl rfl (by kernel_rfl) (by kernel_rfl) (by kernel_rfl) (fun _ _ _ h => h) (Or.inl ⟨by rfl, fun w' hw => by (go_simp)⟩) (by assumption) ?_
        simp only [Act.put, List.setIfInBounds_toArray, List.set_cons_zero, List.set_cons_succ]
        refine anyH_take (i := 18) (v := .bool true) (some 35) rfl rfl (by kernel_rfl) (by kernel_rfl) (by kernel_rfl) (fun _ _ _ h => h) (Or.inl ⟨by rfl, fun w' hw => by (go_simp)⟩) (by assumption) ?_
        simp only [Act.put, List.setIfInBounds_toArray, List.set_cons_zero, List.set_cons_succ]
        refine anyH_take (i := 19) (v := undef) (some 36) rfl rfl (by kernel_rfl) (by kernel_rfl) (by kernel_rfl) (fun _ _ _ h => h) (Or.inr ⟨by rfl, rfl⟩) (by assumption) ?_
        simp only [Act.put, List.setIfInBounds_toArray, List.set_cons_zero, List.set_cons_succ]
        refine anyH_take (i := 20) (v := undef) (some 37) rfl rfl (by kernel_rfl) (by kernel_rfl) (by kernel_rfl) (fun _ _ _ h => h) (Or.inr ⟨by rfl, rfl⟩) (by assumption) ?_
        simp only [Act.put, List.setIfInBounds_toArray, List.set_cons_zero, List.set_cons_succ]
        refine anyH_take (i := 21) (v := undef) (some 38) rfl rfl (by kernel_rfl) (by kernel_rfl) (by kernel_rfl) (fun _ _ _ h => h) (Or.inr ⟨by rfl, rfl⟩) (by assumption) ?_
        simp only [Act.put, List.setIfInBounds_toArray, List.set_cons_zero, List.set_cons_succ]
        refine anyH_take (i := 22) (v := .bool true) (some 39) rfl rfl (by kernel_rfl) (by kernel_rfl) (by kernel_rfl) (fun _ _ _ h => h) (Or.inl ⟨by rfl, fun w' hw => by (go_simp)⟩) (by assumption) ?_
        simp only [Act.put, List.setIfInBounds_toArray, List.set_cons_zero, List.set_cons_succ]
        refine anyH_take (i := 23) (v := .bool true) (some 40) rfl rfl (by kernel_rfl) (by kernel_rfl) (by kernel_rfl) (fun _ _ _ h => h) (Or.inl ⟨by rfl, fun w' hw => by (go_simp)⟩) (by assumption) ?_
        simp only [Act.put, List.setIfInBounds_toArray, List.set_cons_zero, List.set_cons_succ]
        refine anyH_take (i := 24) (v := undef) (some 41) rfl rfl (by kernel_rfl) (by kernel_rfl) (by kernel_rfl) (fun _ _ _ h => h) (Or.inr ⟨by rfl, rfl⟩) (by assumption) ?_
        simp only [Act.put, List.setIfInBounds_toArray, List.set_cons_zero, List.set_cons_succ]
        refine anyH_take (i := 25) (v := undef) (some 42) rfl rfl (by kernel_rfl) (by kernel_rfl) (by kernel_rfl) (fun _ _ _ h => h) (Or.inr ⟨by rfl, rfl⟩) (by assumption) ?_
        simp only [Act.put, List.setIfInBounds_toArray, List.set_cons_zero, List.set_cons_succ]
        refine anyH_take (i := 26) (v := undef) (some 43) rfl rfl (by kernel_rfl) (by kernel_rfl) (by kernel_rfl) (fun _ _ _ h => h) (Or.inr ⟨by rfl, rfl⟩) (by assumption) ?_
        simp only [Act.put, List.setIfInBounds_toArray, List.set_cons_zero, List.set_cons_succ]
        refine anyH_take (i := 27) (v := .bool true) (some 44) rfl rfl (by kernel_rfl) (by kernel_rfl) (by kernel_rfl) (fun _ _ _ h => h) (Or.inl ⟨by rfl, fun w' hw => by (go_simp)⟩) (by assumption) ?_
        simp only [Act.put, List.setIfInBounds_toArray, List.set_cons_zero, List.set_cons_succ]
        refine anyH_take (i := 28) (v := .bool true) (some 45) rfl rfl (by kernel_rfl) (by kernel_rfl) (by kernel_rfl) (fun _ _ _ h => h) (Or.inl ⟨by rfl, fun w' hw => by (go_simp)⟩) (by assumption) ?_
        simp only [Act.put, List.setIfInBounds_toArray, List.set_cons_zero, List.set_cons_succ]
        refine anyH_take (i := 29) (v := undef) (some 46) rfl rfl (by kernel_rfl) (by kernel_rfl) (by kernel_rfl) (fun _ _ _ h => h) (Or.inr ⟨by rfl, rfl⟩) (by assumption) ?_
        simp only [Act.put, List.setIfInBounds_toArray, List.set_cons_zero, List.set_cons_succ]
        refine anyH_take (i := 30) (v := undef) (some 47) rfl rfl (by kernel_rfl) (by kernel_rfl) (by kernel_rfl) (fun _ _ _ h => h) (Or.inr ⟨by rfl, rfl⟩) (by assumption) ?_
        simp only [Act.put, List.setIfInBounds_toArray, List.set_cons_zero, List.set_cons_succ]
        refine anyH_take (i := 31) (v := undef) (some 48) rfl rfl (by kernel_rfl) (by kernel_rfl) (by kernel_rfl) (fun _ _ _ h => h) (Or.inr ⟨by rfl, rfl⟩) (by assumption) ?_
        simp only [Act.put, List.setIfInBounds_toArray, List.set_cons_zero, List.set_cons_succ]
        refine anyH_take (i := 32) (v := undef) (some 49) rfl rfl (by kernel_rfl) (by kernel_rfl) (by kernel_rfl) (fun _ _ _ h => h) (Or.inr ⟨by rfl, rfl⟩) (by assumption) ?_
        simp only [Act.put, List.setIfInBounds_toArray, List.set_cons_zero, List.set_cons_succ]
        refine anyH_take (i := 33) (v := undef) (some 50) rfl rfl (by kernel_rfl) (by kernel_rfl) (by kernel_rfl) (fun _ _ _ h => h) (Or.inr ⟨by rfl, rfl⟩) (by assumption) ?_
        simp only [Act.put, List.setIfInBounds_toArray, List.set_cons_zero, List.set_cons_succ]
        refine anyH_take (i := 34) (v := undef) (some 51) rfl rfl (by kernel_rfl) (by kernel_rfl) (by kernel_rfl) (fun _ _ _ h => h) (Or.inr ⟨by rfl, rfl⟩) (by assumption) ?_
        simp only [Act.put, List.setIfInBounds_toArray, List.set_cons_zero, List.set_cons_succ]
        refine anyH_take (i := 35) (v := undef) (some 52) rfl rfl (by kernel_rfl) (by kernel_rfl) (by kernel_rfl) (fun _ _ _ h => h) (Or.inr ⟨by rfl, rfl⟩) (by assumption) ?_
        simp only [Act.put, List.setIfInBounds_toArray, List.set_cons_zero, List.set_cons_succ]
        refine anyH_take (i := 36) (v := undef) (some 53) rfl rfl (by kernel_rfl) (by kernel_rfl) (by kernel_rfl) (fun _ _ _ h => h) (Or.inr ⟨by rfl, rfl⟩) (by assumption) ?_
        simp only [Act.put, List.setIfInBounds_toArray, List.set_cons_zero, List.set_cons_succ]
        refine anyH_take (i := 37) (v := undef) (some 54) rfl rfl (by kernel_rfl) (by kernel_rfl) (by kernel_rfl) (fun _ _ _ h => h) (Or.inr ⟨by rfl, rfl⟩) (by assumption) ?_
        simp only [Act.put, List.setIfInBounds_toArray, List.set_cons_zero, List.set_cons_succ]
        refine anyH_take (i := 38) (v := undef) (some 55) rfl rfl (by kernel_rfl) (by kernel_rfl) (by kernel_rfl) (fun _ _ _ h => h) (Or.inr ⟨by rfl, rfl⟩) (by assumption) ?_
        simp only [Act.put, List.setIfInBounds_toArray, List.set_cons_zero, List.set_cons_succ]
        refine anyH_take (i := 39) (v := undef) (some 56) rfl rfl (by kernel_rfl) (by kernel_rfl) (by kernel_rfl) (fun _ _ _ h => h) (Or.inr ⟨by rfl, rfl⟩) (by assumption) ?_
        simp only [Act.put, List.setIfInBounds_toArray, List.set_cons_zero, List.set_cons_succ]
        refine anyH_take (i := 40) (v := undef) (some 57) rfl rfl (by kernel_rfl) (by kernel_rfl) (by kernel_rfl) (fun _ _ _ h => h) (Or.inr ⟨by rfl, rfl⟩) (by assumption) ?_
        simp only [Act.put, List.setIfInBounds_toArray, List.set_cons_zero, List.set_cons_succ]
        refine anyH_take (i := 41) (v := undef) (some 58) rfl rfl (by kernel_rfl) (by kernel_rfl) (by kernel_rfl) (fun _ _ _ h => h) (Or.inr ⟨by rfl, rfl⟩) (by assumption) ?_
        simp only [Act.put, List.setIfInBounds_toArray, List.set_cons_zero, List.set_cons_succ]
        refine anyH_take (i := 42) (v := undef) (some 59) rfl rfl (by kernel_rfl) (by kernel_rfl) (by kernel_rfl) (fun _ _ _ h => h) (Or.inr ⟨by rfl, rfl⟩) (by assumption) ?_
        simp only [Act.put, List.setIfInBounds_toArray, List.set_cons_zero, List.set_cons_succ]
        refine anyH_take (i := 43) (v := .bool true) (some 60) rfl rfl (by kernel_rfl) (by kernel_rfl) (by kernel_rfl) (fun _ _ _ h => h) (Or.inl ⟨by rfl, fun w' hw => by (go_simp)⟩) (by assumption) ?_
        simp only [Act.put, List.setIfInBounds_toArray, List.set_cons_zero, List.set_cons_succ]
        refine wpAnyH_done (by kernel_rfl) ?_ _
        go_wp2_with fail
        go_ret
        exact ⟨by rw [← Hno.out]; rfl, Below.dN hb5 1⟩
      have Hc4 := Lib.hid (show decide (65535 < a) = false ∧ decide (a > 65535) = false from ⟨decide_eq_false c4, decide_eq_false c4⟩)
      by_cases c5 : n < 0
      · have Hc5 := Lib.hid (show decide (n < 0) = true ∧ True from ⟨decide_eq_true c5, trivial⟩)
        have Hno := Lib.hid (Hbad.out (fun h => by have := h.2.2.2.2.1; rw [Hxan.out.2.2] at this; omega))
        refine wp_region_held_drew (S := fun w' => w'.cell? ⟨g, 0, none⟩ = some (.int .i64 x) ∧ w'.cell? ⟨g, 1, none⟩ = some (.int .i64 a) ∧ w'.cell? ⟨g, 2, none⟩ = some (.int .i64 n) ∧ True) (by kernel_rfl) ⟨q0, q1, q2, trivial⟩ (fun hHeld => ?_)
        refine anyH_take (i := 0) (v := .pointer (some ⟨g, 0, none⟩)) (some 17) rfl rfl (by kernel_rfl) (by kernel_rfl) (by kernel_rfl) (fun _ _ _ h => h) (Or.inl ⟨by rfl, fun w' hw => by (go_simp)⟩) (by assumption) ?_
        simp only [Act.put, List.setIfInBounds_toArray, List.set_cons_zero, List.set_cons_succ]
        refine anyH_take (i := 1) (v := .int .i64 x) (some 18) rfl rfl (by kernel_rfl) (by kernel_rfl) (by kernel_rfl) (fun _ _ _ h => h) (Or.inl ⟨by rfl, fun w' hw => by (have hc := hw.1; go_simp)⟩) (by assumption) ?_
        simp only [Act.put, List.setIfInBounds_toArray, List.set_cons_zero, List.set_cons_succ]
        refine anyH_take (i := 2) (v := .bool false) (some 19) rfl rfl (by kernel_rfl) (by kernel_rfl) (by kernel_rfl) (fun _ _ _ h => h) (Or.inl ⟨by rfl, fun w' hw => by (have hq1 := (Hc1.out).1; have hq2 := (Hc1.out).2; go_simp)⟩) (by assumption) ?_
        simp only [Act.put, List.setIfInBounds_toArray, List.set_cons_zero, List.set_cons_succ]
        refine anyH_take (i := 3) (v := .bool false) (some 20) rfl rfl (by kernel_rfl) (by kernel_rfl) (by kernel_rfl) (fun _ _ _ h => h) (Or.inl ⟨by rfl, fun w' hw => by (go_simp)⟩) (by assumption) ?_
        simp only [Act.put, List.setIfInBounds_toArray, List.set_cons_zero, List.set_cons_succ]
        refine anyH_take (i := 4) (v := .pointer (some ⟨g, 0, none⟩)) (some 21) rfl rfl (by kernel_rfl) (by kernel_rfl) (by kernel_rfl) (fun _ _ _ h => h) (Or.inl ⟨by rfl, fun w' hw => by (go_simp)⟩) (by assumption) ?_
        simp only [Act.put, List.setIfInBounds_toArray, List.set_cons_zero, List.set_cons_succ]
        refine anyH_take (i := 5) (v := .int .i64 x) (some 22) rfl rfl (by kernel_rfl) (by kernel_rfl) (by kernel_rfl) (fun _ _ _ h => h) (Or.inl ⟨by rfl, fun w' hw => by (have hc := hw.1; go_simp)⟩) (by assumption) ?_
        simp only [Act.put, List.setIfInBounds_toArray, List.set_cons_zero, List.set_cons_succ]
        refine anyH_take (i := 6) (v := .bool false) (some 23) rfl rfl (by kernel_rfl) (by kernel_rfl) (by kernel_rfl) (fun _ _ _ h => h) (Or.inl ⟨by rfl, fun w' hw => by (have hq1 := (Hc2.out).1; have hq2 := (Hc2.out).2; go_simp)⟩) (by assumption) ?_
        simp only [Act.put, List.setIfInBounds_toArray, List.set_cons_zero, List.set_cons_succ]
        refine anyH_take (i := 7) (v := .bool false) (some 24) rfl rfl (by kernel_rfl) (by kernel_rfl) (by kernel_rfl) (fun _ _ _ h => h) (Or.inl ⟨by rfl, fun w' hw => by (go_simp)⟩) (by assumption) ?_
        simp only [Act.put, List.setIfInBounds_toArray, List.set_cons_zero, List.set_cons_succ]
        refine anyH_take (i := 8) (v := .bool false) (some 25) rfl rfl (by kernel_rfl) (by kernel_rfl) (by kernel_rfl) (fun _ _ _ h => h) (Or.inl ⟨by rfl, fun w' hw => by (go_simp)⟩) (by assumption) ?_
        simp only [Act.put, List.setIfInBounds_toArray, List.set_cons_zero, List.set_cons_succ]
        refine anyH_take (i := 9) (v := .pointer (some ⟨g, 1, none⟩)) (some 26) rfl rfl (by kernel_rfl) (by kernel_rfl) (by kernel_rfl) (fun _ _ _ h => h) (Or.inl ⟨by rfl, fun w' hw => by (go_simp)⟩) (by assumption) ?_
        simp only [Act.put, List.setIfInBounds_toArray, List.set_cons_zero, List.set_cons_succ]
        refine anyH_take (i := 10) (v := .int .i64 a) (some 27) rfl rfl (by kernel_rfl) (by kernel_rfl) (by kernel_rfl) (fun _ _ _ h => h) (Or.inl ⟨by rfl, fun w' hw => by (have hc := hw.2.1; go_simp)⟩) (by assumption) ?_
        simp only [Act.put, List.setIfInBounds_toArray, List.set_cons_zero, List.set_cons_succ]
        refine anyH_take (i := 11) (v := .bool false) (some 28) rfl rfl (by kernel_rfl) (by kernel_rfl) (by kernel_rfl) (fun _ _ _ h => h) (Or.inl ⟨by rfl, fun w' hw => by (have hq1 := (Hc3.out).1; have hq2 := (Hc3.out).2; go_simp)⟩) (by assumption) ?_
        simp only [Act.put, List.setIfInBounds_toArray, List.set_cons_zero, List.set_cons_succ]
        refine anyH_take (i := 12) (v := .bool false) (some 29) rfl rfl (by kernel_rfl) (by kernel_rfl) (by kernel_rfl) (fun _ _ _ h => h) (Or.inl ⟨by rfl, fun w' hw => by (go_simp)⟩) (by assumption) ?_
        simp only [Act.put, List.setIfInBounds_toArray, List.set_cons_zero, List.set_cons_succ]
        refine anyH_take (i := 13) (v := .bool false) (some 30) rfl rfl (by kernel_rfl) (by kernel_rfl) (by kernel_rfl) (fun _ _ _ h => h) (Or.inl ⟨by rfl, fun w' hw => by (go_simp)⟩) (by assumption) ?_
        simp only [Act.put, List.setIfInBounds_toArray, List.set_cons_zero, List.set_cons_succ]
        refine anyH_take (i := 14) (v := .pointer (some ⟨g, 1, none⟩)) (some 31) rfl rfl (by kernel_rfl) (by kernel_rfl) (by kernel_rfl) (fun _ _ _ h => h) (Or.inl ⟨by rfl, fun w' hw => by (go_simp)⟩) (by assumption) ?_
        simp only [Act.put, List.setIfInBounds_toArray, List.set_cons_zero, List.set_cons_succ]
        refine anyH_take (i := 15) (v := .int .i64 a) (some 32) rfl rfl (by kernel_rfl) (by kernel_rfl) (by kernel_rfl) (fun _ _ _ h => h) (Or.inl ⟨by rfl, fun w' hw => by (have hc := hw.2.1; go_simp)⟩) (by assumption) ?_
        simp only [Act.put, List.setIfInBounds_toArray, List.set_cons_zero, List.set_cons_succ]
        refine anyH_take (i := 16) (v := .bool false) (some 33) rfl rfl (by kernel_rfl) (by kernel_rfl) (by kernel_rfl) (fun _ _ _ h => h) (Or.inl ⟨by rfl, fun w' hw => by (have hq1 := (Hc4.out).1; have hq2 := (Hc4.out).2; go_simp)⟩) (by assumption) ?_
        simp only [Act.put, List.setIfInBounds_toArray, List.set_cons_zero, List.set_cons_succ]
        refine anyH_take (i := 17) (v := .bool false) (some 34) rfl rfl (by kernel_rfl) (by kernel_rfl) (by kernel_rfl) (fun _ _ _ h => h) (Or.inl ⟨by rfl, fun w' hw => by (go_simp)⟩) (by assumption) ?_
        simp only [Act.put, List.setIfInBounds_toArray, List.set_cons_zero, List.set_cons_succ]
        refine anyH_take (i := 18) (v := .bool false) (some 35) rfl rfl (by kernel_rfl) (by kernel_rfl) (by kernel_rfl) (fun _ _ _ h => h) (Or.inl ⟨by rfl, fun w' hw => by (go_simp)⟩) (by assumption) ?_
        simp only [Act.put, List.setIfInBounds_toArray, List.set_cons_zero, List.set_cons_succ]
        refine anyH_take (i := 19) (v := .pointer (some ⟨g, 2, none⟩)) (some 36) rfl rfl (by kernel_rfl) (by kernel_rfl) (by kernel_rfl) (fun _ _ _ h => h) (Or.inl ⟨by rfl, fun w' hw => by (go_simp)⟩) (by assumption) ?_
        simp only [Act.put, List.setIfInBounds_toArray, List.set_cons_zero, List.set_cons_succ]
        refine anyH_take (i := 20) (v := .int .i64 n) (some 37) rfl rfl (by kernel_rfl) (by kernel_rfl) (by kernel_rfl) (fun _ _ _ h => h) (Or.inl ⟨by rfl, fun w' hw => by (have hc := hw.2.2.1; go_simp)⟩) (by assumption) ?_
        simp only [Act.put, List.setIfInBounds_toArray, List.set_cons_zero, List.set_cons_succ]
        refine anyH_take (i := 21) (v := .bool true) (some 38) rfl rfl (by kernel_rfl) (by kernel_rfl) (by kernel_rfl) (fun _ _ _ h => h) (Or.inl ⟨by rfl, fun w' hw => by (have hq1 := (Hc5.out).1; have hq2 := (Hc5.out).2; go_simp)⟩) (by assumption) ?_
        simp only [Act.put, List.setIfInBounds_toArray, List.set_cons_zero, List.set_cons_succ]
        refine anyH_take (i := 22) (v := .bool true) (some 39) rfl rfl (by kernel_rfl) (by kernel_rfl) (by kernel_rfl) (fun _ _ _ h => h) (Or.inl ⟨by rfl, fun w' hw => by (go_simp)⟩) (by assumption) ?_
        simp only [Act.put, List.setIfInBounds_toArray, List.set_cons_zero, List.set_cons_succ]
        refine anyH_take (i := 23) (v := .bool true) (some 40) rfl rfl (by kernel_rfl) (by kernel_rfl) (by kernel_rfl) (fun _ _ _ h => h) (Or.inl ⟨by rfl, fun w' hw => by (go_simp)⟩) (by assumption) ?_
        simp only [Act.put, List.setIfInBounds_toArray, List.set_cons_zero, List.set_cons_succ]
        refine anyH_take (i := 24) (v := undef) (some 41) rfl rfl (by kernel_rfl) (by kernel_rfl) (by kernel_rfl) (fun _ _ _ h => h) (Or.inr ⟨by rfl, rfl⟩) (by assumption) ?_
        simp only [Act.put, List.setIfInBounds_toArray, List.set_cons_zero, List.set_cons_succ]
        refine anyH_take (i := 25) (v := undef) (some 42) rfl rfl (by kernel_rfl) (by kernel_rfl) (by kernel_rfl) (fun _ _ _ h => h) (Or.inr ⟨by rfl, rfl⟩) (by assumption) ?_
        simp only [Act.put, List.setIfInBounds_toArray, List.set_cons_zero, List.set_cons_succ]
        refine anyH_take (i := 26) (v := undef) (some 43) rfl rfl (by kernel_rfl) (by kernel_rfl) (by kernel_rfl) (fun _ _ _ h => h) (Or.inr ⟨by rfl, rfl⟩) (by assumption) ?_
        simp only [Act.put, List.setIfInBounds_toArray, List.set_cons_zero, List.set_cons_succ]
        refine anyH_take (i := 27) (v := .bool true) (some 44) rfl rfl (by kernel_rfl) (by kernel_rfl) (by kernel_rfl) (fun _ _ _ h => h) (Or.inl ⟨by rfl, fun w' hw => by (go_simp)⟩) (by assumption) ?_
        simp only [Act.put, List.setIfInBounds_toArray, List.set_cons_zero, List.set_cons_succ]
        refine anyH_take (i := 28) (v := .bool true) (some 45) rfl rfl (by kernel_rfl) (by kernel_rfl) (by kernel_rfl) (fun _ _ _ h => h) (Or.inl ⟨by rfl, fun w' hw => by (go_simp)⟩) (by assumption) ?_
        simp only [Act.put, List.setIfInBounds_toArray, List.set_cons_zero, List.set_cons_succ]
        refine anyH_take (i := 29) (v := undef) (some 46) rfl rfl (by kernel_rfl) (by kernel_rfl) (by kernel_rfl) (fun _ _ _ h => h) (Or.inr ⟨by rfl, rfl⟩) (by assumption) ?_
        simp only [Act.put, List.setIfInBounds_toArray, List.set_cons_zero, List.set_cons_succ]
        refine anyH_take (i := 30) (v := undef) (some 47) rfl rfl (by kernel_rfl) (by kernel_rfl) (by kernel_rfl) (fun _ _ _ h => h) (Or.inr ⟨by rfl, rfl⟩) (by assumption) ?_
        simp only [Act.put, List.setIfInBounds_toArray, List.set_cons_zero, List.set_cons_succ]
        refine anyH_take (i := 31) (v := undef) (some 48) rfl rfl (by kernel_rfl) (by kernel_rfl) (by kernel_rfl) (fun _ _ _ h => h) (Or.inr ⟨by rfl, rfl⟩) (by assumption) ?_
        simp only [Act.put, List.setIfInBounds_toArray, List.set_cons_zero, List.set_cons_succ]
        refine anyH_take (i := 32) (v := undef) (some 49) rfl rfl (by kernel_rfl) (by kernel_rfl) (by kernel_rfl) (fun _ _ _ h => h) (Or.inr ⟨by rfl, rfl⟩) (by assumption) ?_
        simp only [Act.put, List.setIfInBounds_toArray, List.set_cons_zero, List.set_cons_succ]
        refine anyH_take (i := 33) (v := undef) (some 50) rfl rfl (by kernel_rfl) (by kernel_rfl) (by kernel_rfl) (fun _ _ _ h => h) (Or.inr ⟨by rfl, rfl⟩) (by assumption) ?_
        simp only [Act.put, List.setIfInBounds_toArray, List.set_cons_zero, List.set_cons_succ]
        refine anyH_take (i := 34) (v := undef) (some 51) rfl rfl (by kernel_rfl) (by kernel_rfl) (by kernel_rfl) (fun _ _ _ h => h) (Or.inr ⟨by rfl, rfl⟩) (by assumption) ?_
        simp only [Act.put, List.setIfInBounds_toArray, List.set_cons_zero, List.set_cons_succ]
        refine anyH_take (i := 35) (v := undef) (some 52) rfl rfl (by kernel_rfl) (by kernel_rfl) (by kernel_rfl) (fun _ _ _ h => h) (Or.inr ⟨by rfl, rfl⟩) (by assumption) ?_
        simp only [Act.put, List.setIfInBounds_toArray, List.set_cons_zero, List.set_cons_succ]
        refine anyH_take (i := 36) (v := undef) (some 53) rfl rfl (by kernel_rfl) (by kernel_rfl) (by kernel_rfl) (fun _ _ _ h => h) (Or.inr ⟨by rfl, rfl⟩) (by assumption) ?_
        simp only [Act.put, List.setIfInBounds_toArray, List.set_cons_zero, List.set_cons_succ]
        refine anyH_take (i := 37) (v := undef) (some 54) rfl rfl (by kernel_rfl) (by kernel_rfl) (by kernel_rfl) (fun _ _ _ h => h) (Or.inr ⟨by rfl, rfl⟩) (by assumption) ?_
        simp only [Act.put, List.setIfInBounds_toArray, List.set_cons_zero, List.set_cons_succ]
        refine anyH_take (i := 38) (v := undef) (some 55) rfl rfl (by kernel_rfl) (by kernel_rfl) (by kernel_rfl) (fun _ _ _ h => h) (Or.inr ⟨by rfl, rfl⟩) (by assumption) ?_
        simp only [Act.put, List.setIfInBounds_toArray, List.set_cons_zero, List.set_cons_succ]
        refine anyH_take (i := 39) (v := undef) (some 56) rfl rfl (by kernel_rfl) (by kernel_rfl) (by kernel_rfl) (fun _ _ _ h => h) (Or.inr ⟨by rfl, rfl⟩) (by assumption) ?_
        simp only [Act.put, List.setIfInBounds_toArray, List.set_cons_zero, List.set_cons_succ]
        refine anyH_take (i := 40) (v := undef) (some 57) rfl rfl (by kernel_rfl) (by kernel_rfl) (by kernel_rfl) (fun _ _ _ h => h) (Or.inr ⟨by rfl, rfl⟩) (by assumption) ?_
        simp only [Act.put, List.setIfInBounds_toArray, List.set_cons_zero, List.set_cons_succ]
        refine anyH_take (i := 41) (v := undef) (some 58) rfl rfl (by kernel_rfl) (by kernel_rfl) (by kernel_rfl) (fun _ _ _ h => h) (Or.inr ⟨by rfl, rfl⟩) (by assumption) ?_
        simp only [Act.put, List.setIfInBounds_toArray, List.set_cons_zero, List.set_cons_succ]
        refine anyH_take (i := 42) (v := undef) (some 59) rfl rfl (by kernel_rfl) (by kernel_rfl) (by kernel_rfl) (fun _ _ _ h => h) (Or.inr ⟨by rfl, rfl⟩) (by assumption) ?_
        simp only [Act.put, List.setIfInBounds_toArray, List.set_cons_zero, List.set_cons_succ]
        refine anyH_take (i := 43) (v := .bool true) (some 60) rfl rfl (by kernel_rfl) (by kernel_rfl) (by kernel_rfl) (fun _ _ _ h => h) (Or.inl ⟨by rfl, fun w' hw => by (go_simp)⟩) (by assumption) ?_
        simp only [Act.put, List.setIfInBounds_toArray, List.set_cons_zero, List.set_cons_succ]
        refine wpAnyH_done (by kernel_rfl) ?_ _
        go_wp2_with fail
        go_ret
        exact ⟨by rw [← Hno.out]; rfl, Below.dN hb5 1⟩
      have Hc5 := Lib.hid (show decide (n < 0) = false ∧ True from ⟨decide_eq_false c5, trivial⟩)
      by_cases c6 : 65536 < n
      · have Hc6 := Lib.hid (show decide (65536 < n) = true ∧ decide (n > 65536) = true from ⟨decide_eq_true c6, decide_eq_true c6⟩)
        have Hno := Lib.hid (Hbad.out (fun h => by have := h.2.2.2.2.2; rw [Hxan.out.2.2] at this; omega))
        refine wp_region_held_drew (S := fun w' => w'.cell? ⟨g, 0, none⟩ = some (.int .i64 x) ∧ w'.cell? ⟨g, 1, none⟩ = some (.int .i64 a) ∧ w'.cell? ⟨g, 2, none⟩ = some (.int .i64 n) ∧ True) (by kernel_rfl) ⟨q0, q1, q2, trivial⟩ (fun hHeld => ?_)
        refine anyH_take (i := 0) (v := .pointer (some ⟨g, 0, none⟩)) (some 17) rfl rfl (by kernel_rfl) (by kernel_rfl) (by kernel_rfl) (fun _ _ _ h => h) (Or.inl ⟨by rfl, fun w' hw => by (go_simp)⟩) (by assumption) ?_
        simp only [Act.put, List.setIfInBounds_toArray, List.set_cons_zero, List.set_cons_succ]
        refine anyH_take (i := 1) (v := .int .i64 x) (some 18) rfl rfl (by kernel_rfl) (by kernel_rfl) (by kernel_rfl) (fun _ _ _ h => h) (Or.inl ⟨by rfl, fun w' hw => by (have hc := hw.1; go_simp)⟩) (by assumption) ?_
        simp only [Act.put, List.setIfInBounds_toArray, List.set_cons_zero, List.set_cons_succ]
        refine anyH_take (i := 2) (v := .bool false) (some 19) rfl rfl (by kernel_rfl) (by kernel_rfl) (by kernel_rfl) (fun _ _ _ h => h) (Or.inl ⟨by rfl, fun w' hw => by (have hq1 := (Hc1.out).1; have hq2 := (Hc1.out).2; go_simp)⟩) (by assumption) ?_
        simp only [Act.put, List.setIfInBounds_toArray, List.set_cons_zero, List.set_cons_succ]
        refine anyH_take (i := 3) (v := .bool false) (some 20) rfl rfl (by kernel_rfl) (by kernel_rfl) (by kernel_rfl) (fun _ _ _ h => h) (Or.inl ⟨by rfl, fun w' hw => by (go_simp)⟩) (by assumption) ?_
        simp only [Act.put, List.setIfInBounds_toArray, List.set_cons_zero, List.set_cons_succ]
        refine anyH_take (i := 4) (v := .pointer (some ⟨g, 0, none⟩)) (some 21) rfl rfl (by kernel_rfl) (by kernel_rfl) (by kernel_rfl) (fun _ _ _ h => h) (Or.inl ⟨by rfl, fun w' hw => by (go_simp)⟩) (by assumption) ?_
        simp only [Act.put, List.setIfInBounds_toArray, List.set_cons_zero, List.set_cons_succ]
        refine anyH_take (i := 5) (v := .int .i64 x) (some 22) rfl rfl (by kernel_rfl) (by kernel_rfl) (by kernel_rfl) (fun _ _ _ h => h) (Or.inl ⟨by rfl, fun w' hw => by (have hc := hw.1; go_simp)⟩) (by assumption) ?_
        simp only [Act.put, List.setIfInBounds_toArray, List.set_cons_zero, List.set_cons_succ]
        refine anyH_take (i := 6) (v := .bool false) (some 23) rfl rfl (by kernel_rfl) (by kernel_rfl) (by kernel_rfl) (fun _ _ _ h => h) (Or.inl ⟨by rfl, fun w' hw => by (have hq1 := (Hc2.out).1; have hq2 := (Hc2.out).2; go_simp)⟩) (by assumption) ?_
        simp only [Act.put, List.setIfInBounds_toArray, List.set_cons_zero, List.set_cons_succ]
        refine anyH_take (i := 7) (v := .bool false) (some 24) rfl rfl (by kernel_rfl) (by kernel_rfl) (by kernel_rfl) (fun _ _ _ h => h) (Or.inl ⟨by rfl, fun w' hw => by (go_simp)⟩) (by assumption) ?_
        simp only [Act.put, List.setIfInBounds_toArray, List.set_cons_zero, List.set_cons_succ]
        refine anyH_take (i := 8) (v := .bool false) (some 25) rfl rfl (by kernel_rfl) (by kernel_rfl) (by kernel_rfl) (fun _ _ _ h => h) (Or.inl ⟨by rfl, fun w' hw => by (go_simp)⟩) (by assumption) ?_
        simp only [Act.put, List.setIfInBounds_toArray, List.set_cons_zero, List.set_cons_succ]
        refine anyH_take (i := 9) (v := .pointer (some ⟨g, 1, none⟩)) (some 26) rfl rfl (by kernel_rfl) (by kernel_rfl) (by kernel_rfl) (fun _ _ _ h => h) (Or.inl ⟨by rfl, fun w' hw => by (go_simp)⟩) (by assumption) ?_
        simp only [Act.put, List.setIfInBounds_toArray, List.set_cons_zero, List.set_cons_succ]
        refine anyH_take (i := 10) (v := .int .i64 a) (some 27) rfl rfl (by kernel_rfl) (by kernel_rfl) (by kernel_rfl) (fun _ _ _ h => h) (Or.inl ⟨by rfl, fun w' hw => by (have hc := hw.2.1; go_simp)⟩) (by assumption) ?_
        simp only [Act.put, List.setIfInBounds_toArray, List.set_cons_zero, List.set_cons_succ]
        refine anyH_take (i := 11) (v := .bool false) (some 28) rfl rfl (by kernel_rfl) (by kernel_rfl) (by kernel_rfl) (fun _ _ _ h => h) (Or.inl ⟨by rfl, fun w' hw => by (have hq1 := (Hc3.out).1; have hq2 := (Hc3.out).2; go_simp)⟩) (by assumption) ?_
        simp only [Act.put, List.setIfInBounds_toArray, List.set_cons_zero, List.set_cons_succ]
        refine anyH_take (i := 12) (v := .bool false) (some 29) rfl rfl (by kernel_rfl) (by kernel_rfl) (by kernel_rfl) (fun _ _ _ h => h) (Or.inl ⟨by rfl, fun w' hw => by (go_simp)⟩) (by assumption) ?_
        simp only [Act.put, List.setIfInBounds_toArray, List.set_cons_zero, List.set_cons_succ]
        refine anyH_take (i := 13) (v := .bool false) (some 30) rfl rfl (by kernel_rfl) (by kernel_rfl) (by kernel_rfl) (fun _ _ _ h => h) (Or.inl ⟨by rfl, fun w' hw => by (go_simp)⟩) (by assumption) ?_
        simp only [Act.put, List.setIfInBounds_toArray, List.set_cons_zero, List.set_cons_succ]
        refine anyH_take (i := 14) (v := .pointer (some ⟨g, 1, none⟩)) (some 31) rfl rfl (by kernel_rfl) (by kernel_rfl) (by kernel_rfl) (fun _ _ _ h => h) (Or.inl ⟨by rfl, fun w' hw => by (go_simp)⟩) (by assumption) ?_
        simp only [Act.put, List.setIfInBounds_toArray, List.set_cons_zero, List.set_cons_succ]
        refine anyH_take (i := 15) (v := .int .i64 a) (some 32) rfl rfl (by kernel_rfl) (by kernel_rfl) (by kernel_rfl) (fun _ _ _ h => h) (Or.inl ⟨by rfl, fun w' hw => by (have hc := hw.2.1; go_simp)⟩) (by assumption) ?_
        simp only [Act.put, List.setIfInBounds_toArray, List.set_cons_zero, List.set_cons_succ]
        refine anyH_take (i := 16) (v := .bool false) (some 33) rfl rfl (by kernel_rfl) (by kernel_rfl) (by kernel_rfl) (fun _ _ _ h => h) (Or.inl ⟨by rfl, fun w' hw => by (have hq1 := (Hc4.out).1; have hq2 := (Hc4.out).2; go_simp)⟩) (by assumption) ?_
        simp only [Act.put, List.setIfInBounds_toArray, List.set_cons_zero, List.set_cons_succ]
        refine anyH_take (i := 17) (v := .bool false) (some 34) rfl rfl (by kernel_rfl) (by kernel_rfl) (by kernel_rfl) (fun _ _ _ h => h) (Or.inl ⟨by rfl, fun w' hw => by (go_simp)⟩) (by assumption) ?_
        simp only [Act.put, List.setIfInBounds_toArray, List.set_cons_zero, List.set_cons_succ]
        refine anyH_take (i := 18) (v := .bool false) (some 35) rfl rfl (by kernel_rfl) (by kernel_rfl) (by kernel_rfl) (fun _ _ _ h => h) (Or.inl ⟨by rfl, fun w' hw => by (go_simp)⟩) (by assumption) ?_
        simp only [Act.put, List.setIfInBounds_toArray, List.set_cons_zero, List.set_cons_succ]
        refine anyH_take (i := 19) (v := .pointer (some ⟨g, 2, none⟩)) (some 36) rfl rfl (by kernel_rfl) (by kernel_rfl) (by kernel_rfl) (fun _ _ _ h => h) (Or.inl ⟨by rfl, fun w' hw => by (go_simp)⟩) (by assumption) ?_
        simp only [Act.put, List.setIfInBounds_toArray, List.set_cons_zero, List.set_cons_succ]
        refine anyH_take (i := 20) (v := .int .i64 n) (some 37) rfl rfl (by kernel_rfl) (by kernel_rfl) (by kernel_rfl) (fun _ _ _ h => h) (Or.inl ⟨by rfl, fun w' hw => by (have hc := hw.2.2.1; go_simp)⟩) (by assumption) ?_
        simp only [Act.put, List.setIfInBounds_toArray, List.set_cons_zero, List.set_cons_succ]
        refine anyH_take (i := 21) (v := .bool false) (some 38) rfl rfl (by kernel_rfl) (by kernel_rfl) (by kernel_rfl) (fun _ _ _ h => h) (Or.inl ⟨by rfl, fun w' hw => by (have hq1 := (Hc5.out).1; have hq2 := (Hc5.out).2; go_simp)⟩) (by assumption) ?_
        simp only [Act.put, List.setIfInBounds_toArray, List.set_cons_zero, List.set_cons_succ]
        refine anyH_take (i := 22) (v := .bool false) (some 39) rfl rfl (by kernel_rfl) (by kernel_rfl) (by kernel_rfl) (fun _ _ _ h => h) (Or.inl ⟨by rfl, fun w' hw => by (go_simp)⟩) (by assumption) ?_
        simp only [Act.put, List.setIfInBounds_toArray, List.set_cons_zero, List.set_cons_succ]
        refine anyH_take (i := 23) (v := .bool false) (some 40) rfl rfl (by kernel_rfl) (by kernel_rfl) (by kernel_rfl) (fun _ _ _ h => h) (Or.inl ⟨by rfl, fun w' hw => by (go_simp)⟩) (by assumption) ?_
        simp only [Act.put, List.setIfInBounds_toArray, List.set_cons_zero, List.set_cons_succ]
        refine anyH_take (i := 24) (v := .pointer (some ⟨g, 2, none⟩)) (some 41) rfl rfl (by kernel_rfl) (by kernel_rfl) (by kernel_rfl) (fun _ _ _ h => h) (Or.inl ⟨by rfl, fun w' hw => by (go_simp)⟩) (by assumption) ?_
        simp only [Act.put, List.setIfInBounds_toArray, List.set_cons_zero, List.set_cons_succ]
        refine anyH_take (i := 25) (v := .int .i64 n) (some 42) rfl rfl (by kernel_rfl) (by kernel_rfl) (by kernel_rfl) (fun _ _ _ h => h) (Or.inl ⟨by rfl, fun w' hw => by (have hc := hw.2.2.1; go_simp)⟩) (by assumption) ?_
        simp only [Act.put, List.setIfInBounds_toArray, List.set_cons_zero, List.set_cons_succ]
        refine anyH_take (i := 26) (v := .bool true) (some 43) rfl rfl (by kernel_rfl) (by kernel_rfl) (by kernel_rfl) (fun _ _ _ h => h) (Or.inl ⟨by rfl, fun w' hw => by (have hq1 := (Hc6.out).1; have hq2 := (Hc6.out).2; go_simp)⟩) (by assumption) ?_
        simp only [Act.put, List.setIfInBounds_toArray, List.set_cons_zero, List.set_cons_succ]
        refine anyH_take (i := 27) (v := .bool true) (some 44) rfl rfl (by kernel_rfl) (by kernel_rfl) (by kernel_rfl) (fun _ _ _ h => h) (Or.inl ⟨by rfl, fun w' hw => by (go_simp)⟩) (by assumption) ?_
        simp only [Act.put, List.setIfInBounds_toArray, List.set_cons_zero, List.set_cons_succ]
        refine anyH_take (i := 28) (v := .bool true) (some 45) rfl rfl (by kernel_rfl) (by kernel_rfl) (by kernel_rfl) (fun _ _ _ h => h) (Or.inl ⟨by rfl, fun w' hw => by (go_simp)⟩) (by assumption) ?_
        simp only [Act.put, List.setIfInBounds_toArray, List.set_cons_zero, List.set_cons_succ]
        refine anyH_take (i := 29) (v := undef) (some 46) rfl rfl (by kernel_rfl) (by kernel_rfl) (by kernel_rfl) (fun _ _ _ h => h) (Or.inr ⟨by rfl, rfl⟩) (by assumption) ?_
        simp only [Act.put, List.setIfInBounds_toArray, List.set_cons_zero, List.set_cons_succ]
        refine anyH_take (i := 30) (v := undef) (some 47) rfl rfl (by kernel_rfl) (by kernel_rfl) (by kernel_rfl) (fun _ _ _ h => h) (Or.inr ⟨by rfl, rfl⟩) (by assumption) ?_
        simp only [Act.put, List.setIfInBounds_toArray, List.set_cons_zero, List.set_cons_succ]
        refine anyH_take (i := 31) (v := undef) (some 48) rfl rfl (by kernel_rfl) (by kernel_rfl) (by kernel_rfl) (fun _ _ _ h => h) (Or.inr ⟨by rfl, rfl⟩) (by assumption) ?_
        simp only [Act.put, List.setIfInBounds_toArray, List.set_cons_zero, List.set_cons_succ]
        refine anyH_take (i := 32) (v := undef) (some 49) rfl rfl (by kernel_rfl) (by kernel_rfl) (by kernel_rfl) (fun _ _ _ h => h) (Or.inr ⟨by rfl, rfl⟩) (by assumption) ?_
        simp only [Act.put, List.setIfInBounds_toArray, List.set_cons_zero, List.set_cons_succ]
        refine anyH_take (i := 33) (v := undef) (some 50) rfl rfl (by kernel_rfl) (by kernel_rfl) (by kernel_rfl) (fun _ _ _ h => h) (Or.inr ⟨by rfl, rfl⟩) (by assumption) ?_
        simp only [Act.put, List.setIfInBounds_toArray, List.set_cons_zero, List.set_cons_succ]
        refine anyH_take (i := 34) (v := undef) (some 51) rfl rfl (by kernel_rfl) (by kernel_rfl) (by kernel_rfl) (fun _ _ _ h => h) (Or.inr ⟨by rfl, rfl⟩) (by assumption) ?_
        simp only [Act.put, List.setIfInBounds_toArray, List.set_cons_zero, List.set_cons_succ]
        refine anyH_take (i := 35) (v := undef) (some 52) rfl rfl (by kernel_rfl) (by kernel_rfl) (by kernel_rfl) (fun _ _ _ h => h) (Or.inr ⟨by rfl, rfl⟩) (by assumption) ?_
        simp only [Act.put, List.setIfInBounds_toArray, List.set_cons_zero, List.set_cons_succ]
        refine anyH_take (i := 36) (v := undef) (some 53) rfl rfl (by kernel_rfl) (by kernel_rfl) (by kernel_rfl) (fun _ _ _ h => h) (Or.inr ⟨by rfl, rfl⟩) (by assumption) ?_
        simp only [Act.put, List.setIfInBounds_toArray, List.set_cons_zero, List.set_cons_succ]
        refine anyH_take (i := 37) (v := undef) (some 54) rfl rfl (by kernel_rfl) (by kernel_rfl) (by kernel_rfl) (fun _ _ _ h => h) (Or.inr ⟨by rfl, rfl⟩) (by assumption) ?_
        simp only [Act.put, List.setIfInBounds_toArray, List.set_cons_zero, List.set_cons_succ]
        refine anyH_take (i := 38) (v := undef) (some 55) rfl rfl (by kernel_rfl) (by kernel_rfl) (by kernel_rfl) (fun _ _ _ h => h) (Or.inr ⟨by rfl, rfl⟩) (by assumption) ?_
        simp only [Act.put, List.setIfInBounds_toArray, List.set_cons_zero, List.set_cons_succ]
        refine anyH_take (i := 39) (v := undef) (some 56) rfl rfl (by kernel_rfl) (by kernel_rfl) (by kernel_rfl) (fun _ _ _ h => h) (Or.inr ⟨by rfl, rfl⟩) (by assumption) ?_
        simp only [Act.put, List.setIfInBounds_toArray, List.set_cons_zero, List.set_cons_succ]
        refine anyH_take (i := 40) (v := undef) (some 57) rfl rfl (by kernel_rfl) (by kernel_rfl) (by kernel_rfl) (fun _ _ _ h => h) (Or.inr ⟨by rfl, rfl⟩) (by assumption) ?_
        simp only [Act.put, List.setIfInBounds_toArray, List.set_cons_zero, List.set_cons_succ]
        refine anyH_take (i := 41) (v := undef) (some 58) rfl rfl (by kernel_rfl) (by kernel_rfl) (by kernel_rfl) (fun _ _ _ h => h) (Or.inr ⟨by rfl, rfl⟩) (by assumption) ?_
        simp only [Act.put, List.setIfInBounds_toArray, List.set_cons_zero, List.set_cons_succ]
        refine anyH_take (i := 42) (v := undef) (some 59) rfl rfl (by kernel_rfl) (by kernel_rfl) (by kernel_rfl) (fun _ _ _ h => h) (Or.inr ⟨by rfl, rfl⟩) (by assumption) ?_
        simp only [Act.put, List.setIfInBounds_toArray, List.set_cons_zero, List.set_cons_succ]
        refine anyH_take (i := 43) (v := .bool true) (some 60) rfl rfl (by kernel_rfl) (by kernel_rfl) (by kernel_rfl) (fun _ _ _ h => h) (Or.inl ⟨by rfl, fun w' hw => by (go_simp)⟩) (by assumption) ?_
        simp only [Act.put, List.setIfInBounds_toArray, List.set_cons_zero, List.set_cons_succ]
        refine wpAnyH_done (by kernel_rfl) ?_ _
        go_wp2_with fail
        go_ret
        exact ⟨by rw [← Hno.out]; rfl, Below.dN hb5 1⟩
      have Hc6 := Lib.hid (show decide (65536 < n) = false ∧ decide (n > 65536) = false from ⟨decide_eq_false c6, decide_eq_false c6⟩)
      have Hok2 := Lib.hid (show ∀ j, j < k + 1 → OkB (c.bins.getD j zB) from fun j hj => by
        by_cases e : j < k
        · exact Hok.out j e
        · obtain rfl : j = k := by omega
          rw [Hb.out]
          exact ⟨by rw [Hxan.out.1]; omega, by rw [Hxan.out.1]; omega, by rw [Hxan.out.2.1]; omega, by rw [Hxan.out.2.1]; omega, by rw [Hxan.out.2.2]; omega, by rw [Hxan.out.2.2]; omega⟩)
      clear c1 c2 c3 c4 c5 c6 Hbad Hok
      cases k with
      | zero =>
        have Hk1 := Lib.hid (show decide ((0 : Int) < ((0 : Nat) : Int)) = false by simp)
        have Hk2 := Lib.hid (show decide (((0 : Nat) : Int) > 0) = false by simp)
        refine wp_region_held_drew (S := fun w' => w'.cell? ⟨g, 0, none⟩ = some (.int .i64 x) ∧ w'.cell? ⟨g, 1, none⟩ = some (.int .i64 a) ∧ w'.cell? ⟨g, 2, none⟩ = some (.int .i64 n) ∧ True) (by kernel_rfl) ⟨q0, q1, q2, trivial⟩ (fun hHeld => ?_)
        refine anyH_take (i := 0) (v := .pointer (some ⟨g, 0, none⟩)) (some 17) rfl rfl (by kernel_rfl) (by kernel_rfl) (by kernel_rfl) (fun _ _ _ h => h) (Or.inl ⟨by rfl, fun w' hw => by (go_simp)⟩) (by assumption) ?_
        simp only [Act.put, List.setIfInBounds_toArray, List.set_cons_zero, List.set_cons_succ]
        refine anyH_take (i := 1) (v := .int .i64 x) (some 18) rfl rfl (by kernel_rfl) (by kernel_rfl) (by kernel_rfl) (fun _ _ _ h => h) (Or.inl ⟨by rfl, fun w' hw => by (have hc := hw.1; go_simp)⟩) (by assumption) ?_
        simp only [Act.put, List.setIfInBounds_toArray, List.set_cons_zero, List.set_cons_succ]
        refine anyH_take (i := 2) (v := .bool false) (some 19) rfl rfl (by kernel_rfl) (by kernel_rfl) (by kernel_rfl) (fun _ _ _ h => h) (Or.inl ⟨by rfl, fun w' hw => by (have hq1 := (Hc1.out).1; have hq2 := (Hc1.out).2; go_simp)⟩) (by assumption) ?_
        simp only [Act.put, List.setIfInBounds_toArray, List.set_cons_zero, List.set_cons_succ]
        refine anyH_take (i := 3) (v := .bool false) (some 20) rfl rfl (by kernel_rfl) (by kernel_rfl) (by kernel_rfl) (fun _ _ _ h => h) (Or.inl ⟨by rfl, fun w' hw => by (go_simp)⟩) (by assumption) ?_
        simp only [Act.put, List.setIfInBounds_toArray, List.set_cons_zero, List.set_cons_succ]
        refine anyH_take (i := 4) (v := .pointer (some ⟨g, 0, none⟩)) (some 21) rfl rfl (by kernel_rfl) (by kernel_rfl) (by kernel_rfl) (fun _ _ _ h => h) (Or.inl ⟨by rfl, fun w' hw => by (go_simp)⟩) (by assumption) ?_
        simp only [Act.put, List.setIfInBounds_toArray, List.set_cons_zero, List.set_cons_succ]
        refine anyH_take (i := 5) (v := .int .i64 x) (some 22) rfl rfl (by kernel_rfl) (by kernel_rfl) (by kernel_rfl) (fun _ _ _ h => h) (Or.inl ⟨by rfl, fun w' hw => by (have hc := hw.1; go_simp)⟩) (by assumption) ?_
        simp only [Act.put, List.setIfInBounds_toArray, List.set_cons_zero, List.set_cons_succ]
        refine anyH_take (i := 6) (v := .bool false) (some 23) rfl rfl (by kernel_rfl) (by kernel_rfl) (by kernel_rfl) (fun _ _ _ h => h) (Or.inl ⟨by rfl, fun w' hw => by (have hq1 := (Hc2.out).1; have hq2 := (Hc2.out).2; go_simp)⟩) (by assumption) ?_
        simp only [Act.put, List.setIfInBounds_toArray, List.set_cons_zero, List.set_cons_succ]
        refine anyH_take (i := 7) (v := .bool false) (some 24) rfl rfl (by kernel_rfl) (by kernel_rfl) (by kernel_rfl) (fun _ _ _ h => h) (Or.inl ⟨by rfl, fun w' hw => by (go_simp)⟩) (by assumption) ?_
        simp only [Act.put, List.setIfInBounds_toArray, List.set_cons_zero, List.set_cons_succ]
        refine anyH_take (i := 8) (v := .bool false) (some 25) rfl rfl (by kernel_rfl) (by kernel_rfl) (by kernel_rfl) (fun _ _ _ h => h) (Or.inl ⟨by rfl, fun w' hw => by (go_simp)⟩) (by assumption) ?_
        simp only [Act.put, List.setIfInBounds_toArray, List.set_cons_zero, List.set_cons_succ]
        refine anyH_take (i := 9) (v := .pointer (some ⟨g, 1, none⟩)) (some 26) rfl rfl (by kernel_rfl) (by kernel_rfl) (by kernel_rfl) (fun _ _ _ h => h) (Or.inl ⟨by rfl, fun w' hw => by (go_simp)⟩) (by assumption) ?_
        simp only [Act.put, List.setIfInBounds_toArray, List.set_cons_zero, List.set_cons_succ]
        refine anyH_take (i := 10) (v := .int .i64 a) (some 27) rfl rfl (by kernel_rfl) (by kernel_rfl) (by kernel_rfl) (fun _ _ _ h => h) (Or.inl ⟨by rfl, fun w' hw => by (have hc := hw.2.1; go_simp)⟩) (by assumption) ?_
        simp only [Act.put, List.setIfInBounds_toArray, List.set_cons_zero, List.set_cons_succ]
        refine anyH_take (i := 11) (v := .bool false) (some 28) rfl rfl (by kernel_rfl) (by kernel_rfl) (by kernel_rfl) (fun _ _ _ h => h) (Or.inl ⟨by rfl, fun w' hw => by (have hq1 := (Hc3.out).1; have hq2 := (Hc3.out).2; go_simp)⟩) (by assumption) ?_
        simp only [Act.put, List.setIfInBounds_toArray, List.set_cons_zero, List.set_cons_succ]
        refine anyH_take (i := 12) (v := .bool false) (some 29) rfl rfl (by kernel_rfl) (by kernel_rfl) (by kernel_rfl) (fun _ _ _ h => h) (Or.inl ⟨by rfl, fun w' hw => by (go_simp)⟩) (by assumption) ?_
        simp only [Act.put, List.setIfInBounds_toArray, List.set_cons_zero, List.set_cons_succ]
        refine anyH_take (i := 13) (v := .bool false) (some 30) rfl rfl (by kernel_rfl) (by kernel_rfl) (by kernel_rfl) (fun _ _ _ h => h) (Or.inl ⟨by rfl, fun w' hw => by (go_simp)⟩) (by assumption) ?_
        simp only [Act.put, List.setIfInBounds_toArray, List.set_cons_zero, List.set_cons_succ]
        refine anyH_take (i := 14) (v := .pointer (some ⟨g, 1, none⟩)) (some 31) rfl rfl (by kernel_rfl) (by kernel_rfl) (by kernel_rfl) (fun _ _ _ h => h) (Or.inl ⟨by rfl, fun w' hw => by (go_simp)⟩) (by assumption) ?_
        simp only [Act.put, List.setIfInBounds_toArray, List.set_cons_zero, List.set_cons_succ]
        refine anyH_take (i := 15) (v := .int .i64 a) (some 32) rfl rfl (by kernel_rfl) (by kernel_rfl) (by kernel_rfl) (fun _ _ _ h => h) (Or.inl ⟨by rfl, fun w' hw => by (have hc := hw.2.1; go_simp)⟩) (by assumption) ?_
        simp only [Act.put, List.setIfInBounds_toArray, List.set_cons_zero, List.set_cons_succ]
        refine anyH_take (i := 16) (v := .bool false) (some 33) rfl rfl (by kernel_rfl) (by kernel_rfl) (by kernel_rfl) (fun _ _ _ h => h) (Or.inl ⟨by rfl, fun w' hw => by (have hq1 := (Hc4.out).1; have hq2 := (Hc4.out).2; go_simp)⟩) (by assumption) ?_
        simp only [Act.put, List.setIfInBounds_toArray, List.set_cons_zero, List.set_cons_succ]
        refine anyH_take (i := 17) (v := .bool false) (some 34) rfl rfl (by kernel_rfl) (by kernel_rfl) (by kernel_rfl) (fun _ _ _ h => h) (Or.inl ⟨by rfl, fun w' hw => by (go_simp)⟩) (by assumption) ?_
        simp only [Act.put, List.setIfInBounds_toArray, List.set_cons_zero, List.set_cons_succ]
        refine anyH_take (i := 18) (v := .bool false) (some 35) rfl rfl (by kernel_rfl) (by kernel_rfl) (by kernel_rfl) (fun _ _ _ h => h) (Or.inl ⟨by rfl, fun w' hw => by (go_simp)⟩) (by assumption) ?_
        simp only [Act.put, List.setIfInBounds_toArray, List.set_cons_zero, List.set_cons_succ]
        refine anyH_take (i := 19) (v := .pointer (some ⟨g, 2, none⟩)) (some 36) rfl rfl (by kernel_rfl) (by kernel_rfl) (by kernel_rfl) (fun _ _ _ h => h) (Or.inl ⟨by rfl, fun w' hw => by (go_simp)⟩) (by assumption) ?_
        simp only [Act.put, List.setIfInBounds_toArray, List.set_cons_zero, List.set_cons_succ]
        refine anyH_take (i := 20) (v := .int .i64 n) (some 37) rfl rfl (by kernel_rfl) (by kernel_rfl) (by kernel_rfl) (fun _ _ _ h => h) (Or.inl ⟨by rfl, fun w' hw => by (have hc := hw.2.2.1; go_simp)⟩) (by assumption) ?_
        simp only [Act.put, List.setIfInBounds_toArray, List.set_cons_zero, List.set_cons_succ]
        refine anyH_take (i := 21) (v := .bool false) (some 38) rfl rfl (by kernel_rfl) (by kernel_rfl) (by kernel_rfl) (fun _ _ _ h => h) (Or.inl ⟨by rfl, fun w' hw => by (have hq1 := (Hc5.out).1; have hq2 := (Hc5.out).2; go_simp)⟩) (by assumption) ?_
        simp only [Act.put, List.setIfInBounds_toArray, List.set_cons_zero, List.set_cons_succ]
        refine anyH_take (i := 22) (v := .bool false) (some 39) rfl rfl (by kernel_rfl) (by kernel_rfl) (by kernel_rfl) (fun _ _ _ h => h) (Or.inl ⟨by rfl, fun w' hw => by (go_simp)⟩) (by assumption) ?_
        simp only [Act.put, List.setIfInBounds_toArray, List.set_cons_zero, List.set_cons_succ]
        refine anyH_take (i := 23) (v := .bool false) (some 40) rfl rfl (by kernel_rfl) (by kernel_rfl) (by kernel_rfl) (fun _ _ _ h => h) (Or.inl ⟨by rfl, fun w' hw => by (go_simp)⟩) (by assumption) ?_
        simp only [Act.put, List.setIfInBounds_toArray, List.set_cons_zero, List.set_cons_succ]
        refine anyH_take (i := 24) (v := .pointer (some ⟨g, 2, none⟩)) (some 41) rfl rfl (by kernel_rfl) (by kernel_rfl) (by kernel_rfl) (fun _ _ _ h => h) (Or.inl ⟨by rfl, fun w' hw => by (go_simp)⟩) (by assumption) ?_
        simp only [Act.put, List.setIfInBounds_toArray, List.set_cons_zero, List.set_cons_succ]
        refine anyH_take (i := 25) (v := .int .i64 n) (some 42) rfl rfl (by kernel_rfl) (by kernel_rfl) (by kernel_rfl) (fun _ _ _ h => h) (Or.inl ⟨by rfl, fun w' hw => by (have hc := hw.2.2.1; go_simp)⟩) (by assumption) ?_
        simp only [Act.put, List.setIfInBounds_toArray, List.set_cons_zero, List.set_cons_succ]
        refine anyH_take (i := 26) (v := .bool false) (some 43) rfl rfl (by kernel_rfl) (by kernel_rfl) (by kernel_rfl) (fun _ _ _ h => h) (Or.inl ⟨by rfl, fun w' hw => by (have hq1 := (Hc6.out).1; have hq2 := (Hc6.out).2; go_simp)⟩) (by assumption) ?_
        simp only [Act.put, List.setIfInBounds_toArray, List.set_cons_zero, List.set_cons_succ]
        refine anyH_take (i := 27) (v := .bool false) (some 44) rfl rfl (by kernel_rfl) (by kernel_rfl) (by kernel_rfl) (fun _ _ _ h => h) (Or.inl ⟨by rfl, fun w' hw => by (go_simp)⟩) (by assumption) ?_
        simp only [Act.put, List.setIfInBounds_toArray, List.set_cons_zero, List.set_cons_succ]
        refine anyH_take (i := 28) (v := .bool false) (some 45) rfl rfl (by kernel_rfl) (by kernel_rfl) (by kernel_rfl) (fun _ _ _ h => h) (Or.inl ⟨by rfl, fun w' hw => by (go_simp)⟩) (by assumption) ?_
        simp only [Act.put, List.setIfInBounds_toArray, List.set_cons_zero, List.set_cons_succ]
        refine anyH_take (i := 29) (v := .int .i64 (0 : Nat)) (some 46) rfl rfl (by kernel_rfl) (by kernel_rfl) (by kernel_rfl) (fun _ _ _ h => h) (Or.inl ⟨by rfl, fun w' hw => by (go_simp)⟩) (by assumption) ?_
        simp only [Act.put, List.setIfInBounds_toArray, List.set_cons_zero, List.set_cons_succ]
        refine anyH_take (i := 30) (v := .bool false) (some 47) rfl rfl (by kernel_rfl) (by kernel_rfl) (by kernel_rfl) (fun _ _ _ h => h) (Or.inl ⟨by rfl, fun w' hw => by (have hq1 := Hk1.out; have hq2 := Hk2.out; go_simp)⟩) (by assumption) ?_
        simp only [Act.put, List.setIfInBounds_toArray, List.set_cons_zero, List.set_cons_succ]
        refine anyH_take (i := 31) (v := .bool false) (some 48) rfl rfl (by kernel_rfl) (by kernel_rfl) (by kernel_rfl) (fun _ _ _ h => h) (Or.inl ⟨by rfl, fun w' hw => by (go_simp)⟩) (by assumption) ?_
        simp only [Act.put, List.setIfInBounds_toArray, List.set_cons_zero, List.set_cons_succ]
        refine anyH_take (i := 32) (v := undef) (some 49) rfl rfl (by kernel_rfl) (by kernel_rfl) (by kernel_rfl) (fun _ _ _ h => h) (Or.inr ⟨by rfl, rfl⟩) (by assumption) ?_
        simp only [Act.put, List.setIfInBounds_toArray, List.set_cons_zero, List.set_cons_succ]
        refine anyH_take (i := 33) (v := undef) (some 50) rfl rfl (by kernel_rfl) (by kernel_rfl) (by kernel_rfl) (fun _ _ _ h => h) (Or.inr ⟨by rfl, rfl⟩) (by assumption) ?_
        simp only [Act.put, List.setIfInBounds_toArray, List.set_cons_zero, List.set_cons_succ]
        refine anyH_take (i := 34) (v := undef) (some 51) rfl rfl (by kernel_rfl) (by kernel_rfl) (by kernel_rfl) (fun _ _ _ h => h) (Or.inr ⟨by rfl, rfl⟩) (by assumption) ?_
        simp only [Act.put, List.setIfInBounds_toArray, List.set_cons_zero, List.set_cons_succ]
        refine anyH_take (i := 35) (v := undef) (some 52) rfl rfl (by kernel_rfl) (by kernel_rfl) (by kernel_rfl) (fun _ _ _ h => h) (Or.inr ⟨by rfl, rfl⟩) (by assumption) ?_
        simp only [Act.put, List.setIfInBounds_toArray, List.set_cons_zero, List.set_cons_succ]
        refine anyH_take (i := 36) (v := undef) (some 53) rfl rfl (by kernel_rfl) (by kernel_rfl) (by kernel_rfl) (fun _ _ _ h => h) (Or.inr ⟨by rfl, rfl⟩) (by assumption) ?_
        simp only [Act.put, List.setIfInBounds_toArray, List.set_cons_zero, List.set_cons_succ]
        refine anyH_take (i := 37) (v := undef) (some 54) rfl rfl (by kernel_rfl) (by kernel_rfl) (by kernel_rfl) (fun _ _ _ h => h) (Or.inr ⟨by rfl, rfl⟩) (by assumption) ?_
        simp only [Act.put, List.setIfInBounds_toArray, List.set_cons_zero, List.set_cons_succ]
        refine anyH_take (i := 38) (v := undef) (some 55) rfl rfl (by kernel_rfl) (by kernel_rfl) (by kernel_rfl) (fun _ _ _ h => h) (Or.inr ⟨by rfl, rfl⟩) (by assumption) ?_
        simp only [Act.put, List.setIfInBounds_toArray, List.set_cons_zero, List.set_cons_succ]
        refine anyH_take (i := 39) (v := undef) (some 56) rfl rfl (by kernel_rfl) (by kernel_rfl) (by kernel_rfl) (fun _ _ _ h => h) (Or.inr ⟨by rfl, rfl⟩) (by assumption) ?_
        simp only [Act.put, List.setIfInBounds_toArray, List.set_cons_zero, List.set_cons_succ]
        refine anyH_take (i := 40) (v := undef) (some 57) rfl rfl (by kernel_rfl) (by kernel_rfl) (by kernel_rfl) (fun _ _ _ h => h) (Or.inr ⟨by rfl, rfl⟩) (by assumption) ?_
        simp only [Act.put, List.setIfInBounds_toArray, List.set_cons_zero, List.set_cons_succ]
        refine anyH_take (i := 41) (v := undef) (some 58) rfl rfl (by kernel_rfl) (by kernel_rfl) (by kernel_rfl) (fun _ _ _ h => h) (Or.inr ⟨by rfl, rfl⟩) (by assumption) ?_
        simp only [Act.put, List.setIfInBounds_toArray, List.set_cons_zero, List.set_cons_succ]
        refine anyH_take (i := 42) (v := .bool false) (some 59) rfl rfl (by kernel_rfl) (by kernel_rfl) (by kernel_rfl) (fun _ _ _ h => h) (Or.inl ⟨by rfl, fun w' hw => by (go_simp)⟩) (by assumption) ?_
        simp only [Act.put, List.setIfInBounds_toArray, List.set_cons_zero, List.set_cons_succ]
        refine anyH_take (i := 43) (v := .bool false) (some 60) rfl rfl (by kernel_rfl) (by kernel_rfl) (by kernel_rfl) (fun _ _ _ h => h) (Or.inl ⟨by rfl, fun w' hw => by (go_simp)⟩) (by assumption) ?_
        simp only [Act.put, List.setIfInBounds_toArray, List.set_cons_zero, List.set_cons_succ]
        refine wpAnyH_done (by kernel_rfl) ?_ _
        have Hri2 := Lib.hid (show ∀ j, j + 1 < 0 + 1 → (c.bins.getD j zB).x < (c.bins.getD (j + 1) zB).x from fun j hj => by omega)
        go_wp2_with fail
        go_roundw
        case rel => exact ⟨0 + 1, by omega, by go_num, Below.dN hb5 1, hA5.drewN 1, Hok2, Hri2⟩
        case measure => simp [Go.RowKit.intOf]; omega
      | succ k2 =>
        obtain ⟨k, hkk⟩ : ∃ k, k = k2 + 1 := ⟨_, rfl⟩
        rw [← hkk] at Hok2 Hb hlt Hri hbe hd1 ⊢
        have Hkk := Lib.hid hkk
        have hk0 : 1 ≤ k := by omega
        obtain ⟨xp, hxp⟩ : ∃ z, (c.bins.getD k2 zB).x = z := ⟨_, rfl⟩
        have q5 : w5.cell? ⟨bb, off + k2 * 35, none⟩ = some (.int .i64 xp) := by
          rw [← hxp]
          exact (World.cell?_of_block (hb5.block bb Hblk.out)).trans (Hrow.out k2 (by omega))
        have Hxp := Lib.hid hxp
        have Hk1 := Lib.hid (show decide ((0 : Int) < (k : Int)) = true by rw [decide_eq_true_eq]; omega)
        have Hk2 := Lib.hid (show decide ((k : Int) > 0) = true by rw [decide_eq_true_eq]; omega)
        have Hk3 := Lib.hid (show 0 < k by omega)
        have Hwr := Lib.hid (show IntKind.i64.wrap ((k : Int) - 1) = (k2 : Int) ∧ IntKind.i64.wrap (k2 : Int) = (k2 : Int) by rw [show (k : Int) - 1 = (k2 : Int) by omega]; exact ⟨IntWalk.i64_in _ (by omega), IntWalk.i64_in _ (by omega)⟩)
        have Hix := Lib.hid (show (0 : Int) ≤ (k2 : Int) ∧ (k2 : Int) < (n0 : Int) from ⟨by omega, by omega⟩)
        obtain ⟨b0, hb0⟩ : ∃ z, decide (x ≤ xp) = z := ⟨_, rfl⟩
        have Hb0 := Lib.hid (show decide (x ≤ xp) = b0 ∧ decide (xp ≥ x) = b0 from ⟨hb0, hb0⟩)
        clear hxp hb0 hkk
        refine wp_region_held_drew (S := fun w' => w'.cell? ⟨g, 0, none⟩ = some (.int .i64 x) ∧ w'.cell? ⟨g, 1, none⟩ = some (.int .i64 a) ∧ w'.cell? ⟨g, 2, none⟩ = some (.int .i64 n) ∧ w'.cell? ⟨w.heap.size, 103, none⟩ = some (.slice (some ⟨bb, off, none⟩) n0 cb) ∧ w'.cell? ⟨bb, off + k2 * 35, none⟩ = some (.int .i64 xp)) (by kernel_rfl) ⟨q0, q1, q2, q4, q5⟩ (fun hHeld => ?_)
        refine anyH_take (i := 0) (v := .pointer (some ⟨g, 0, none⟩)) (some 17) rfl rfl (by kernel_rfl) (by kernel_rfl) (by kernel_rfl) (fun _ _ _ h => h) (Or.inl ⟨by rfl, fun w' hw => by (go_simp)⟩) (by assumption) ?_
        simp only [Act.put, List.setIfInBounds_toArray, List.set_cons_zero, List.set_cons_succ]
        refine anyH_take (i := 1) (v := .int .i64 x) (some 18) rfl rfl (by kernel_rfl) (by kernel_rfl) (by kernel_rfl) (fun _ _ _ h => h) (Or.inl ⟨by rfl, fun w' hw => by (have hc := hw.1; go_simp)⟩) (by assumption) ?_
        simp only [Act.put, List.setIfInBounds_toArray, List.set_cons_zero, List.set_cons_succ]
        refine anyH_take (i := 2) (v := .bool false) (some 19) rfl rfl (by kernel_rfl) (by kernel_rfl) (by kernel_rfl) (fun _ _ _ h => h) (Or.inl ⟨by rfl, fun w' hw => by (have hq1 := (Hc1.out).1; have hq2 := (Hc1.out).2; go_simp)⟩) (by assumption) ?_
        simp only [Act.put, List.setIfInBounds_toArray, List.set_cons_zero, List.set_cons_succ]
        refine anyH_take (i := 3) (v := .bool false) (some 20) rfl rfl (by kernel_rfl) (by kernel_rfl) (by kernel_rfl) (fun _ _ _ h => h) (Or.inl ⟨by rfl, fun w' hw => by (go_simp)⟩) (by assumption) ?_
        simp only [Act.put, List.setIfInBounds_toArray, List.set_cons_zero, List.set_cons_succ]
        refine anyH_take (i := 4) (v := .pointer (some ⟨g, 0, none⟩)) (some 21) rfl rfl (by kernel_rfl) (by kernel_rfl) (by kernel_rfl) (fun _ _ _ h => h) (Or.inl ⟨by rfl, fun w' hw => by (go_simp)⟩) (by assumption) ?_
        simp only [Act.put, List.setIfInBounds_toArray, List.set_cons_zero, List.set_cons_succ]
        refine anyH_take (i := 5) (v := .int .i64 x) (some 22) rfl rfl (by kernel_rfl) (by kernel_rfl) (by kernel_rfl) (fun _ _ _ h => h) (Or.inl ⟨by rfl, fun w' hw => by (have hc := hw.1; go_simp)⟩) (by assumption) ?_
        simp only [Act.put, List.setIfInBounds_toArray, List.set_cons_zero, List.set_cons_succ]
        refine anyH_take (i := 6) (v := .bool false) (some 23) rfl rfl (by kernel_rfl) (by kernel_rfl) (by kernel_rfl) (fun _ _ _ h => h) (Or.inl ⟨by rfl, fun w' hw => by (have hq1 := (Hc2.out).1; have hq2 := (Hc2.out).2; go_simp)⟩) (by assumption) ?_
        simp only [Act.put, List.setIfInBounds_toArray, List.set_cons_zero, List.set_cons_succ]
        refine anyH_take (i := 7) (v := .bool false) (some 24) rfl rfl (by kernel_rfl) (by kernel_rfl) (by kernel_rfl) (fun _ _ _ h => h) (Or.inl ⟨by rfl, fun w' hw => by (go_simp)⟩) (by assumption) ?_
        simp only [Act.put, List.setIfInBounds_toArray, List.set_cons_zero, List.set_cons_succ]
        refine anyH_take (i := 8) (v := .bool false) (some 25) rfl rfl (by kernel_rfl) (by kernel_rfl) (by kernel_rfl) (fun _ _ _ h => h) (Or.inl ⟨by rfl, fun w' hw => by (go_simp)⟩) (by assumption) ?_
        simp only [Act.put, List.setIfInBounds_toArray, List.set_cons_zero, List.set_cons_succ]
        refine anyH_take (i := 9) (v := .pointer (some ⟨g, 1, none⟩)) (some 26) rfl rfl (by kernel_rfl) (by kernel_rfl) (by kernel_rfl) (fun _ _ _ h => h) (Or.inl ⟨by rfl, fun w' hw => by (go_simp)⟩) (by assumption) ?_
        simp only [Act.put, List.setIfInBounds_toArray, List.set_cons_zero, List.set_cons_succ]
        refine anyH_take (i := 10) (v := .int .i64 a) (some 27) rfl rfl (by kernel_rfl) (by kernel_rfl) (by kernel_rfl) (fun _ _ _ h => h) (Or.inl ⟨by rfl, fun w' hw => by (have hc := hw.2.1; go_simp)⟩) (by assumption) ?_
        simp only [Act.put, List.setIfInBounds_toArray, List.set_cons_zero, List.set_cons_succ]
        refine anyH_take (i := 11) (v := .bool false) (some 28) rfl rfl (by kernel_rfl) (by kernel_rfl) (by kernel_rfl) (fun _ _ _ h => h) (Or.inl ⟨by rfl, fun w' hw => by (have hq1 := (Hc3.out).1; have hq2 := (Hc3.out).2; go_simp)⟩) (by assumption) ?_
        simp only [Act.put, List.setIfInBounds_toArray, List.set_cons_zero, List.set_cons_succ]
        refine anyH_take (i := 12) (v := .bool false) (some 29) rfl rfl (by kernel_rfl) (by kernel_rfl) (by kernel_rfl) (fun _ _ _ h => h) (Or.inl ⟨by rfl, fun w' hw => by (go_simp)⟩) (by assumption) ?_
        simp only [Act.put, List.setIfInBounds_toArray, List.set_cons_zero, List.set_cons_succ]
        refine anyH_take (i := 13) (v := .bool false) (some 30) rfl rfl (by kernel_rfl) (by kernel_rfl) (by kernel_rfl) (fun _ _ _ h => h) (Or.inl ⟨by rfl, fun w' hw => by (go_simp)⟩) (by assumption) ?_
        simp only [Act.put, List.setIfInBounds_toArray, List.set_cons_zero, List.set_cons_succ]
        refine anyH_take (i := 14) (v := .pointer (some ⟨g, 1, none⟩)) (some 31) rfl rfl (by kernel_rfl) (by kernel_rfl) (by kernel_rfl) (fun _ _ _ h => h) (Or.inl ⟨by rfl, fun w' hw => by (go_simp)⟩) (by assumption) ?_
        simp only [Act.put, List.setIfInBounds_toArray, List.set_cons_zero, List.set_cons_succ]
        refine anyH_take (i := 15) (v := .int .i64 a) (some 32) rfl rfl (by kernel_rfl) (by kernel_rfl) (by kernel_rfl) (fun _ _ _ h => h) (Or.inl ⟨by rfl, fun w' hw => by (have hc := hw.2.1; go_simp)⟩) (by assumption) ?_
        simp only [Act.put, List.setIfInBounds_toArray, List.set_cons_zero, List.set_cons_succ]
        refine anyH_take (i := 16) (v := .bool false) (some 33) rfl rfl (by kernel_rfl) (by kernel_rfl) (by kernel_rfl) (fun _ _ _ h => h) (Or.inl ⟨by rfl, fun w' hw => by (have hq1 := (Hc4.out).1; have hq2 := (Hc4.out).2; go_simp)⟩) (by assumption) ?_
        simp only [Act.put, List.setIfInBounds_toArray, List.set_cons_zero, List.set_cons_succ]
        refine anyH_take (i := 17) (v := .bool false) (some 34) rfl rfl (by kernel_rfl) (by kernel_rfl) (by kernel_rfl) (fun _ _ _ h => h) (Or.inl ⟨by rfl, fun w' hw => by (go_simp)⟩) (by assumption) ?_
        simp only [Act.put, List.setIfInBounds_toArray, List.set_cons_zero, List.set_cons_succ]
        refine anyH_take (i := 18) (v := .bool false) (some 35) rfl rfl (by kernel_rfl) (by kernel_rfl) (by kernel_rfl) (fun _ _ _ h => h) (Or.inl ⟨by rfl, fun w' hw => by (go_simp)⟩) (by assumption) ?_
        simp only [Act.put, List.setIfInBounds_toArray, List.set_cons_zero, List.set_cons_succ]
        refine anyH_take (i := 19) (v := .pointer (some ⟨g, 2, none⟩)) (some 36) rfl rfl (by kernel_rfl) (by kernel_rfl) (by kernel_rfl) (fun _ _ _ h => h) (Or.inl ⟨by rfl, fun w' hw => by (go_simp)⟩) (by assumption) ?_
        simp only [Act.put, List.setIfInBounds_toArray, List.set_cons_zero, List.set_cons_succ]
        refine anyH_take (i := 20) (v := .int .i64 n) (some 37) rfl rfl (by kernel_rfl) (by kernel_rfl) (by kernel_rfl) (fun _ _ _ h => h) (Or.inl ⟨by rfl, fun w' hw => by (have hc := hw.2.2.1; go_simp)⟩) (by assumption) ?_
        simp only [Act.put, List.setIfInBounds_toArray, List.set_cons_zero, List.set_cons_succ]
        refine anyH_take (i := 21) (v := .bool false) (some 38) rfl rfl (by kernel_rfl) (by kernel_rfl) (by kernel_rfl) (fun _ _ _ h => h) (Or.inl ⟨by rfl, fun w' hw => by (have hq1 := (Hc5.out).1; have hq2 := (Hc5.out).2; go_simp)⟩) (by assumption) ?_
        simp only [Act.put, List.setIfInBounds_toArray, List.set_cons_zero, List.set_cons_succ]
        refine anyH_take (i := 22) (v := .bool false) (some 39) rfl rfl (by kernel_rfl) (by kernel_rfl) (by kernel_rfl) (fun _ _ _ h => h) (Or.inl ⟨by rfl, fun w' hw => by (go_simp)⟩) (by assumption) ?_
        simp only [Act.put, List.setIfInBounds_toArray, List.set_cons_zero, List.set_cons_succ]
        refine anyH_take (i := 23) (v := .bool false) (some 40) rfl rfl (by kernel_rfl) (by kernel_rfl) (by kernel_rfl) (fun _ _ _ h => h) (Or.inl ⟨by rfl, fun w' hw => by (go_simp)⟩) (by assumption) ?_
        simp only [Act.put, List.setIfInBounds_toArray, List.set_cons_zero, List.set_cons_succ]
        refine anyH_take (i := 24) (v := .pointer (some ⟨g, 2, none⟩)) (some 41) rfl rfl (by kernel_rfl) (by kernel_rfl) (by kernel_rfl) (fun _ _ _ h => h) (Or.inl ⟨by rfl, fun w' hw => by (go_simp)⟩) (by assumption) ?_
        simp only [Act.put, List.setIfInBounds_toArray, List.set_cons_zero, List.set_cons_succ]
        refine anyH_take (i := 25) (v := .int .i64 n) (some 42) rfl rfl (by kernel_rfl) (by kernel_rfl) (by kernel_rfl) (fun _ _ _ h => h) (Or.inl ⟨by rfl, fun w' hw => by (have hc := hw.2.2.1; go_simp)⟩) (by assumption) ?_
        simp only [Act.put, List.setIfInBounds_toArray, List.set_cons_zero, List.set_cons_succ]
        refine anyH_take (i := 26) (v := .bool false) (some 43) rfl rfl (by kernel_rfl) (by kernel_rfl) (by kernel_rfl) (fun _ _ _ h => h) (Or.inl ⟨by rfl, fun w' hw => by (have hq1 := (Hc6.out).1; have hq2 := (Hc6.out).2; go_simp)⟩) (by assumption) ?_
        simp only [Act.put, List.setIfInBounds_toArray, List.set_cons_zero, List.set_cons_succ]
        refine anyH_take (i := 27) (v := .bool false) (some 44) rfl rfl (by kernel_rfl) (by kernel_rfl) (by kernel_rfl) (fun _ _ _ h => h) (Or.inl ⟨by rfl, fun w' hw => by (go_simp)⟩) (by assumption) ?_
        simp only [Act.put, List.setIfInBounds_toArray, List.set_cons_zero, List.set_cons_succ]
        refine anyH_take (i := 28) (v := .bool false) (some 45) rfl rfl (by kernel_rfl) (by kernel_rfl) (by kernel_rfl) (fun _ _ _ h => h) (Or.inl ⟨by rfl, fun w' hw => by (go_simp)⟩) (by assumption) ?_
        simp only [Act.put, List.setIfInBounds_toArray, List.set_cons_zero, List.set_cons_succ]
        refine anyH_take (i := 29) (v := .int .i64 (k : Nat)) (some 46) rfl rfl (by kernel_rfl) (by kernel_rfl) (by kernel_rfl) (fun _ _ _ h => h) (Or.inl ⟨by rfl, fun w' hw => by (go_simp)⟩) (by assumption) ?_
        simp only [Act.put, List.setIfInBounds_toArray, List.set_cons_zero, List.set_cons_succ]
        refine anyH_take (i := 30) (v := .bool true) (some 47) rfl rfl (by kernel_rfl) (by kernel_rfl) (by kernel_rfl) (fun _ _ _ h => h) (Or.inl ⟨by rfl, fun w' hw => by (have hq1 := Hk1.out; have hq2 := Hk2.out; have hq3 := Hk3.out; go_simp)⟩) (by assumption) ?_
        simp only [Act.put, List.setIfInBounds_toArray, List.set_cons_zero, List.set_cons_succ]
        refine anyH_take (i := 31) (v := .bool true) (some 48) rfl rfl (by kernel_rfl) (by kernel_rfl) (by kernel_rfl) (fun _ _ _ h => h) (Or.inl ⟨by rfl, fun w' hw => by (go_simp)⟩) (by assumption) ?_
        simp only [Act.put, List.setIfInBounds_toArray, List.set_cons_zero, List.set_cons_succ]
        refine anyH_take (i := 32) (v := .pointer (some ⟨w.heap.size, 103, none⟩)) (some 49) rfl rfl (by kernel_rfl) (by kernel_rfl) (by kernel_rfl) (fun _ _ _ h => h) (Or.inl ⟨by rfl, fun w' hw => by (go_simp)⟩) (by assumption) ?_
        simp only [Act.put, List.setIfInBounds_toArray, List.set_cons_zero, List.set_cons_succ]
        refine anyH_take (i := 33) (v := .slice (some ⟨bb, off, none⟩) n0 cb) (some 50) rfl rfl (by kernel_rfl) (by kernel_rfl) (by kernel_rfl) (fun _ _ _ h => h) (Or.inl ⟨by rfl, fun w' hw => by (have hc := hw.2.2.2.1; go_simp)⟩) (by assumption) ?_
        simp only [Act.put, List.setIfInBounds_toArray, List.set_cons_zero, List.set_cons_succ]
        refine anyH_take (i := 34) (v := .int .i64 (k : Nat)) (some 51) rfl rfl (by kernel_rfl) (by kernel_rfl) (by kernel_rfl) (fun _ _ _ h => h) (Or.inl ⟨by rfl, fun w' hw => by (go_simp)⟩) (by assumption) ?_
        simp only [Act.put, List.setIfInBounds_toArray, List.set_cons_zero, List.set_cons_succ]
        refine anyH_take (i := 35) (v := .int .i64 (k2 : Nat)) (some 52) rfl rfl (by kernel_rfl) (by kernel_rfl) (by kernel_rfl) (fun _ _ _ h => h) (Or.inl ⟨by rfl, fun w' hw => by (have hq1 := Hwr.out.1; have hq2 := Hwr.out.2; go_simp)⟩) (by assumption) ?_
        simp only [Act.put, List.setIfInBounds_toArray, List.set_cons_zero, List.set_cons_succ]
        refine anyH_take (i := 36) (v := .pointer (some ⟨bb, off + k2 * 35, none⟩)) (some 53) rfl rfl (by kernel_rfl) (by kernel_rfl) (by kernel_rfl) (fun _ _ _ h => h) (Or.inl ⟨by rfl, fun w' hw => by (have hq1 := Hix.out.1; have hq2 := Hix.out.2; go_simp)⟩) (by assumption) ?_
        simp only [Act.put, List.setIfInBounds_toArray, List.set_cons_zero, List.set_cons_succ]
        refine anyH_take (i := 37) (v := .pointer (some ⟨bb, off + k2 * 35, none⟩)) (some 54) rfl rfl (by kernel_rfl) (by kernel_rfl) (by kernel_rfl) (fun _ _ _ h => h) (Or.inl ⟨by rfl, fun w' hw => by (go_simp)⟩) (by assumption) ?_
        simp only [Act.put, List.setIfInBounds_toArray, List.set_cons_zero, List.set_cons_succ]
        refine anyH_take (i := 38) (v := .int .i64 xp) (some 55) rfl rfl (by kernel_rfl) (by kernel_rfl) (by kernel_rfl) (fun _ _ _ h => h) (Or.inl ⟨by rfl, fun w' hw => by (have hc := hw.2.2.2.2; go_simp)⟩) (by assumption) ?_
        simp only [Act.put, List.setIfInBounds_toArray, List.set_cons_zero, List.set_cons_succ]
        refine anyH_take (i := 39) (v := .pointer (some ⟨g, 0, none⟩)) (some 56) rfl rfl (by kernel_rfl) (by kernel_rfl) (by kernel_rfl) (fun _ _ _ h => h) (Or.inl ⟨by rfl, fun w' hw => by (go_simp)⟩) (by assumption) ?_
        simp only [Act.put, List.setIfInBounds_toArray, List.set_cons_zero, List.set_cons_succ]
        refine anyH_take (i := 40) (v := .int .i64 x) (some 57) rfl rfl (by kernel_rfl) (by kernel_rfl) (by kernel_rfl) (fun _ _ _ h => h) (Or.inl ⟨by rfl, fun w' hw => by (have hc := hw.1; go_simp)⟩) (by assumption) ?_
        simp only [Act.put, List.setIfInBounds_toArray, List.set_cons_zero, List.set_cons_succ]
        refine anyH_take (i := 41) (v := .bool b0) (some 58) rfl rfl (by kernel_rfl) (by kernel_rfl) (by kernel_rfl) (fun _ _ _ h => h) (Or.inl ⟨by rfl, fun w' hw => by (have hq1 := Hb0.out.1; have hq2 := Hb0.out.2; go_simp)⟩) (by assumption) ?_
        simp only [Act.put, List.setIfInBounds_toArray, List.set_cons_zero, List.set_cons_succ]
        refine anyH_take (i := 42) (v := .bool b0) (some 59) rfl rfl (by kernel_rfl) (by kernel_rfl) (by kernel_rfl) (fun _ _ _ h => h) (Or.inl ⟨by rfl, fun w' hw => by (go_simp)⟩) (by assumption) ?_
        simp only [Act.put, List.setIfInBounds_toArray, List.set_cons_zero, List.set_cons_succ]
        refine anyH_take (i := 43) (v := .bool b0) (some 60) rfl rfl (by kernel_rfl) (by kernel_rfl) (by kernel_rfl) (fun _ _ _ h => h) (Or.inl ⟨by rfl, fun w' hw => by (go_simp)⟩) (by assumption) ?_
        simp only [Act.put, List.setIfInBounds_toArray, List.set_cons_zero, List.set_cons_succ]
        refine wpAnyH_done (by kernel_rfl) ?_ _
        cases b0 with
        | true =>
          have Hno := Lib.hid (show false = r by
            cases r with
            | false => rfl
            | true =>
              have h1 := (Hr.out.1 rfl).2.2.2.2.2 k2 (by rw [Hn.out]; have := Hkk.out; omega)
              have h2 := of_decide_eq_true Hb0.out.1
              rw [Hxp.out, ← Hkk.out, Hb.out, Hxan.out.1] at h1
              omega)
          go_wp2_with fail
          go_ret
          exact ⟨by rw [← Hno.out]; rfl, Below.dN hb5 1⟩
        | false =>
          have Hri2 := Lib.hid (show ∀ j, j + 1 < k + 1 → (c.bins.getD j zB).x < (c.bins.getD (j + 1) zB).x from fun j hj => by
            by_cases e : j + 1 < k
            · exact Hri.out j e
            · obtain rfl : j = k2 := by have := Hkk.out; omega
              have h2 := of_decide_eq_false Hb0.out.1
              rw [Hxp.out, ← Hkk.out, Hb.out, Hxan.out.1]
              omega)
          go_wp2_with fail
          go_roundw
          case rel => exact ⟨k + 1, by omega, by go_num, Below.dN hb5 1, hA5.drewN 1, Hok2, Hri2⟩
          case measure => have := Hkk.out; simp [Go.RowKit.intOf]; omega
    · obtain rfl : k = n0 := by omega
      have hd1 : decide ((k : Int) < (k : Int)) = false := by simp
      have hAt := Hat.out wr hAr
      have p0 := hAt.ep
      rw [Hep.out] at p0
      have Hrow := Lib.hid (show (∀ b ∈ c.bins, OkB b) ∧ RiseB c.bins from ⟨fun b hb => by
        obtain ⟨i, hi, he⟩ := List.mem_iff_getElem.1 hb
        have := Hok.out i (by rw [← Hn.out]; exact hi)
        have e2 : c.bins.getD i zB = b := by rw [← he]; simp [List.getD, hi]
        rwa [e2] at this, fun i hi => Hri.out i (by rw [← Hn.out]; exact hi)⟩)
      clear hAt Hok Hri hd1
      have hd1 : decide ((k : Int) < (k : Int)) = false := by simp
      have hAtk := Lib.hid (fun (w' : World) (h : Below wr.heap.size wr w') => show ComAt w' w.heap.size c.ep R1 R2 R3 (.slice Ab k cb) SL ev from Hat.out w' (hAr.up h))
      have HAr := Lib.hid (Hat.out wr hAr)
      have hfin : r = (decide (0 < ep) && (okR c.r1 && (okR c.r2 && okR c.r3))) := by
        rw [Bool.eq_iff_iff, Hr.out, ← Hep.out]
        simp only [Bool.and_eq_true, decide_eq_true_eq, okR_iff]
        exact ⟨fun h => ⟨h.1, h.2.1, h.2.2.1, h.2.2.2.1⟩, fun h => ⟨h.1, h.2.1, h.2.2.1, h.2.2.2, Hrow.out.1, Hrow.out.2⟩⟩
      obtain ⟨e0, he0⟩ : ∃ z, decide (0 < ep) = z := ⟨_, rfl⟩
      obtain ⟨e1, he1⟩ : ∃ z, okR c.r1 = z := ⟨_, rfl⟩
      obtain ⟨e2, he2⟩ : ∃ z, okR c.r2 = z := ⟨_, rfl⟩
      obtain ⟨e3, he3⟩ : ∃ z, okR c.r3 = z := ⟨_, rfl⟩
      rw [he0, he1, he2, he3] at hfin
      have hq0 : decide ((0 : Int) < (ep : Int)) = e0 := by rw [← he0]; simp
      have hq0' : decide ((ep : Int) > 0) = e0 := hq0
      have hq0n : decide (0 < ep) = e0 := he0
      have Hfin := Lib.hid hfin
      have Hc1 := Lib.hid (rref_any c.r1 Hw.out.1 R1 HR.out.1 wr)
      rw [he1] at Hc1
      have He2 := Lib.hid he2
      have He3 := Lib.hid he3
      clear hfin he0 he1 he2 he3 hAr
      cases e0 with
      | false =>
        go_wp2_with fail
        go_ret
        exact ⟨by rw [Hfin.out]; rfl, hbr⟩
      | true =>
        go_wp2_with (first | ((with_reducible refine wpList_at 66 (by rfl) ?_); refine wpList_load_mid_ifC (by rfl) 26 _ rfl w.heap.size 1 rfl R1 _ (HAr.out.r1) Try.underlying26 rfl H1.out ?_))
        refine Calls.mono Hc1.out ?_
        rintro e wa ⟨rfl, hba⟩
        have hbra := hbr.trans (hba.mono hwr)
        have Hc2 := Lib.hid (rref_any c.r2 Hw.out.2.1 R2 HR.out.2.1 wa)
        rw [He2.out] at Hc2
        cases e1 with
        | false =>
          go_wp2_with fail
          go_ret
          exact ⟨by rw [Hfin.out]; rfl, hbra⟩
        | true =>
          go_wp2_with (first | ((with_reducible refine wpList_at 71 (by rfl) ?_); refine wpList_load_mid_ifC (by rfl) 26 _ rfl w.heap.size 35 rfl R2 _ ((hAtk.out wa hba).r2) Try.underlying26 rfl H2.out ?_))
          refine Calls.mono Hc2.out ?_
          rintro e wb ⟨rfl, hbb⟩
          have hbab := hba.trans (hbb.mono hba.size)
          have hbrb := hbr.trans (hbab.mono hwr)
          have Hc3 := Lib.hid (rref_any c.r3 Hw.out.2.2 R3 HR.out.2.2 wb)
          rw [He3.out] at Hc3
          cases e2 with
          | false =>
            go_wp2_with fail
            go_ret
            exact ⟨by rw [Hfin.out]; rfl, hbrb⟩
          | true =>
            go_wp2_with (first | ((with_reducible refine wpList_at 76 (by rfl) ?_); refine wpList_load_mid_ifC (by rfl) 26 _ rfl w.heap.size 69 rfl R3 _ ((hAtk.out wb hbab).r3) Try.underlying26 rfl H3.out ?_))
            refine Calls.mono Hc3.out ?_
            rintro e wc ⟨rfl, hbc⟩
            have hbrc := hbrb.trans (hbc.mono hbrb.size)
            go_wp2_with fail
            go_ret
            exact ⟨by rw [Hfin.out]; rfl, hbrc⟩

end Go.Proofs.Ytlfddijmanlneaa

namespace Go.Proofs.Ytlfddijmanlneaa
open Go.RowKit
set_option linter.unusedVariables false
set_option linter.unusedSimpArgs false


/-- The document's Decode at work: its commit in block g, its In in block q, its answer's block. -/
structure RD (w0 : World) (ZL : List Value) (g q : Nat) (L : List UInt8) (A : Option Addr) (c : Nat) (X : List Value) (s : St) (w : World) : Prop where
  x : Arr w g 30 X
  r : Arr w w0.heap.size 30 ZL
  i : RSt w q L A c s
  b : Below w0.heap.size w0 w
  hq : w0.heap.size < q
  hg : q < g
section
variable {w0 : World} {ZL : List Value} {g q : Nat} {L : List UInt8} {A : Option Addr} {c : Nat} {X : List Value} {s : St} {w w' : World}
theorem RD.le (h : RD w0 ZL g q L A c X s w) : g + 1 ≤ w.heap.size := h.x.lt
theorem RD.below (h : RD w0 ZL g q L A c X s w) (hb : Below (g + 1) w w') : RD w0 ZL g q L A c X s w' := by
  have h1 := h.hq
  have h2 := h.hg
  exact ⟨h.x.below hb (by omega), h.r.below hb (by omega), h.i.lowN ⟨hb.size, fun k hk => hb.block k (by omega)⟩, h.b.trans (hb.mono (by omega)), h.hq, h.hg⟩
theorem RD.turn {s' : St} (h : RD w0 ZL g q L A c X s w) (ht : Turn q w w') (hi : RSt w' q L A c s') : RD w0 ZL g q L A c X s' w' := by
  have h1 := h.hq
  have h2 := h.hg
  exact ⟨h.x.turn ht (by omega), h.r.turn ht (by omega), hi, h.b.trans (ht.belowC h.b.size (by omega)), h.hq, h.hg⟩
theorem RD.only {X' : List Value} (h : RD w0 ZL g q L A c X s w) (ho : Only (fun k => k = g) w w') (hx : Arr w' g 30 X') : RD w0 ZL g q L A c X' s w' := by
  have h1 := h.hq
  have h2 := h.hg
  have h3 := h.i.lt
  exact ⟨hx, h.r.only ho (by omega), h.i.lowN ⟨ho.size, fun k hk => ho.block k (by omega) (by omega)⟩, h.b.trans (ho.below h.b.size (by rintro k rfl; omega)), h.hq, h.hg⟩
theorem RD.set (h : RD w0 ZL g q L A c X s w) (k : Nat) (v : Value) : RD w0 ZL g q L A c (X.set k v) s (w.setCell ⟨g, k, none⟩ v) ∧ Only (fun k => k = g) w (w.setCell ⟨g, k, none⟩ v) := by
  have ho : Only (fun k => k = g) w (w.setCell ⟨g, k, none⟩ v) := Only.setCell (R := fun k => k = g) (Only.refl _ _) (.inl rfl) _
  exact ⟨h.only ho (h.x.set k v), ho⟩
theorem RD.setIn (h : RD w0 ZL g q L A c X s w) (k : Nat) (T : List Value) (hl : k + T.length ≤ X.length) : RD w0 ZL g q L A c (X.take k ++ (T ++ X.drop (k + T.length))) s (w.setCells g k T) ∧ Only (fun k => k = g) w (w.setCells g k T) ∧ w.there g k T.toArray.size := by
  have ho : Only (fun k => k = g) w (w.setCells g k T) := Only.setIn (R := fun k => k = g) rfl T k w (Only.refl _ _)
  exact ⟨h.only ho (Arr.setIn T k _ w h.x hl), ho, there_of_arr h.x (by rw [List.size_toArray]; exact hl)⟩
theorem RD.drewN (h : RD w0 ZL g q L A c X s w) (n : Nat) : RD w0 ZL g q L A c X s (w.drewN n) := h.below (Below.dN (Below.refl _ _) n)
end

theorem wp_append_bnR {o : Oper} {a : Act} {w : World} {K : Act → World → Prop} {Q : Exit → Act → World → Prop} (dd : Option Tmp) (hdd : o.dst = dd) (s x : Operand) (ho : o.op = .call { callee := .builtin .append, args := #[s, x], argTypes := #[27, 27] })
    {B : Nat} {v : Value} {xs : List BinF} (h : BRow w B v xs) (hB : B ≤ w.heap.size) (hs : a.eval s = v) (g c : Nat) (hx : a.eval x = .slice (some ⟨g, 0, none⟩) 1 c) (y : BinF) (hy : BinW y) (VL : List Value) (hV : VL = bC y) (hg : Arr w g 63 VL) (hm : xs.length ≤ 2000000)
    (hK : ∀ v' w', BRow w' B v' (xs ++ [y]) → w.grownBy w' v.ownBlock → K (a.put dd v') w') : Oper.wp Try.prog o a w K Q := by
  subst hdd
  obtain ⟨v', w', hr, h2, h3⟩ := run_append_bn h hB o.type g c y hy VL hV hg hm
  unfold Oper.wp execOp
  simp only [ho, resolve, invoke, builtin, Sem.run_bind, Sem.run_pure, Result.andThen_ok, List.map_toArray, List.map_cons, List.map_nil, hs, hx, hr]
  exact hK v' w' h2 h3
theorem wp_append_evR {o : Oper} {a : Act} {w : World} {K : Act → World → Prop} {Q : Exit → Act → World → Prop} (dd : Option Tmp) (hdd : o.dst = dd) (s x : Operand) (ho : o.op = .call { callee := .builtin .append, args := #[s, x], argTypes := #[28, 28] })
    {B : Nat} {v : Value} {xs : List (List UInt8)} (h : QRow w B v xs) (hB : B ≤ w.heap.size) (hs : a.eval s = v) (g c : Nat) (hx : a.eval x = .slice (some ⟨g, 0, none⟩) 1 c) (Y : List UInt8) (A' : Option Addr) (n c' : Nat) (hn : Y.length = n) (hc : n ≤ c') (hm' : c' ≤ maxLen) (hb : Bs w w.heap.size A' Y)
    (ha : ∀ a : Addr, A' = some a → 0 < Y.length → B ≤ a.block ∧ v.ownBlock ≠ some a.block) (hg : Arr w g 33 [.slice A' n c']) (hm : xs.length ≤ 2000000)
    (hK : ∀ v' w', QRow w' B v' (xs ++ [Y]) → w.grownBy w' v.ownBlock → K (a.put dd v') w') : Oper.wp Try.prog o a w K Q := by
  subst hdd
  obtain ⟨i0, hi, hz0, hz1, hz2⟩ := info_parts evAll
  have hadd : ∀ k, (⟨g, 0, none⟩ : Addr).add k = ⟨g, k, none⟩ := fun k => by unfold Addr.add; split <;> simp_all
  obtain ⟨cs, hcs, hrows⟩ := h
  obtain ⟨v', w', h1, h2, h3, _, h5⟩ := run_append_own_at (P := Try.prog) w B 28 o.type 33 i0 (.slice none 0 0) 1 24 Try.underlying28 hi hz0 hz1 hz2 rfl (by decide) v xs.length cs hcs ⟨g, 0, none⟩ 1 c [.slice A' n c'] rfl (fun j u hj => by rw [hadd, hg.cell]; exact hj) (by intro u hu; simp at hu; subst hu; rfl) (by unfold maxLen; omega) (by omega) hB
  unfold Oper.wp execOp
  simp only [ho, resolve, invoke, builtin, Sem.run_bind, Sem.run_pure, Result.andThen_ok, List.map_toArray, List.map_cons, List.map_nil, hs, hx, h1]
  exact hK v' w' (QRow.snoc h2 (by have := hcs.1; omega) hrows h3 h5 hn hc hm' hb ha) h3

theorem BRow.belowB {w w' : World} {B B2 : Nat} {v : Value} {bs : List BinF} (h : BRow w B v bs) (hb : Below B2 w w') (hl : ∀ k, v.ownBlock = some k → k < B2) : BRow w' B v bs := by
  refine ⟨h.1, h.2.1, ?_⟩
  rcases h.2.2 with hn | ⟨g, cap, cur, rfl, h1, hg, rest⟩
  · exact .inl hn
  · exact .inr ⟨g, cap, cur, rfl, h1, (hb.block g (hl g rfl)).trans hg, rest⟩
/-! ### taking when nothing is left -/
theorem numS_bad (most : Nat) : numS most ([], true) = (0, ([], true)) := by unfold numS; rw [numF_nil]; rfl
theorem digS_bad : (digS ([], true)).2 = ([], true) := rfl
theorem binS_bad : (binS ([], true)).2 = ([], true) := by unfold binS; simp only [numS_bad, digS_bad]
theorem evS_bad : (evS ([], true)).2 = ([], true) := by
  unfold evS bytS bytesF
  simp only [numF_nil, Int.reduceToNat, Int.reduceLT, if_false, Bool.true_or]
  rfl
/-- A run begun when it has gone wrong: nothing is taken. -/
theorem runS_bad {α : Type} {take : St → α × St} (h : (take ([], true)).2 = ([], true)) (n : Nat) : runS take n ([], ([], true)) = ([], ([], true)) := by
  cases n with
  | zero => rfl
  | succ n => unfold runS; rw [h]; rfl
theorem RSt.bad {w : World} {q : Nat} {L : List UInt8} {A : Option Addr} {c : Nat} {s : St} (h : RSt w q L A c s) (hs : s.2 = true) : s = ([], true) := by
  obtain ⟨_, o, _, r⟩ := h
  exact Prod.ext (r.2.1 hs) hs

/-- DecPost, and where the events' row lies. -/
def DecPostR (b : List UInt8) (w : World) (e : Ending) (w' : World) : Prop :=
  Below w.heap.size w w' ∧ ((∃ x, e = .returned (.tuple #[.agg (comC x).toArray, .int .i64 0]) ∧ (CxOk w' w'.heap.size x ∧ ∀ a : Addr, x.Ae = some a → w.heap.size ≤ a.block) ∧ IsDec b x.c ∧ Good b) ∨ (e = .returned (.tuple #[.agg comZ.toArray, .int .i64 3]) ∧ ¬ Good b))
set_option maxHeartbeats 16000000 in
set_option maxRecDepth 100000 in
theorem rdec_low (A : Option Addr) (n c : Nat) (b : List UInt8) (hn : b.length = n) (hc : n ≤ c) (hm : c ≤ maxLen) (hn6 : n ≤ 65536) (w : World) (hb : Bs w w.heap.size A b) :
    Calls Try.prog 17 #[.slice A n c] w (DecPostR b w) := by
  have hm' : c ≤ 9223372036854775807 := by unfold maxLen at hm; omega
  obtain ⟨ZL, hZL⟩ : ∃ z, z = comZ := ⟨_, rfl⟩
  have HZ := Lib.hid (fun w : World => show (zeroValue 30).run Try.prog w = .ok (.agg ZL.toArray) w by rw [hZL]; exact comZero w)
  have HZb := Lib.hid (show Try.prog.built 30 [] = some ZL.toArray by rw [hZL]; exact com_built0)
  have HZi := Lib.hid (show (Try.prog.info? 30).map (·.size) = some ZL.toArray.size by rw [hZL]; exact comSize)
  have HZ1 := Lib.hid (show ZL.toArray.all (·.oneCell') = true by rw [hZL]; exact all_oneC (comV_one (refC_cell _ _ _) (refC_cell _ _ _) (refC_cell _ _ _) (byteCells_one _) rfl rfl))
  have HZL := Lib.hid hZL
  obtain ⟨W1, hW1⟩ : ∃ z, z = w.alloc (.cells ZL.toArray 30) := ⟨_, rfl⟩
  have hR1 : Arr W1 w.heap.size 30 ZL := by rw [hW1]; exact Arr.new w _ _
  have hb0 : Below w.heap.size w W1 := by rw [hW1]; exact (Below.refl _ w).alloc (Nat.le_refl _) _
  obtain ⟨q, hq⟩ : ∃ z, z = W1.heap.size := ⟨_, rfl⟩
  obtain ⟨W2, hW2⟩ : ∃ z, z = W1.alloc (.cells #[.slice A n c, .int .i64 0, .bool false] 83) := ⟨_, rfl⟩
  have hb12 : Below W1.heap.size W1 W2 := by rw [hW2]; exact (Below.refl _ _).alloc (Nat.le_refl _) _
  have hR2 : Arr W2 w.heap.size 30 ZL := hR1.up hb12
  have hri : RIn W2 q b A c 0 false := by
    unfold RIn
    rw [hW2, hq, hn]
    exact heap_alloc_new W1 _
  have hqw : w.heap.size < q := by rw [hq]; exact hR1.lt
  have hst : RSt W2 q b A c ((b, false) : St) := ⟨⟨by rw [hn]; exact hc, by omega, hm, ((hb.below hb0 (Nat.le_refl _)).below hb12 hb0.size).more (by omega)⟩, 0, hri, (fun _ => rfl), (fun h => by cases h), Nat.zero_le _⟩
  have hb2w := hb0.trans (hb12.mono hb0.size)
  have HW1 := Lib.hid hW1
  have HW2 := Lib.hid hW2
  have Hq := Lib.hid hq
  have Hn := Lib.hid hn
  have Hst := Lib.hid hst
  clear hZL hW1 hW2 hq hn hb hri hst hR1 hb0 hb12
  go_enter Try.func17, Try.ntmps17
  go_upto_region 1 with (first | (refine wpList_allocZC rfl 30 rfl ZL.toArray (HZ.out _) ?_; rw [← HW1.out]))
  go_upto_region 2 with fail
  change Code.wp _ _ _ _ (W1.alloc (.cells #[.slice A n c, .int .i64 0, .bool false] 83))
  rw [← HW2.out, ← Hq.out]
  clear HW1 HW2 Hq
  go_wp2_with fail
  refine Calls.mono (rnumber_fl q 18446744073709551615 (b, false) W2 Hst.out (by omega)) ?_
  rintro e w3 ⟨rfl, hP3, ht3⟩
  have hP3' : RSt w3 q b A c (dS0 b) := hP3
  obtain ⟨ep, hep⟩ : ∃ z, (numS 18446744073709551615 (b, false)).1 = z := ⟨_, rfl⟩
  have hepl : ep < 18446744073709551616 := by rw [← hep]; have := numS_le 18446744073709551615 (b, false); omega
  rw [hep]
  have hR3 := hR2.turn ht3 (by omega)
  have hb3w := hb2w.trans (ht3.belowC hb2w.size (by omega))
  have Hep := Lib.hid hep
  obtain ⟨Z0, hZ0⟩ : ∃ z, z = Lib.byteCells zeros := ⟨_, rfl⟩
  obtain ⟨C0, hC0⟩ : ∃ z, z = comV ep refZ refZ refZ (.slice none 0 0) Z0 (.slice none 0 0) := ⟨_, rfl⟩
  have HC0b := Lib.hid (show Try.prog.built 30 [(0, .int .u64 (ep : Nat))] = some C0.toArray by rw [hC0, hZ0]; exact com_built1 ep)
  have hZ0l : Z0.length = 32 := by rw [hZ0]; rfl
  have HC0l := Lib.hid (show C0.length = 137 by rw [hC0]; exact comV_length rfl rfl rfl hZ0l)
  have HC0i := Lib.hid (show (Try.prog.info? 30).map (·.size) = some C0.toArray.size by rw [List.size_toArray, HC0l.out]; exact comSize)
  have HC0z := Lib.hid (show ZL.toArray.size = C0.toArray.size by rw [List.size_toArray, List.size_toArray, HC0l.out, HZL.out]; rfl)
  have HC01 := Lib.hid (show C0.toArray.all (·.oneCell') = true by
    rw [hC0, hZ0]
    exact all_oneC (comV_one (refC_cell _ _ _) (refC_cell _ _ _) (refC_cell _ _ _) (byteCells_one _) rfl rfl))
  obtain ⟨w4, hw4⟩ : ∃ W, W = (w3.alloc (.cells ZL.toArray 30)).setRow w3.heap.size C0.toArray := ⟨_, rfl⟩
  obtain ⟨hX4, hb4⟩ := alloc_row w3 30 ZL.toArray C0
  rw [← hw4] at hX4 hb4
  obtain ⟨g, hg⟩ : ∃ z, z = w3.heap.size := ⟨_, rfl⟩
  rw [hC0] at hX4
  have hqg : q < g := by rw [hg]; exact hP3'.lt
  have HD4 := Lib.hid (show RD w ZL g q b A c (comV ep refZ refZ refZ (.slice none 0 0) Z0 (.slice none 0 0)) (dS0 b) w4 from
    ⟨by rw [hg]; exact hX4, hR3.up hb4, hP3'.lowN ⟨hb4.size, fun i hi => hb4.block i (by omega)⟩, hb3w.trans (hb4.mono hb3w.size), hqw, hqg⟩)
  have Hw4 := Lib.hid hw4
  have Hg := Lib.hid hg
  have Hz := Lib.hid (show Z0.length = 32 ∧ Z0 = Lib.byteCells zeros from ⟨hZ0l, hZ0⟩)
  have Hdd : Hid (w.heap.size < q ∧ q < g) := ⟨hqw, hqg⟩
  clear hP3 hP3' ht3 hR2 hR3 hb2w hb3w hep hC0 hw4 hb4 hX4 hg Hst hZ0 hZ0l hqw hqg
  go_upto_region 3 with (first
    | (refine wpList_builtD rfl _ _ rfl _ rfl C0.toArray HC0b.out ?_)
    | (refine wpList_allocZC rfl 30 rfl ZL.toArray (HZ.out _) ?_)
    | (refine wpList_store_row rfl _ _ _ rfl w3.heap.size C0.toArray rfl rfl 30 ZL.toArray (heap_alloc_new w3 _) HC0i.out HC0z.out HC01.out ?_; rw [← Hw4.out]))
  rw [← Hg.out]
  clear Hg Hw4 HC0b HC0l HC0i HC0z HC01
  obtain ⟨T1, hT1⟩ : ∃ z, z = rC (refS (dS0 b)).1 := ⟨_, rfl⟩
  have Hl1 := Lib.hid (show T1.length = 34 by rw [hT1]; exact rC_length (refS_w _))
  have HTi1 := Lib.hid (show (Try.prog.info? 26).map (·.size) = some T1.toArray.size by rw [List.size_toArray, Hl1.out]; exact refSize)
  have HT11 := Lib.hid (show T1.toArray.all (·.oneCell') = true by rw [hT1]; exact all_oneC (rC_one _))
  have HT1 := Lib.hid hT1
  clear hT1
  go_wp2_with fail
  refine Calls.mono (rrtake_fl (dS0 b) q w4 HD4.out.i T1 HT1.out) ?_
  rintro e w5 ⟨rfl, hi5, ht5⟩
  have hD5 := HD4.out.turn ht5 (show RSt w5 q b A c (dS1 b) by rw [dS1]; exact hi5)
  obtain ⟨hDc, _, hth⟩ := hD5.setIn 1 T1 (by rw [comV_length rfl rfl rfl Hz.out.1, Hl1.out]; omega)
  rw [comV_set1 rfl Hl1.out] at hDc
  obtain ⟨w6, hw6⟩ : ∃ z, z = w5.setCells g 1 T1 := ⟨_, rfl⟩
  rw [← hw6] at hDc
  have HD6 := Lib.hid hDc
  have Hw6 := Lib.hid hw6
  have Hth := Lib.hid hth
  clear hDc hth hw6 hD5 hi5 ht5 HD4
  go_upto_region 4 with (first | (refine wpList_store_mid rfl 26 _ _ rfl g 1 T1.toArray rfl rfl Hth.out HTi1.out HT11.out ?_; rw [show T1.toArray.toList = T1 from rfl, ← Hw6.out]))
  clear Hw6 Hth
  obtain ⟨T2, hT2⟩ : ∃ z, z = rC (refS (dS1 b)).1 := ⟨_, rfl⟩
  have Hl2 := Lib.hid (show T2.length = 34 by rw [hT2]; exact rC_length (refS_w _))
  have HTi2 := Lib.hid (show (Try.prog.info? 26).map (·.size) = some T2.toArray.size by rw [List.size_toArray, Hl2.out]; exact refSize)
  have HT12 := Lib.hid (show T2.toArray.all (·.oneCell') = true by rw [hT2]; exact all_oneC (rC_one _))
  have HT2 := Lib.hid hT2
  clear hT2
  go_wp2_with fail
  refine Calls.mono (rrtake_fl (dS1 b) q w6 HD6.out.i T2 HT2.out) ?_
  rintro e w7 ⟨rfl, hi7, ht7⟩
  have hD7 := HD6.out.turn ht7 (show RSt w7 q b A c (dS2 b) by rw [dS2]; exact hi7)
  obtain ⟨hDc, _, hth⟩ := hD7.setIn 35 T2 (by rw [comV_length Hl1.out rfl rfl Hz.out.1, Hl2.out]; omega)
  rw [comV_set2 Hl1.out rfl Hl2.out] at hDc
  obtain ⟨w8, hw8⟩ : ∃ z, z = w7.setCells g 35 T2 := ⟨_, rfl⟩
  rw [← hw8] at hDc
  have HD8 := Lib.hid hDc
  have Hw8 := Lib.hid hw8
  have Hth := Lib.hid hth
  clear hDc hth hw8 hD7 hi7 ht7 HD6
  go_upto_region 5 with (first | (refine wpList_store_mid rfl 26 _ _ rfl g 35 T2.toArray rfl rfl Hth.out HTi2.out HT12.out ?_; rw [show T2.toArray.toList = T2 from rfl, ← Hw8.out]))
  clear Hw8 Hth
  obtain ⟨T3, hT3⟩ : ∃ z, z = rC (refS (dS2 b)).1 := ⟨_, rfl⟩
  have Hl3 := Lib.hid (show T3.length = 34 by rw [hT3]; exact rC_length (refS_w _))
  have HTi3 := Lib.hid (show (Try.prog.info? 26).map (·.size) = some T3.toArray.size by rw [List.size_toArray, Hl3.out]; exact refSize)
  have HT13 := Lib.hid (show T3.toArray.all (·.oneCell') = true by rw [hT3]; exact all_oneC (rC_one _))
  have HT3 := Lib.hid hT3
  clear hT3
  go_wp2_with fail
  refine Calls.mono (rrtake_fl (dS2 b) q w8 HD8.out.i T3 HT3.out) ?_
  rintro e w9 ⟨rfl, hi9, ht9⟩
  have hD9 := HD8.out.turn ht9 (show RSt w9 q b A c (dS3 b) by rw [dS3]; exact hi9)
  obtain ⟨hDc, _, hth⟩ := hD9.setIn 69 T3 (by rw [comV_length Hl1.out Hl2.out rfl Hz.out.1, Hl3.out]; omega)
  rw [comV_set3 Hl1.out Hl2.out rfl Hl3.out] at hDc
  obtain ⟨w10, hw10⟩ : ∃ z, z = w9.setCells g 69 T3 := ⟨_, rfl⟩
  rw [← hw10] at hDc
  have HD10 := Lib.hid hDc
  have Hw10 := Lib.hid hw10
  have Hth := Lib.hid hth
  clear hDc hth hw10 hD9 hi9 ht9 HD8
  go_upto_region 6 with (first | (refine wpList_store_mid rfl 26 _ _ rfl g 69 T3.toArray rfl rfl Hth.out HTi3.out HT13.out ?_; rw [show T3.toArray.toList = T3 from rfl, ← Hw10.out]))
  clear Hw10 Hth
  go_wp2_with fail
  refine Calls.mono (rnumber_fl q 65536 (dS3 b) w10 HD10.out.i (by omega)) ?_
  rintro e w11 ⟨rfl, hi, ht⟩
  have hD := HD10.out.turn ht hi
  obtain ⟨n1, hnn⟩ : ∃ z, (numS 65536 (dS3 b)).1 = z := ⟨_, rfl⟩
  have hnl : n1 ≤ 65536 := by rw [← hnn]; exact numS_le _ _
  obtain ⟨R1, hR⟩ : ∃ z, rowsS binS (dS3 b) = z := ⟨_, rfl⟩
  have HR := Lib.hid hR
  have hrun : ((numS 65536 (dS3 b)).2.2 = false → runS binS (n1 - 0) ([], (numS 65536 (dS3 b)).2) = R1) ∧ ((numS 65536 (dS3 b)).2.2 = true → R1.2 = (numS 65536 (dS3 b)).2) := by
    have h0 : runS binS n1 ([], (numS 65536 (dS3 b)).2) = R1 := by rw [← hR, ← hnn]; rfl
    refine ⟨fun _ => h0, fun h => ?_⟩
    have h1 := hi.bad h
    rw [h1, runS_bad binS_bad] at h0
    rw [h1, ← h0]
  have Hrun := Lib.hid hrun
  have HD := Lib.hid hD
  rw [hnn]
  clear hi ht hD HD10 hR hrun hnn
  go_upto_block 0 with fail
  go_cut [] (fun wx => ∃ (rb : List BinF) (Ab : Option Addr) (nb cb : Nat), RD w ZL g q b A c (comV ep T1 T2 T3 (.slice Ab nb cb) Z0 (.slice none 0 0)) (dS4 b) wx ∧ Hid (BRow wx (g + 1) (.slice Ab nb cb) rb) ∧ Hid ((dS4 b).2 = false → rb = R1.1))
  case first =>
    go_wp2_with fail
    go_loopw [7] (fun i wr => ∃ (k : Nat) (rows : List BinF) (s1 : St) (Av : Option Addr) (nv cv : Nat), k ≤ n1 ∧ i = .int .u64 k ∧ RD w ZL g q b A c (comV ep T1 T2 T3 (.slice Av nv cv) Z0 (.slice none 0 0)) s1 wr ∧ Hid (BRow wr (g + 1) (.slice Av nv cv) rows) ∧ Hid ((s1.2 = false → runS binS (n1 - k) (rows, s1) = R1) ∧ (s1.2 = true → R1.2 = s1)) ∧ Hid (rows.length = k)) (fun i _ => n1 - (Go.RowKit.intOf i).toNat)
    case atStart => exact ⟨0, [], _, none, 0, 0, Nat.zero_le _, rfl, HD.out, Lib.hid (BRow.nil _ _), Hrun, Lib.hid rfl⟩
    case round =>
      clear HD Hrun
      obtain ⟨k, rows, s1, Av, nv, cv, hk, rfl, hD, Hrow, Hrun, Hlen⟩ := hrel
      have hc2 := hD.i.wrong
      by_cases hlt : k < n1
      · have hd1 : decide ((k : Int) < (n1 : Int)) = true := by simp; omega
        have hd2 : decide (k < n1) = true := decide_eq_true hlt
        obtain ⟨b1, hb1⟩ : ∃ z, s1.2 = z := ⟨_, rfl⟩
        rw [hb1] at hc2
        have Hb1 := Lib.hid hb1
        clear hb1
        cases b1 with
        | false =>
          have hrun := Hrun.out.1 Hb1.out
          rw [show n1 - k = (n1 - (k + 1)) + 1 by omega] at hrun
          unfold runS at hrun
          have Hr := Lib.hid hrun
          have HD := Lib.hid hD
          have hB0 := hD.le
          have hqg : q < g + 1 := by have := Hdd.out; omega
          clear hrun Hrun hD
          obtain ⟨TL, hTL⟩ : ∃ z, z = bC (binS s1).1 := ⟨_, rfl⟩
          have HTl := Lib.hid (show TL.length = 35 by rw [hTL]; exact bC_length (binS_w s1))
          have HTL := Lib.hid hTL
          have Hbw := Lib.hid (binS_w s1)
          clear hTL
          obtain ⟨s2, hs2⟩ : ∃ z, binS s1 = z := ⟨_, rfl⟩
          have Hs2 := Lib.hid hs2
          clear hs2
          go_upto_region 10 with fail
          refine wp_region_held_drew (S := fun _ => True) (by kernel_rfl) trivial (fun hHeld => ?_)
          have HDd := Lib.hid (HD.out.drewN 1)
          have Hrowd := Lib.hid (Hrow.out.keepUp (Below.upQ (Below.dN (Below.refl wr.heap.size wr) 1)))
          obtain ⟨wd, hwd⟩ : ∃ z, z = wr.drew := ⟨_, rfl⟩
          have Hwd := Lib.hid hwd
          clear hwd hc2
          refine anyH_take (i := 0) (v := .pointer (some ⟨g, 103, none⟩)) (some 38) rfl rfl (by kernel_rfl) (by kernel_rfl) (by kernel_rfl) (fun _ _ _ h => h) (Or.inl ⟨by rfl, fun w' hw => by (go_simp)⟩) (by assumption) ?_
          simp only [Act.put, List.setIfInBounds_toArray, List.set_cons_zero, List.set_cons_succ]
          refine anyH_take (i := 2) (v := .pointer (some ⟨q, 0, none⟩)) (some 40) rfl rfl (by kernel_rfl) (by kernel_rfl) (by kernel_rfl) (fun _ _ _ h => h) (Or.inl ⟨by rfl, fun w' hw => by (go_simp)⟩) (by assumption) ?_
          simp only [Act.put, List.setIfInBounds_toArray, List.set_cons_zero, List.set_cons_succ]
          change wpAnyH _ _ _ _ _ _ _ _ wr.drew
          rw [← Hwd.out]
          have HDw := Lib.hid (show RD w ZL g q b A c (comV ep T1 T2 T3 (.slice Av nv cv) Z0 (.slice none 0 0)) s1 wd by rw [Hwd.out]; exact HDd.out)
          have Hroww := Lib.hid (show BRow wd (g + 1) (.slice Av nv cv) rows by rw [Hwd.out]; exact Hrowd.out)
          clear HDd Hrowd Hwd HD Hrow
          refine wpAnyH_ready (rs := [1, 3]) (by kernel_rfl) (by simp) ?_
          refine AllReadyH.cons rfl (fun KC hKC => ?_) (AllReadyH.cons rfl (fun KC hKC => ?_) AllReadyH.nil)
          · have hc21 := (Arr.com HDw.out.x Hl1.out Hl2.out Hl3.out Hz.out.1).bins
            go_simp
            refine hKC.out _ _ trivial (fun _ => ?_)
            clear hKC KC
            try simp only [Act.put, List.setIfInBounds_toArray, List.set_cons_zero, List.set_cons_succ]
            clear hc21
            refine wpAnyH_ready (rs := [3]) (by kernel_rfl) (by simp) ?_
            refine AllReadyH.cons rfl (fun KC hKC => ?_) AllReadyH.nil
            go_simp
            go_at_call 51
            refine Calls.mono (rntake_fl s1 q wd HDw.out.i TL HTL.out) ?_
            rintro e w22 ⟨rfl, hi22, ht22⟩
            have HD22 := Lib.hid (HDw.out.turn ht22 hi22)
            have HR22 := Lib.hid (Hroww.out.keepUp (ht22.upQ (by omega)))
            clear hi22 ht22
            go_wp2_with fail
            refine hKC.out _ _ trivial (fun _ => ?_)
            clear hKC KC
            try simp only [Act.put, List.setIfInBounds_toArray, List.set_cons_zero, List.set_cons_succ]
            refine wpAnyH_ready (rs := [4]) (by kernel_rfl) (by simp) ?_
            refine AllReadyH.cons rfl (fun KC hKC => ?_) AllReadyH.nil
            rw [if_pos (by rfl)]
            refine wp_build_bn (some 42) rfl _ rfl TL HTl.out rfl ?_
            refine hKC.out _ _ trivial (fun _ => ?_)
            clear hKC KC
            try simp only [Act.put, List.setIfInBounds_toArray, List.set_cons_zero, List.set_cons_succ]
            obtain ⟨w23, hw23⟩ : ∃ z, z = w22.alloc (.cells TL.toArray 63) := ⟨_, rfl⟩
            have hb23 : Below w22.heap.size w22 w23 := by rw [hw23]; exact (Below.refl _ _).alloc (Nat.le_refl _) _
            have HN23 := Lib.hid (show Arr w23 w22.heap.size 63 TL by rw [hw23]; exact Arr.new w22 63 TL)
            have HD23 := Lib.hid (HD22.out.below (hb23.mono HD22.out.le))
            have HR23 := Lib.hid (HR22.out.keepUp (Below.upQ hb23))
            have Hw23 := Lib.hid hw23
            clear hw23 hb23
            change wpAnyH _ _ _ _ _ _ _ _ (w22.alloc (.cells TL.toArray 63))
            rw [← Hw23.out]
            obtain ⟨g23, hg23⟩ : ∃ z, z = w22.heap.size := ⟨_, rfl⟩
            have HG23 := Lib.hid (show Arr w23 g23 63 TL by rw [hg23]; exact HN23.out)
            rw [← hg23]
            clear hg23 HN23 Hw23
            refine wpAnyH_ready (rs := [5]) (by kernel_rfl) (by simp) ?_
            refine AllReadyH.cons rfl (fun KC hKC => ?_) AllReadyH.nil
            rw [if_pos (by rfl)]
            refine wp_append_bnR (some 43) rfl _ _ rfl HR23.out HD23.out.le rfl g23 1 rfl s2.1 (by rw [← Hs2.out]; exact Hbw.out) TL (by rw [← Hs2.out]; exact HTL.out) HG23.out (by rw [Hlen.out]; omega) (fun v24 w24 hrow24 hgr24 => ?_)
            have HD24 := Lib.hid (HD23.out.below ((Below.refl (g + 1) w23).grown hgr24 HD23.out.le (fun j hj => by have := (HR23.out.lt j hj).1; omega)))
            obtain ⟨A24, c24, rfl, _, _, _⟩ := hrow24.slice
            obtain ⟨m24, hm24⟩ : ∃ z, (rows ++ [s2.1]).length = z := ⟨_, rfl⟩
            rw [hm24] at hrow24 ⊢
            have HR24 := Lib.hid hrow24
            clear hrow24 hgr24 hm24
            refine hKC.out _ _ trivial (fun _ => ?_)
            clear hKC KC
            try simp only [Act.put, List.setIfInBounds_toArray, List.set_cons_zero, List.set_cons_succ]
            refine anyH_take (i := 6) (v := .pointer (some ⟨g, 103, none⟩)) (some 44) rfl rfl (by kernel_rfl) (by kernel_rfl) (by kernel_rfl) (fun _ _ _ h => h) (Or.inl ⟨by rfl, fun w' hw => by (go_simp)⟩) (by assumption) ?_
            simp only [Act.put, List.setIfInBounds_toArray, List.set_cons_zero, List.set_cons_succ]
            refine wpAnyH_ready (rs := [7]) (by kernel_rfl) (by simp) ?_
            refine AllReadyH.cons rfl (fun KC hKC => ?_) AllReadyH.nil
            have hc25 := (Arr.com HD24.out.x Hl1.out Hl2.out Hl3.out Hz.out.1).bins
            have hf25 := HD24.out.x.frozen 103
            obtain ⟨hD25, hO25⟩ := HD24.out.set 103 (.slice A24 m24 c24)
            rw [comV_setB Hl1.out Hl2.out Hl3.out] at hD25
            have HR25 := Lib.hid (HR24.out.keepUp (hO25.upQ (by omega)))
            have HD25 := Lib.hid hD25
            clear hD25 hO25
            go_simp
            refine hKC.out _ _ trivial (fun _ => ?_)
            clear hKC KC
            try simp only [Act.put, List.setIfInBounds_toArray, List.set_cons_zero, List.set_cons_succ]
            clear hc25 hf25
            obtain ⟨w25, hw25⟩ : ∃ z, z = w24.setCell ⟨g, 103, none⟩ (.slice A24 m24 c24) := ⟨_, rfl⟩
            rw [← hw25] at HR25 HD25
            change wpAnyH _ _ _ _ _ _ _ _ (w24.setCell ⟨g, 103, none⟩ (.slice A24 m24 c24))
            rw [← hw25]
            clear hw25
            refine wpAnyH_done (by kernel_rfl) ?_ _
            have Hlen2 := Lib.hid (show (rows ++ [s2.1]).length = k + 1 by rw [List.length_append, Hlen.out]; rfl)
            have Hrun2 := Lib.hid (show (s2.2.2 = false → runS binS (n1 - (k + 1)) (rows ++ [s2.1], s2.2) = R1) ∧ (s2.2.2 = true → R1.2 = s2.2) by
              have h := Hr.out
              try dsimp only at h
              rw [Hs2.out] at h
              refine ⟨fun e => ?_, fun e => ?_⟩
              · rw [if_neg (by rw [e]; simp)] at h; exact h
              · rw [if_pos e] at h; rw [← h])
            have HDe := Lib.hid (show RD w ZL g q b A c (comV ep T1 T2 T3 (.slice A24 m24 c24) Z0 (.slice none 0 0)) s2.2 w25 by rw [← Hs2.out]; exact HD25.out)
            clear hHeld
            go_wp2_with fail
            go_roundw
            case rel => exact ⟨k + 1, _, s2.2, _, _, _, by omega, by go_num, HDe.out, HR25, Hrun2, Hlen2⟩
            case measure => simp [Go.RowKit.intOf]; omega
          · go_simp
            go_at_call 51
            refine Calls.mono (rntake_fl s1 q wd HDw.out.i TL HTL.out) ?_
            rintro e w26 ⟨rfl, hi26, ht26⟩
            have HD26 := Lib.hid (HDw.out.turn ht26 hi26)
            have HR26 := Lib.hid (Hroww.out.keepUp (ht26.upQ (by omega)))
            clear hi26 ht26
            go_wp2_with fail
            refine hKC.out _ _ trivial (fun _ => ?_)
            clear hKC KC
            try simp only [Act.put, List.setIfInBounds_toArray, List.set_cons_zero, List.set_cons_succ]
            refine wpAnyH_ready (rs := [1, 4]) (by kernel_rfl) (by simp) ?_
            refine AllReadyH.cons rfl (fun KC hKC => ?_) (AllReadyH.cons rfl (fun KC hKC => ?_) AllReadyH.nil)
            · have hc27 := (Arr.com HD26.out.x Hl1.out Hl2.out Hl3.out Hz.out.1).bins
              go_simp
              refine hKC.out _ _ trivial (fun _ => ?_)
              clear hKC KC
              try simp only [Act.put, List.setIfInBounds_toArray, List.set_cons_zero, List.set_cons_succ]
              clear hc27
              refine wpAnyH_ready (rs := [4]) (by kernel_rfl) (by simp) ?_
              refine AllReadyH.cons rfl (fun KC hKC => ?_) AllReadyH.nil
              rw [if_pos (by rfl)]
              refine wp_build_bn (some 42) rfl _ rfl TL HTl.out rfl ?_
              refine hKC.out _ _ trivial (fun _ => ?_)
              clear hKC KC
              try simp only [Act.put, List.setIfInBounds_toArray, List.set_cons_zero, List.set_cons_succ]
              obtain ⟨w28, hw28⟩ : ∃ z, z = w26.alloc (.cells TL.toArray 63) := ⟨_, rfl⟩
              have hb28 : Below w26.heap.size w26 w28 := by rw [hw28]; exact (Below.refl _ _).alloc (Nat.le_refl _) _
              have HN28 := Lib.hid (show Arr w28 w26.heap.size 63 TL by rw [hw28]; exact Arr.new w26 63 TL)
              have HD28 := Lib.hid (HD26.out.below (hb28.mono HD26.out.le))
              have HR28 := Lib.hid (HR26.out.keepUp (Below.upQ hb28))
              have Hw28 := Lib.hid hw28
              clear hw28 hb28
              change wpAnyH _ _ _ _ _ _ _ _ (w26.alloc (.cells TL.toArray 63))
              rw [← Hw28.out]
              obtain ⟨g28, hg28⟩ : ∃ z, z = w26.heap.size := ⟨_, rfl⟩
              have HG28 := Lib.hid (show Arr w28 g28 63 TL by rw [hg28]; exact HN28.out)
              rw [← hg28]
              clear hg28 HN28 Hw28
              refine wpAnyH_ready (rs := [5]) (by kernel_rfl) (by simp) ?_
              refine AllReadyH.cons rfl (fun KC hKC => ?_) AllReadyH.nil
              rw [if_pos (by rfl)]
              refine wp_append_bnR (some 43) rfl _ _ rfl HR28.out HD28.out.le rfl g28 1 rfl s2.1 (by rw [← Hs2.out]; exact Hbw.out) TL (by rw [← Hs2.out]; exact HTL.out) HG28.out (by rw [Hlen.out]; omega) (fun v29 w29 hrow29 hgr29 => ?_)
              have HD29 := Lib.hid (HD28.out.below ((Below.refl (g + 1) w28).grown hgr29 HD28.out.le (fun j hj => by have := (HR28.out.lt j hj).1; omega)))
              obtain ⟨A29, c29, rfl, _, _, _⟩ := hrow29.slice
              obtain ⟨m29, hm29⟩ : ∃ z, (rows ++ [s2.1]).length = z := ⟨_, rfl⟩
              rw [hm29] at hrow29 ⊢
              have HR29 := Lib.hid hrow29
              clear hrow29 hgr29 hm29
              refine hKC.out _ _ trivial (fun _ => ?_)
              clear hKC KC
              try simp only [Act.put, List.setIfInBounds_toArray, List.set_cons_zero, List.set_cons_succ]
              refine anyH_take (i := 6) (v := .pointer (some ⟨g, 103, none⟩)) (some 44) rfl rfl (by kernel_rfl) (by kernel_rfl) (by kernel_rfl) (fun _ _ _ h => h) (Or.inl ⟨by rfl, fun w' hw => by (go_simp)⟩) (by assumption) ?_
              simp only [Act.put, List.setIfInBounds_toArray, List.set_cons_zero, List.set_cons_succ]
              refine wpAnyH_ready (rs := [7]) (by kernel_rfl) (by simp) ?_
              refine AllReadyH.cons rfl (fun KC hKC => ?_) AllReadyH.nil
              have hc30 := (Arr.com HD29.out.x Hl1.out Hl2.out Hl3.out Hz.out.1).bins
              have hf30 := HD29.out.x.frozen 103
              obtain ⟨hD30, hO30⟩ := HD29.out.set 103 (.slice A29 m29 c29)
              rw [comV_setB Hl1.out Hl2.out Hl3.out] at hD30
              have HR30 := Lib.hid (HR29.out.keepUp (hO30.upQ (by omega)))
              have HD30 := Lib.hid hD30
              clear hD30 hO30
              go_simp
              refine hKC.out _ _ trivial (fun _ => ?_)
              clear hKC KC
              try simp only [Act.put, List.setIfInBounds_toArray, List.set_cons_zero, List.set_cons_succ]
              clear hc30 hf30
              obtain ⟨w30, hw30⟩ : ∃ z, z = w29.setCell ⟨g, 103, none⟩ (.slice A29 m29 c29) := ⟨_, rfl⟩
              rw [← hw30] at HR30 HD30
              change wpAnyH _ _ _ _ _ _ _ _ (w29.setCell ⟨g, 103, none⟩ (.slice A29 m29 c29))
              rw [← hw30]
              clear hw30
              refine wpAnyH_done (by kernel_rfl) ?_ _
              have Hlen2 := Lib.hid (show (rows ++ [s2.1]).length = k + 1 by rw [List.length_append, Hlen.out]; rfl)
              have Hrun2 := Lib.hid (show (s2.2.2 = false → runS binS (n1 - (k + 1)) (rows ++ [s2.1], s2.2) = R1) ∧ (s2.2.2 = true → R1.2 = s2.2) by
                have h := Hr.out
                try dsimp only at h
                rw [Hs2.out] at h
                refine ⟨fun e => ?_, fun e => ?_⟩
                · rw [if_neg (by rw [e]; simp)] at h; exact h
                · rw [if_pos e] at h; rw [← h])
              have HDe := Lib.hid (show RD w ZL g q b A c (comV ep T1 T2 T3 (.slice A29 m29 c29) Z0 (.slice none 0 0)) s2.2 w30 by rw [← Hs2.out]; exact HD30.out)
              clear hHeld
              go_wp2_with fail
              go_roundw
              case rel => exact ⟨k + 1, _, s2.2, _, _, _, by omega, by go_num, HDe.out, HR30, Hrun2, Hlen2⟩
              case measure => simp [Go.RowKit.intOf]; omega
            · rw [if_pos (by rfl)]
              refine wp_build_bn (some 42) rfl _ rfl TL HTl.out rfl ?_
              refine hKC.out _ _ trivial (fun _ => ?_)
              clear hKC KC
              try simp only [Act.put, List.setIfInBounds_toArray, List.set_cons_zero, List.set_cons_succ]
              obtain ⟨w31, hw31⟩ : ∃ z, z = w26.alloc (.cells TL.toArray 63) := ⟨_, rfl⟩
              have hb31 : Below w26.heap.size w26 w31 := by rw [hw31]; exact (Below.refl _ _).alloc (Nat.le_refl _) _
              have HN31 := Lib.hid (show Arr w31 w26.heap.size 63 TL by rw [hw31]; exact Arr.new w26 63 TL)
              have HD31 := Lib.hid (HD26.out.below (hb31.mono HD26.out.le))
              have HR31 := Lib.hid (HR26.out.keepUp (Below.upQ hb31))
              have Hw31 := Lib.hid hw31
              clear hw31 hb31
              change wpAnyH _ _ _ _ _ _ _ _ (w26.alloc (.cells TL.toArray 63))
              rw [← Hw31.out]
              obtain ⟨g31, hg31⟩ : ∃ z, z = w26.heap.size := ⟨_, rfl⟩
              have HG31 := Lib.hid (show Arr w31 g31 63 TL by rw [hg31]; exact HN31.out)
              rw [← hg31]
              clear hg31 HN31 Hw31
              refine wpAnyH_ready (rs := [1]) (by kernel_rfl) (by simp) ?_
              refine AllReadyH.cons rfl (fun KC hKC => ?_) AllReadyH.nil
              have hc32 := (Arr.com HD31.out.x Hl1.out Hl2.out Hl3.out Hz.out.1).bins
              go_simp
              refine hKC.out _ _ trivial (fun _ => ?_)
              clear hKC KC
              try simp only [Act.put, List.setIfInBounds_toArray, List.set_cons_zero, List.set_cons_succ]
              clear hc32
              refine wpAnyH_ready (rs := [5]) (by kernel_rfl) (by simp) ?_
              refine AllReadyH.cons rfl (fun KC hKC => ?_) AllReadyH.nil
              rw [if_pos (by rfl)]
              refine wp_append_bnR (some 43) rfl _ _ rfl HR31.out HD31.out.le rfl g31 1 rfl s2.1 (by rw [← Hs2.out]; exact Hbw.out) TL (by rw [← Hs2.out]; exact HTL.out) HG31.out (by rw [Hlen.out]; omega) (fun v33 w33 hrow33 hgr33 => ?_)
              have HD33 := Lib.hid (HD31.out.below ((Below.refl (g + 1) w31).grown hgr33 HD31.out.le (fun j hj => by have := (HR31.out.lt j hj).1; omega)))
              obtain ⟨A33, c33, rfl, _, _, _⟩ := hrow33.slice
              obtain ⟨m33, hm33⟩ : ∃ z, (rows ++ [s2.1]).length = z := ⟨_, rfl⟩
              rw [hm33] at hrow33 ⊢
              have HR33 := Lib.hid hrow33
              clear hrow33 hgr33 hm33
              refine hKC.out _ _ trivial (fun _ => ?_)
              clear hKC KC
              try simp only [Act.put, List.setIfInBounds_toArray, List.set_cons_zero, List.set_cons_succ]
              refine anyH_take (i := 6) (v := .pointer (some ⟨g, 103, none⟩)) (some 44) rfl rfl (by kernel_rfl) (by kernel_rfl) (by kernel_rfl) (fun _ _ _ h => h) (Or.inl ⟨by rfl, fun w' hw => by (go_simp)⟩) (by assumption) ?_
              simp only [Act.put, List.setIfInBounds_toArray, List.set_cons_zero, List.set_cons_succ]
              refine wpAnyH_ready (rs := [7]) (by kernel_rfl) (by simp) ?_
              refine AllReadyH.cons rfl (fun KC hKC => ?_) AllReadyH.nil
              have hc34 := (Arr.com HD33.out.x Hl1.out Hl2.out Hl3.out Hz.out.1).bins
              have hf34 := HD33.out.x.frozen 103
              obtain ⟨hD34, hO34⟩ := HD33.out.set 103 (.slice A33 m33 c33)
              rw [comV_setB Hl1.out Hl2.out Hl3.out] at hD34
              have HR34 := Lib.hid (HR33.out.keepUp (hO34.upQ (by omega)))
              have HD34 := Lib.hid hD34
              clear hD34 hO34
              go_simp
              refine hKC.out _ _ trivial (fun _ => ?_)
              clear hKC KC
              try simp only [Act.put, List.setIfInBounds_toArray, List.set_cons_zero, List.set_cons_succ]
              clear hc34 hf34
              obtain ⟨w34, hw34⟩ : ∃ z, z = w33.setCell ⟨g, 103, none⟩ (.slice A33 m33 c33) := ⟨_, rfl⟩
              rw [← hw34] at HR34 HD34
              change wpAnyH _ _ _ _ _ _ _ _ (w33.setCell ⟨g, 103, none⟩ (.slice A33 m33 c33))
              rw [← hw34]
              clear hw34
              refine wpAnyH_done (by kernel_rfl) ?_ _
              have Hlen2 := Lib.hid (show (rows ++ [s2.1]).length = k + 1 by rw [List.length_append, Hlen.out]; rfl)
              have Hrun2 := Lib.hid (show (s2.2.2 = false → runS binS (n1 - (k + 1)) (rows ++ [s2.1], s2.2) = R1) ∧ (s2.2.2 = true → R1.2 = s2.2) by
                have h := Hr.out
                try dsimp only at h
                rw [Hs2.out] at h
                refine ⟨fun e => ?_, fun e => ?_⟩
                · rw [if_neg (by rw [e]; simp)] at h; exact h
                · rw [if_pos e] at h; rw [← h])
              have HDe := Lib.hid (show RD w ZL g q b A c (comV ep T1 T2 T3 (.slice A33 m33 c33) Z0 (.slice none 0 0)) s2.2 w34 by rw [← Hs2.out]; exact HD34.out)
              clear hHeld
              go_wp2_with fail
              go_roundw
              case rel => exact ⟨k + 1, _, s2.2, _, _, _, by omega, by go_num, HDe.out, HR34, Hrun2, Hlen2⟩
              case measure => simp [Go.RowKit.intOf]; omega
        | true =>
          have Hend := Lib.hid (show R1.2 = s1 ∧ (s1.2 = false → R1.1 = rows) from ⟨Hrun.out.2 Hb1.out, fun h => by rw [Hb1.out] at h; cases h⟩)
          have HD := Lib.hid hD
          clear Hrun hD
          go_wp2_with fail
          go_meet
          have hse : s1 = dS4 b := by rw [dS4, HR.out]; exact Hend.out.1.symm
          exact ⟨rows, Av, nv, cv, by rw [← hse]; exact HD.out, Hrow, Lib.hid (by rw [← hse]; exact fun h => (Hend.out.2 h).symm)⟩
      · obtain rfl : k = n1 := by omega
        have hd1 : decide ((k : Int) < (k : Int)) = false := by simp
        have hd2 : decide (k < k) = false := by simp
        have Hend := Lib.hid (show R1.2 = s1 ∧ (s1.2 = false → R1.1 = rows) by
          have h0 := Hrun.out
          rw [Nat.sub_self] at h0
          cases hb : s1.2 with
          | false => have h1 := h0.1 hb; rw [← h1]; exact ⟨rfl, fun _ => rfl⟩
          | true => exact ⟨h0.2 hb, fun h => (by cases h)⟩)
        have HD := Lib.hid hD
        clear Hrun hD
        go_wp2_with fail
        go_meet
        have hse : s1 = dS4 b := by rw [dS4, HR.out]; exact Hend.out.1.symm
        exact ⟨rows, Av, nv, cv, by rw [← hse]; exact HD.out, Hrow, Lib.hid (by rw [← hse]; exact fun h => (Hend.out.2 h).symm)⟩
  case rest =>
  obtain ⟨rb, Ab, nb, cb, hD12, HBr12, Hbe⟩ := hcut
  have HR1 := HR
  obtain ⟨w12, hw12⟩ : ∃ z, z = wc := ⟨_, rfl⟩
  rw [← hw12] at hD12 HBr12 ⊢
  have HD12 := Lib.hid hD12
  clear hw12 hD12 Hrun HD HR
  obtain ⟨SL, hSL⟩ : ∃ z, z = Lib.byteCells (digS (dS4 b)).1 := ⟨_, rfl⟩
  have hSl : SL.length = 32 := by rw [hSL, Lib.byteCells_length]; exact digS_length _
  have HSi := Lib.hid (show (Try.prog.info? 24).map (·.size) = some SL.toArray.size by rw [List.size_toArray, hSl]; exact digInfo)
  have HS1 := Lib.hid (show SL.toArray.all (·.oneCell') = true by rw [hSL]; exact dig_one _)
  have HSL0 := Lib.hid hSl
  have HSLe := Lib.hid hSL
  have Hdig := Lib.hid (show Calls Try.prog 52 #[.pointer (some ⟨q, 0, none⟩)] w12 fun e w' => e = .returned (.agg SL.toArray) ∧ RSt w' q b A c (digS (dS4 b)).2 ∧ Turn q w12 w' by rw [hSL]; exact rdigest_fl q (dS4 b) w12 HD12.out.i)
  clear hSL
  have HSL := HSL0
  go_wp2_with fail
  refine Calls.mono Hdig.out ?_
  rintro e w12b ⟨rfl, hi, ht⟩
  have hD := HD12.out.turn ht (show RSt w12b q b A c (dS5 b) by rw [dS5]; exact hi)
  have hBr := HBr12.out.keepUp (ht.upQ (by have := Hdd.out; omega))
  obtain ⟨hDc, hO, hth⟩ := hD.setIn 104 SL (by rw [comV_length Hl1.out Hl2.out Hl3.out Hz.out.1, HSL.out]; omega)
  rw [comV_setS Hl1.out Hl2.out Hl3.out Hz.out.1 HSL.out] at hDc
  have hBr2 := hBr.keepUp (hO.upQ (Nat.lt_succ_self g))
  obtain ⟨w13, hw13⟩ : ∃ z, z = w12b.setCells g 104 SL := ⟨_, rfl⟩
  rw [← hw13] at hDc hBr2
  have HD13 := Lib.hid hDc
  have HBr := Lib.hid hBr2
  have Hw13 := Lib.hid hw13
  have Hth := Lib.hid hth
  clear hDc hBr hBr2 hO hth hw13 hD hi ht HD12 HBr12 Hdig hSl
  go_upto_region 12 with (first | (refine wpList_store_mid rfl 24 _ _ rfl g 104 SL.toArray rfl rfl Hth.out HSi.out HS1.out ?_; rw [show SL.toArray.toList = SL from rfl, ← Hw13.out]))
  clear Hw13 Hth
  go_wp2_with fail
  refine Calls.mono (rnumber_fl q 65536 (dS5 b) w13 HD13.out.i (by omega)) ?_
  rintro e w14 ⟨rfl, hi, ht⟩
  have hD := HD13.out.turn ht hi
  obtain ⟨n2, hnn⟩ : ∃ z, (numS 65536 (dS5 b)).1 = z := ⟨_, rfl⟩
  have hnl : n2 ≤ 65536 := by rw [← hnn]; exact numS_le _ _
  obtain ⟨R2, hR⟩ : ∃ z, rowsS evS (dS5 b) = z := ⟨_, rfl⟩
  have HR := Lib.hid hR
  have hrun : ((numS 65536 (dS5 b)).2.2 = false → runS evS (n2 - 0) ([], (numS 65536 (dS5 b)).2) = R2) ∧ ((numS 65536 (dS5 b)).2.2 = true → R2.2 = (numS 65536 (dS5 b)).2) := by
    have h0 : runS evS n2 ([], (numS 65536 (dS5 b)).2) = R2 := by rw [← hR, ← hnn]; rfl
    refine ⟨fun _ => h0, fun h => ?_⟩
    have h1 := hi.bad h
    rw [h1, runS_bad evS_bad] at h0
    rw [h1, ← h0]
  have Hrun := Lib.hid hrun
  have HD := Lib.hid hD
  have hbr0 := HBr.out.keepUp (ht.upQ (by have := Hdd.out; omega))
  obtain ⟨B2, hB2⟩ : ∃ z, z = w14.heap.size := ⟨_, rfl⟩
  have hz0 : B2 ≤ w14.heap.size := Nat.le_of_eq hB2
  have hgB2 : g + 1 ≤ B2 := by rw [hB2]; exact hD.le
  have Hbl := Lib.hid (show ∀ j, (Value.slice Ab nb cb).ownBlock = some j → j < B2 from fun j hj => by rw [hB2]; exact (hbr0.lt j hj).2)
  have Hbr := Lib.hid hbr0
  clear hB2 hbr0
  rw [hnn]
  clear hi ht hD HD13 hR hrun hnn HBr
  go_upto_block 2 with fail
  go_cut [] (fun wx => ∃ (re : List (List UInt8)) (Ae : Option Addr) (ne ce : Nat), RD w ZL g q b A c (comV ep T1 T2 T3 (.slice Ab nb cb) SL (.slice Ae ne ce)) (dS6 b) wx ∧ Hid (BRow wx (g + 1) (.slice Ab nb cb) rb) ∧ Hid (∃ B2, QRow wx B2 (.slice Ae ne ce) re ∧ g + 1 ≤ B2) ∧ Hid ((dS6 b).2 = false → re = R2.1))
  case first =>
    go_wp2_with fail
    go_loopw [8] (fun i wr => ∃ (k : Nat) (rows : List (List UInt8)) (s1 : St) (Av : Option Addr) (nv cv : Nat), k ≤ n2 ∧ i = .int .u64 k ∧ RD w ZL g q b A c (comV ep T1 T2 T3 (.slice Ab nb cb) SL (.slice Av nv cv)) s1 wr ∧ Hid (QRow wr B2 (.slice Av nv cv) rows) ∧ Hid ((s1.2 = false → runS evS (n2 - k) (rows, s1) = R2) ∧ (s1.2 = true → R2.2 = s1)) ∧ Hid (rows.length = k) ∧ Hid (BRow wr (g + 1) (.slice Ab nb cb) rb) ∧ B2 ≤ wr.heap.size) (fun i _ => n2 - (Go.RowKit.intOf i).toNat)
    case atStart => exact ⟨0, [], _, none, 0, 0, Nat.zero_le _, rfl, HD.out, Lib.hid (QRow.nil _ _), Hrun, Lib.hid rfl, Hbr, hz0⟩
    case round =>
      clear HD Hrun Hbr hz0
      obtain ⟨k, rows, s1, Av, nv, cv, hk, rfl, hD, Hrow, Hrun, Hlen, Hbr2, hzr⟩ := hrel
      have hc2 := hD.i.wrong
      by_cases hlt : k < n2
      · have hd1 : decide ((k : Int) < (n2 : Int)) = true := by simp; omega
        have hd2 : decide (k < n2) = true := decide_eq_true hlt
        obtain ⟨b1, hb1⟩ : ∃ z, s1.2 = z := ⟨_, rfl⟩
        rw [hb1] at hc2
        have Hb1 := Lib.hid hb1
        clear hb1
        cases b1 with
        | false =>
          have hrun := Hrun.out.1 Hb1.out
          rw [show n2 - k = (n2 - (k + 1)) + 1 by omega] at hrun
          unfold runS at hrun
          have Hr := Lib.hid hrun
          have HD := Lib.hid hD
          have hB0 := hD.le
          have hqg : q < g + 1 := by have := Hdd.out; omega
          clear hrun Hrun hD
          obtain ⟨s2, hs2⟩ : ∃ z, evS s1 = z := ⟨_, rfl⟩
          have Hs2 := Lib.hid hs2
          clear hs2
          go_upto_region 16 with fail
          refine wp_region_held_drew (S := fun _ => True) (by kernel_rfl) trivial (fun hHeld => ?_)
          have HDd := Lib.hid (HD.out.drewN 1)
          have Hrowd := Lib.hid (Hrow.out.keepUp (Below.upQ (Below.dN (Below.refl wr.heap.size wr) 1)))
          have Hbrd := Lib.hid (Hbr2.out.keepUp (Below.upQ (Below.dN (Below.refl wr.heap.size wr) 1)))
          obtain ⟨wd, hwd⟩ : ∃ z, z = wr.drew := ⟨_, rfl⟩
          have Hwd := Lib.hid hwd
          clear hwd hc2
          refine anyH_take (i := 0) (v := .pointer (some ⟨g, 136, none⟩)) (some 62) rfl rfl (by kernel_rfl) (by kernel_rfl) (by kernel_rfl) (fun _ _ _ h => h) (Or.inl ⟨by rfl, fun w' hw => by (go_simp)⟩) (by assumption) ?_
          simp only [Act.put, List.setIfInBounds_toArray, List.set_cons_zero, List.set_cons_succ]
          refine anyH_take (i := 2) (v := .pointer (some ⟨q, 0, none⟩)) (some 64) rfl rfl (by kernel_rfl) (by kernel_rfl) (by kernel_rfl) (fun _ _ _ h => h) (Or.inl ⟨by rfl, fun w' hw => by (go_simp)⟩) (by assumption) ?_
          simp only [Act.put, List.setIfInBounds_toArray, List.set_cons_zero, List.set_cons_succ]
          change wpAnyH _ _ _ _ _ _ _ _ wr.drew
          rw [← Hwd.out]
          have HDw := Lib.hid (show RD w ZL g q b A c (comV ep T1 T2 T3 (.slice Ab nb cb) SL (.slice Av nv cv)) s1 wd by rw [Hwd.out]; exact HDd.out)
          have Hroww := Lib.hid (show QRow wd B2 (.slice Av nv cv) rows by rw [Hwd.out]; exact Hrowd.out)
          have hzw : B2 ≤ wd.heap.size := by rw [Hwd.out]; exact hzr
          have Hbrw := Lib.hid (show BRow wd (g + 1) (.slice Ab nb cb) rb by rw [Hwd.out]; exact Hbrd.out)
          clear HDd Hrowd Hwd HD Hrow Hbrd Hbr2
          refine wpAnyH_ready (rs := [1, 3]) (by kernel_rfl) (by simp) ?_
          refine AllReadyH.cons rfl (fun KC hKC => ?_) (AllReadyH.cons rfl (fun KC hKC => ?_) AllReadyH.nil)
          · have hc61 := (Arr.com HDw.out.x Hl1.out Hl2.out Hl3.out HSL.out).evs
            go_simp
            refine hKC.out _ _ trivial (fun _ => ?_)
            clear hKC KC
            try simp only [Act.put, List.setIfInBounds_toArray, List.set_cons_zero, List.set_cons_succ]
            clear hc61
            refine wpAnyH_ready (rs := [3]) (by kernel_rfl) (by simp) ?_
            refine AllReadyH.cons rfl (fun KC hKC => ?_) AllReadyH.nil
            go_simp
            go_at_call 53
            refine Calls.mono (rbytes_fl q s1 wd HDw.out.i) ?_
            rintro e w62 ⟨A2, c2, rfl, h2c, h2m, h2b, h2l, hi62, ht62⟩
            rw [Hs2.out] at h2c h2b ⊢
            obtain ⟨m2, hm2⟩ : ∃ z, s2.1.length = z := ⟨_, rfl⟩
            rw [hm2] at h2c ⊢
            have Hm2 := Lib.hid hm2
            have H2b := Lib.hid h2b
            have H2l := Lib.hid (show ∀ a : Addr, A2 = some a → 0 < s2.1.length → B2 ≤ a.block ∧ (Value.slice Av nv cv).ownBlock ≠ some a.block from fun a e _ => ⟨Nat.le_trans hzw (h2l a e), fun e2 => by have := (Hroww.out.lt _ e2).2; have := h2l a e; omega⟩)
            have h2m' : c2 ≤ 9223372036854775807 := by unfold maxLen at h2m; omega
            clear hm2 h2b h2l
            have HD62 := Lib.hid (HDw.out.turn ht62 hi62)
            have HR62 := Lib.hid (Hroww.out.keepUp (ht62.upQ (by omega)))
            have HB62 := Lib.hid (Hbrw.out.keepUp (ht62.upQ hqg))
            have hz62 := Nat.le_trans hzw ht62.size
            clear hi62 ht62
            go_wp2_with fail
            refine hKC.out _ _ trivial (fun _ => ?_)
            clear hKC KC
            try simp only [Act.put, List.setIfInBounds_toArray, List.set_cons_zero, List.set_cons_succ]
            refine wpAnyH_ready (rs := [4]) (by kernel_rfl) (by simp) ?_
            refine AllReadyH.cons rfl (fun KC hKC => ?_) AllReadyH.nil
            go_simp
            refine hKC.out _ _ trivial (fun _ => ?_)
            clear hKC KC
            try simp only [Act.put, List.setIfInBounds_toArray, List.set_cons_zero, List.set_cons_succ]
            obtain ⟨w63, hw63⟩ : ∃ z, z = w62.alloc (.cells #[.slice A2 m2 c2] 33) := ⟨_, rfl⟩
            have hb63 : Below w62.heap.size w62 w63 := by rw [hw63]; exact (Below.refl _ _).alloc (Nat.le_refl _) _
            have HN63 := Lib.hid (show Arr w63 w62.heap.size 33 [.slice A2 m2 c2] by rw [hw63]; exact Arr.new w62 33 [.slice A2 m2 c2])
            have HD63 := Lib.hid (HD62.out.below (hb63.mono HD62.out.le))
            have HR63 := Lib.hid (HR62.out.keepUp (Below.upQ hb63))
            have HB63 := Lib.hid (HB62.out.keepUp (Below.upQ hb63))
            have H2b' := Lib.hid ((H2b.out.below hb63 (by first | exact Nat.le_refl _ | omega)).more hb63.size)
            have hz63 := Nat.le_trans hz62 hb63.size
            have Hw63 := Lib.hid hw63
            clear hw63 hb63
            change wpAnyH _ _ _ _ _ _ _ _ (w62.alloc (.cells #[.slice A2 m2 c2] 33))
            rw [← Hw63.out]
            obtain ⟨g63, hg63⟩ : ∃ z, z = w62.heap.size := ⟨_, rfl⟩
            have HG63 := Lib.hid (show Arr w63 g63 33 [.slice A2 m2 c2] by rw [hg63]; exact HN63.out)
            rw [← hg63]
            clear hg63 HN63 Hw63
            refine wpAnyH_ready (rs := [5]) (by kernel_rfl) (by simp) ?_
            refine AllReadyH.cons rfl (fun KC hKC => ?_) AllReadyH.nil
            rw [if_pos (by rfl)]
            refine wp_append_evR (some 67) rfl _ _ rfl HR63.out hz63 rfl g63 1 rfl s2.1 A2 m2 c2 Hm2.out h2c h2m H2b'.out H2l.out HG63.out (by rw [Hlen.out]; omega) (fun v64 w64 hrow64 hgr64 => ?_)
            have HD64 := Lib.hid (HD63.out.below ((Below.refl (g + 1) w63).grown hgr64 HD63.out.le (fun j hj => by have := (HR63.out.lt j hj).1; omega)))
            have HB64 := Lib.hid (HB63.out.belowB ((Below.refl B2 w63).grown hgr64 hz63 (fun j hj => (HR63.out.lt j hj).1)) Hbl.out)
            have hz64 := Nat.le_trans hz63 hgr64.size
            obtain ⟨A64, c64, rfl, _, _, _⟩ := hrow64.rows
            obtain ⟨m64, hm64⟩ : ∃ z, (rows ++ [s2.1]).length = z := ⟨_, rfl⟩
            rw [hm64] at hrow64 ⊢
            have HR64 := Lib.hid hrow64
            clear hrow64 hgr64 hm64
            refine hKC.out _ _ trivial (fun _ => ?_)
            clear hKC KC
            try simp only [Act.put, List.setIfInBounds_toArray, List.set_cons_zero, List.set_cons_succ]
            refine anyH_take (i := 6) (v := .pointer (some ⟨g, 136, none⟩)) (some 68) rfl rfl (by kernel_rfl) (by kernel_rfl) (by kernel_rfl) (fun _ _ _ h => h) (Or.inl ⟨by rfl, fun w' hw => by (go_simp)⟩) (by assumption) ?_
            simp only [Act.put, List.setIfInBounds_toArray, List.set_cons_zero, List.set_cons_succ]
            refine wpAnyH_ready (rs := [7]) (by kernel_rfl) (by simp) ?_
            refine AllReadyH.cons rfl (fun KC hKC => ?_) AllReadyH.nil
            have hc65 := (Arr.com HD64.out.x Hl1.out Hl2.out Hl3.out HSL.out).evs
            have hf65 := HD64.out.x.frozen 136
            obtain ⟨hD65, hO65⟩ := HD64.out.set 136 (.slice A64 m64 c64)
            rw [comV_setE Hl1.out Hl2.out Hl3.out HSL.out] at hD65
            have HR65 := Lib.hid (HR64.out.keepUp (hO65.upQ (by omega)))
            have HB65 := Lib.hid (HB64.out.keepUp (hO65.upQ (Nat.lt_succ_self g)))
            have hz65 := Nat.le_trans hz64 hO65.size
            have HD65 := Lib.hid hD65
            clear hD65 hO65
            go_simp
            refine hKC.out _ _ trivial (fun _ => ?_)
            clear hKC KC
            try simp only [Act.put, List.setIfInBounds_toArray, List.set_cons_zero, List.set_cons_succ]
            clear hc65 hf65
            obtain ⟨w65, hw65⟩ : ∃ z, z = w64.setCell ⟨g, 136, none⟩ (.slice A64 m64 c64) := ⟨_, rfl⟩
            rw [← hw65] at HR65 HD65 HB65 hz65
            change wpAnyH _ _ _ _ _ _ _ _ (w64.setCell ⟨g, 136, none⟩ (.slice A64 m64 c64))
            rw [← hw65]
            clear hw65
            refine wpAnyH_done (by kernel_rfl) ?_ _
            have Hlen2 := Lib.hid (show (rows ++ [s2.1]).length = k + 1 by rw [List.length_append, Hlen.out]; rfl)
            have Hrun2 := Lib.hid (show (s2.2.2 = false → runS evS (n2 - (k + 1)) (rows ++ [s2.1], s2.2) = R2) ∧ (s2.2.2 = true → R2.2 = s2.2) by
              have h := Hr.out
              try dsimp only at h
              rw [Hs2.out] at h
              refine ⟨fun e => ?_, fun e => ?_⟩
              · rw [if_neg (by rw [e]; simp)] at h; exact h
              · rw [if_pos e] at h; rw [← h])
            have HDe := Lib.hid (show RD w ZL g q b A c (comV ep T1 T2 T3 (.slice Ab nb cb) SL (.slice A64 m64 c64)) s2.2 w65 by rw [← Hs2.out]; exact HD65.out)
            clear hHeld
            go_wp2_with fail
            go_roundw
            case rel => exact ⟨k + 1, _, s2.2, _, _, _, by omega, by go_num, HDe.out, HR65, Hrun2, Hlen2, HB65, hz65⟩
            case measure => simp [Go.RowKit.intOf]; omega
          · go_simp
            go_at_call 53
            refine Calls.mono (rbytes_fl q s1 wd HDw.out.i) ?_
            rintro e w66 ⟨A2, c2, rfl, h2c, h2m, h2b, h2l, hi66, ht66⟩
            rw [Hs2.out] at h2c h2b ⊢
            obtain ⟨m2, hm2⟩ : ∃ z, s2.1.length = z := ⟨_, rfl⟩
            rw [hm2] at h2c ⊢
            have Hm2 := Lib.hid hm2
            have H2b := Lib.hid h2b
            have H2l := Lib.hid (show ∀ a : Addr, A2 = some a → 0 < s2.1.length → B2 ≤ a.block ∧ (Value.slice Av nv cv).ownBlock ≠ some a.block from fun a e _ => ⟨Nat.le_trans hzw (h2l a e), fun e2 => by have := (Hroww.out.lt _ e2).2; have := h2l a e; omega⟩)
            have h2m' : c2 ≤ 9223372036854775807 := by unfold maxLen at h2m; omega
            clear hm2 h2b h2l
            have HD66 := Lib.hid (HDw.out.turn ht66 hi66)
            have HR66 := Lib.hid (Hroww.out.keepUp (ht66.upQ (by omega)))
            have HB66 := Lib.hid (Hbrw.out.keepUp (ht66.upQ hqg))
            have hz66 := Nat.le_trans hzw ht66.size
            clear hi66 ht66
            go_wp2_with fail
            refine hKC.out _ _ trivial (fun _ => ?_)
            clear hKC KC
            try simp only [Act.put, List.setIfInBounds_toArray, List.set_cons_zero, List.set_cons_succ]
            refine wpAnyH_ready (rs := [1, 4]) (by kernel_rfl) (by simp) ?_
            refine AllReadyH.cons rfl (fun KC hKC => ?_) (AllReadyH.cons rfl (fun KC hKC => ?_) AllReadyH.nil)
            · have hc67 := (Arr.com HD66.out.x Hl1.out Hl2.out Hl3.out HSL.out).evs
              go_simp
              refine hKC.out _ _ trivial (fun _ => ?_)
              clear hKC KC
              try simp only [Act.put, List.setIfInBounds_toArray, List.set_cons_zero, List.set_cons_succ]
              clear hc67
              refine wpAnyH_ready (rs := [4]) (by kernel_rfl) (by simp) ?_
              refine AllReadyH.cons rfl (fun KC hKC => ?_) AllReadyH.nil
              go_simp
              refine hKC.out _ _ trivial (fun _ => ?_)
              clear hKC KC
              try simp only [Act.put, List.setIfInBounds_toArray, List.set_cons_zero, List.set_cons_succ]
              obtain ⟨w68, hw68⟩ : ∃ z, z = w66.alloc (.cells #[.slice A2 m2 c2] 33) := ⟨_, rfl⟩
              have hb68 : Below w66.heap.size w66 w68 := by rw [hw68]; exact (Below.refl _ _).alloc (Nat.le_refl _) _
              have HN68 := Lib.hid (show Arr w68 w66.heap.size 33 [.slice A2 m2 c2] by rw [hw68]; exact Arr.new w66 33 [.slice A2 m2 c2])
              have HD68 := Lib.hid (HD66.out.below (hb68.mono HD66.out.le))
              have HR68 := Lib.hid (HR66.out.keepUp (Below.upQ hb68))
              have HB68 := Lib.hid (HB66.out.keepUp (Below.upQ hb68))
              have H2b' := Lib.hid ((H2b.out.below hb68 (by first | exact Nat.le_refl _ | omega)).more hb68.size)
              have hz68 := Nat.le_trans hz66 hb68.size
              have Hw68 := Lib.hid hw68
              clear hw68 hb68
              change wpAnyH _ _ _ _ _ _ _ _ (w66.alloc (.cells #[.slice A2 m2 c2] 33))
              rw [← Hw68.out]
              obtain ⟨g68, hg68⟩ : ∃ z, z = w66.heap.size := ⟨_, rfl⟩
              have HG68 := Lib.hid (show Arr w68 g68 33 [.slice A2 m2 c2] by rw [hg68]; exact HN68.out)
              rw [← hg68]
              clear hg68 HN68 Hw68
              refine wpAnyH_ready (rs := [5]) (by kernel_rfl) (by simp) ?_
              refine AllReadyH.cons rfl (fun KC hKC => ?_) AllReadyH.nil
              rw [if_pos (by rfl)]
              refine wp_append_evR (some 67) rfl _ _ rfl HR68.out hz68 rfl g68 1 rfl s2.1 A2 m2 c2 Hm2.out h2c h2m H2b'.out H2l.out HG68.out (by rw [Hlen.out]; omega) (fun v69 w69 hrow69 hgr69 => ?_)
              have HD69 := Lib.hid (HD68.out.below ((Below.refl (g + 1) w68).grown hgr69 HD68.out.le (fun j hj => by have := (HR68.out.lt j hj).1; omega)))
              have HB69 := Lib.hid (HB68.out.belowB ((Below.refl B2 w68).grown hgr69 hz68 (fun j hj => (HR68.out.lt j hj).1)) Hbl.out)
              have hz69 := Nat.le_trans hz68 hgr69.size
              obtain ⟨A69, c69, rfl, _, _, _⟩ := hrow69.rows
              obtain ⟨m69, hm69⟩ : ∃ z, (rows ++ [s2.1]).length = z := ⟨_, rfl⟩
              rw [hm69] at hrow69 ⊢
              have HR69 := Lib.hid hrow69
              clear hrow69 hgr69 hm69
              refine hKC.out _ _ trivial (fun _ => ?_)
              clear hKC KC
              try simp only [Act.put, List.setIfInBounds_toArray, List.set_cons_zero, List.set_cons_succ]
              refine anyH_take (i := 6) (v := .pointer (some ⟨g, 136, none⟩)) (some 68) rfl rfl (by kernel_rfl) (by kernel_rfl) (by kernel_rfl) (fun _ _ _ h => h) (Or.inl ⟨by rfl, fun w' hw => by (go_simp)⟩) (by assumption) ?_
              simp only [Act.put, List.setIfInBounds_toArray, List.set_cons_zero, List.set_cons_succ]
              refine wpAnyH_ready (rs := [7]) (by kernel_rfl) (by simp) ?_
              refine AllReadyH.cons rfl (fun KC hKC => ?_) AllReadyH.nil
              have hc70 := (Arr.com HD69.out.x Hl1.out Hl2.out Hl3.out HSL.out).evs
              have hf70 := HD69.out.x.frozen 136
              obtain ⟨hD70, hO70⟩ := HD69.out.set 136 (.slice A69 m69 c69)
              rw [comV_setE Hl1.out Hl2.out Hl3.out HSL.out] at hD70
              have HR70 := Lib.hid (HR69.out.keepUp (hO70.upQ (by omega)))
              have HB70 := Lib.hid (HB69.out.keepUp (hO70.upQ (Nat.lt_succ_self g)))
              have hz70 := Nat.le_trans hz69 hO70.size
              have HD70 := Lib.hid hD70
              clear hD70 hO70
              go_simp
              refine hKC.out _ _ trivial (fun _ => ?_)
              clear hKC KC
              try simp only [Act.put, List.setIfInBounds_toArray, List.set_cons_zero, List.set_cons_succ]
              clear hc70 hf70
              obtain ⟨w70, hw70⟩ : ∃ z, z = w69.setCell ⟨g, 136, none⟩ (.slice A69 m69 c69) := ⟨_, rfl⟩
              rw [← hw70] at HR70 HD70 HB70 hz70
              change wpAnyH _ _ _ _ _ _ _ _ (w69.setCell ⟨g, 136, none⟩ (.slice A69 m69 c69))
              rw [← hw70]
              clear hw70
              refine wpAnyH_done (by kernel_rfl) ?_ _
              have Hlen2 := Lib.hid (show (rows ++ [s2.1]).length = k + 1 by rw [List.length_append, Hlen.out]; rfl)
              have Hrun2 := Lib.hid (show (s2.2.2 = false → runS evS (n2 - (k + 1)) (rows ++ [s2.1], s2.2) = R2) ∧ (s2.2.2 = true → R2.2 = s2.2) by
                have h := Hr.out
                try dsimp only at h
                rw [Hs2.out] at h
                refine ⟨fun e => ?_, fun e => ?_⟩
                · rw [if_neg (by rw [e]; simp)] at h; exact h
                · rw [if_pos e] at h; rw [← h])
              have HDe := Lib.hid (show RD w ZL g q b A c (comV ep T1 T2 T3 (.slice Ab nb cb) SL (.slice A69 m69 c69)) s2.2 w70 by rw [← Hs2.out]; exact HD70.out)
              clear hHeld
              go_wp2_with fail
              go_roundw
              case rel => exact ⟨k + 1, _, s2.2, _, _, _, by omega, by go_num, HDe.out, HR70, Hrun2, Hlen2, HB70, hz70⟩
              case measure => simp [Go.RowKit.intOf]; omega
            · go_simp
              refine hKC.out _ _ trivial (fun _ => ?_)
              clear hKC KC
              try simp only [Act.put, List.setIfInBounds_toArray, List.set_cons_zero, List.set_cons_succ]
              obtain ⟨w71, hw71⟩ : ∃ z, z = w66.alloc (.cells #[.slice A2 m2 c2] 33) := ⟨_, rfl⟩
              have hb71 : Below w66.heap.size w66 w71 := by rw [hw71]; exact (Below.refl _ _).alloc (Nat.le_refl _) _
              have HN71 := Lib.hid (show Arr w71 w66.heap.size 33 [.slice A2 m2 c2] by rw [hw71]; exact Arr.new w66 33 [.slice A2 m2 c2])
              have HD71 := Lib.hid (HD66.out.below (hb71.mono HD66.out.le))
              have HR71 := Lib.hid (HR66.out.keepUp (Below.upQ hb71))
              have HB71 := Lib.hid (HB66.out.keepUp (Below.upQ hb71))
              have H2b' := Lib.hid ((H2b.out.below hb71 (by first | exact Nat.le_refl _ | omega)).more hb71.size)
              have hz71 := Nat.le_trans hz66 hb71.size
              have Hw71 := Lib.hid hw71
              clear hw71 hb71
              change wpAnyH _ _ _ _ _ _ _ _ (w66.alloc (.cells #[.slice A2 m2 c2] 33))
              rw [← Hw71.out]
              obtain ⟨g71, hg71⟩ : ∃ z, z = w66.heap.size := ⟨_, rfl⟩
              have HG71 := Lib.hid (show Arr w71 g71 33 [.slice A2 m2 c2] by rw [hg71]; exact HN71.out)
              rw [← hg71]
              clear hg71 HN71 Hw71
              refine wpAnyH_ready (rs := [1]) (by kernel_rfl) (by simp) ?_
              refine AllReadyH.cons rfl (fun KC hKC => ?_) AllReadyH.nil
              have hc72 := (Arr.com HD71.out.x Hl1.out Hl2.out Hl3.out HSL.out).evs
              go_simp
              refine hKC.out _ _ trivial (fun _ => ?_)
              clear hKC KC
              try simp only [Act.put, List.setIfInBounds_toArray, List.set_cons_zero, List.set_cons_succ]
              clear hc72
              refine wpAnyH_ready (rs := [5]) (by kernel_rfl) (by simp) ?_
              refine AllReadyH.cons rfl (fun KC hKC => ?_) AllReadyH.nil
              rw [if_pos (by rfl)]
              refine wp_append_evR (some 67) rfl _ _ rfl HR71.out hz71 rfl g71 1 rfl s2.1 A2 m2 c2 Hm2.out h2c h2m H2b'.out H2l.out HG71.out (by rw [Hlen.out]; omega) (fun v73 w73 hrow73 hgr73 => ?_)
              have HD73 := Lib.hid (HD71.out.below ((Below.refl (g + 1) w71).grown hgr73 HD71.out.le (fun j hj => by have := (HR71.out.lt j hj).1; omega)))
              have HB73 := Lib.hid (HB71.out.belowB ((Below.refl B2 w71).grown hgr73 hz71 (fun j hj => (HR71.out.lt j hj).1)) Hbl.out)
              have hz73 := Nat.le_trans hz71 hgr73.size
              obtain ⟨A73, c73, rfl, _, _, _⟩ := hrow73.rows
              obtain ⟨m73, hm73⟩ : ∃ z, (rows ++ [s2.1]).length = z := ⟨_, rfl⟩
              rw [hm73] at hrow73 ⊢
              have HR73 := Lib.hid hrow73
              clear hrow73 hgr73 hm73
              refine hKC.out _ _ trivial (fun _ => ?_)
              clear hKC KC
              try simp only [Act.put, List.setIfInBounds_toArray, List.set_cons_zero, List.set_cons_succ]
              refine anyH_take (i := 6) (v := .pointer (some ⟨g, 136, none⟩)) (some 68) rfl rfl (by kernel_rfl) (by kernel_rfl) (by kernel_rfl) (fun _ _ _ h => h) (Or.inl ⟨by rfl, fun w' hw => by (go_simp)⟩) (by assumption) ?_
              simp only [Act.put, List.setIfInBounds_toArray, List.set_cons_zero, List.set_cons_succ]
              refine wpAnyH_ready (rs := [7]) (by kernel_rfl) (by simp) ?_
              refine AllReadyH.cons rfl (fun KC hKC => ?_) AllReadyH.nil
              have hc74 := (Arr.com HD73.out.x Hl1.out Hl2.out Hl3.out HSL.out).evs
              have hf74 := HD73.out.x.frozen 136
              obtain ⟨hD74, hO74⟩ := HD73.out.set 136 (.slice A73 m73 c73)
              rw [comV_setE Hl1.out Hl2.out Hl3.out HSL.out] at hD74
              have HR74 := Lib.hid (HR73.out.keepUp (hO74.upQ (by omega)))
              have HB74 := Lib.hid (HB73.out.keepUp (hO74.upQ (Nat.lt_succ_self g)))
              have hz74 := Nat.le_trans hz73 hO74.size
              have HD74 := Lib.hid hD74
              clear hD74 hO74
              go_simp
              refine hKC.out _ _ trivial (fun _ => ?_)
              clear hKC KC
              try simp only [Act.put, List.setIfInBounds_toArray, List.set_cons_zero, List.set_cons_succ]
              clear hc74 hf74
              obtain ⟨w74, hw74⟩ : ∃ z, z = w73.setCell ⟨g, 136, none⟩ (.slice A73 m73 c73) := ⟨_, rfl⟩
              rw [← hw74] at HR74 HD74 HB74 hz74
              change wpAnyH _ _ _ _ _ _ _ _ (w73.setCell ⟨g, 136, none⟩ (.slice A73 m73 c73))
              rw [← hw74]
              clear hw74
              refine wpAnyH_done (by kernel_rfl) ?_ _
              have Hlen2 := Lib.hid (show (rows ++ [s2.1]).length = k + 1 by rw [List.length_append, Hlen.out]; rfl)
              have Hrun2 := Lib.hid (show (s2.2.2 = false → runS evS (n2 - (k + 1)) (rows ++ [s2.1], s2.2) = R2) ∧ (s2.2.2 = true → R2.2 = s2.2) by
                have h := Hr.out
                try dsimp only at h
                rw [Hs2.out] at h
                refine ⟨fun e => ?_, fun e => ?_⟩
                · rw [if_neg (by rw [e]; simp)] at h; exact h
                · rw [if_pos e] at h; rw [← h])
              have HDe := Lib.hid (show RD w ZL g q b A c (comV ep T1 T2 T3 (.slice Ab nb cb) SL (.slice A73 m73 c73)) s2.2 w74 by rw [← Hs2.out]; exact HD74.out)
              clear hHeld
              go_wp2_with fail
              go_roundw
              case rel => exact ⟨k + 1, _, s2.2, _, _, _, by omega, by go_num, HDe.out, HR74, Hrun2, Hlen2, HB74, hz74⟩
              case measure => simp [Go.RowKit.intOf]; omega
        | true =>
          have Hend := Lib.hid (show R2.2 = s1 ∧ (s1.2 = false → R2.1 = rows) from ⟨Hrun.out.2 Hb1.out, fun h => by rw [Hb1.out] at h; cases h⟩)
          have HD := Lib.hid hD
          clear Hrun hD
          go_wp2_with fail
          go_meet
          have hse : s1 = dS6 b := by rw [dS6, HR.out]; exact Hend.out.1.symm
          exact ⟨rows, Av, nv, cv, by rw [← hse]; exact HD.out, Hbr2, Lib.hid ⟨B2, Hrow.out, hgB2⟩, Lib.hid (by rw [← hse]; exact fun h => (Hend.out.2 h).symm)⟩
      · obtain rfl : k = n2 := by omega
        have hd1 : decide ((k : Int) < (k : Int)) = false := by simp
        have hd2 : decide (k < k) = false := by simp
        have Hend := Lib.hid (show R2.2 = s1 ∧ (s1.2 = false → R2.1 = rows) by
          have h0 := Hrun.out
          rw [Nat.sub_self] at h0
          cases hb : s1.2 with
          | false => have h1 := h0.1 hb; rw [← h1]; exact ⟨rfl, fun _ => rfl⟩
          | true => exact ⟨h0.2 hb, fun h => (by cases h)⟩)
        have HD := Lib.hid hD
        clear Hrun hD
        go_wp2_with fail
        go_meet
        have hse : s1 = dS6 b := by rw [dS6, HR.out]; exact Hend.out.1.symm
        exact ⟨rows, Av, nv, cv, by rw [← hse]; exact HD.out, Hbr2, Lib.hid ⟨B2, Hrow.out, hgB2⟩, Lib.hid (by rw [← hse]; exact fun h => (Hend.out.2 h).symm)⟩
  case rest =>
  obtain ⟨re, Ae, ne, ce, hD16, HBr16, HQ16, Hee⟩ := hcut
  have HR2 := HR
  obtain ⟨w16, hw16⟩ : ∃ z, z = wc := ⟨_, rfl⟩
  rw [← hw16] at hD16 HBr16 HQ16 ⊢
  have HD16 := Lib.hid hD16
  clear hw16 hD16 Hrun HD HR Hbr hz0 hgB2
  have Hbadset := Lib.hid (fun (w' : World) (hR : Arr w' w.heap.size 30 ZL) => show (w'.setRow w.heap.size ZL.toArray).heap[w.heap.size]? = some (.cells ZL.toArray 30 (0, 0)) from hR.setRow ZL)
  have Hbadb := Lib.hid (fun (w' : World) (hb' : Below w.heap.size w w') (cs : Array Value) => show Below w.heap.size w (w'.setRow w.heap.size cs) from hb'.trans (((Only.refl (fun k => k = w.heap.size) w').setRow (.inl rfl) _).below hb'.size (by rintro k rfl; omega)))
  obtain ⟨dv, hdv⟩ : ∃ z, doneF (dS6 b).1 (dS6 b).2 = z := ⟨_, rfl⟩
  have Hdv := Lib.hid hdv
  have Hdone := Lib.hid (rdone_fl q (dS6 b) w16 HD16.out.i)
  rw [hdv] at Hdone
  clear hdv
  go_wp2_with fail
  refine Calls.mono Hdone.out ?_
  rintro e w17 ⟨rfl, kd, hw17⟩
  have HD17 := Lib.hid (show RD w ZL g q b A c (comV ep T1 T2 T3 (.slice Ab nb cb) SL (.slice Ae ne ce)) (dS6 b) w17 by rw [hw17]; exact HD16.out.drewN kd)
  have HBr17 := Lib.hid (show BRow w17 (g + 1) (.slice Ab nb cb) rb by rw [hw17]; exact HBr16.out.keepUp (Below.upQ (Below.dN (Below.refl _ _) kd)))
  obtain ⟨B3, hQ16, hgB3⟩ := HQ16.out
  have HQ17 := Lib.hid (show QRow w17 B3 (.slice Ae ne ce) re by rw [hw17]; exact hQ16.keepUp (Below.upQ (Below.dN (Below.refl _ _) kd)))
  clear hw17 HD16 HBr16 HQ16 hQ16 Hdone
  by_cases hd0 : dv = 0
  · subst hd0
    have q1 : ((0 : Int) != 0) = false := by simp
    have Hfin := Lib.hid (show dS6 b = ([], false) by
      have h := Hdv.out
      unfold doneF at h
      split at h
      · cases h
      · rename_i hn
        have h1 : (dS6 b).2 = false := by
          cases hq : (dS6 b).2 with
          | false => rfl
          | true => exact absurd (.inl hq) hn
        have h2 : (dS6 b).1 = [] := List.length_eq_zero_iff.1 (by
          have : ¬ 0 < (dS6 b).1.length := fun h => hn (.inr h)
          omega)
        exact Prod.ext h2 h1)
    obtain ⟨cc, hcc⟩ := isDec b
    have hf6 : (dS6 b).2 = false := by rw [Hfin.out]
    have hf5 : (dS5 b).2 = false := by rw [dS6] at hf6; exact ((takes_rows takes_ev).sound (dS5 b) hf6).1
    have hf4 : (dS4 b).2 = false := by rw [dS5] at hf5; exact (takes_dig.sound (dS4 b) hf5).1
    have hrb : rb = cc.bins := by rw [Hbe.out hf4, ← HR1.out, hcc.bins]
    have hre : re = cc.evs := by rw [Hee.out hf6, ← HR2.out, hcc.evs]
    have hokc := (dec_sound hcc hf6).2
    subst hrb hre
    have Hcc := Lib.hid hcc
    have Hokc := Lib.hid hokc
    have Hrw := Lib.hid (show RefW cc.r1 ∧ RefW cc.r2 ∧ RefW cc.r3 from ⟨by rw [← hcc.r1]; exact refS_w _, by rw [← hcc.r2]; exact refS_w _, by rw [← hcc.r3]; exact refS_w _⟩)
    obtain ⟨Ab', cb', eb, hbc, hbm, hbrow⟩ := HBr17.out.slice
    obtain ⟨Ae', ce', ee, hec, hem, herow⟩ := HQ17.out.rows
    injection eb with eb1 eb2 eb3
    injection ee with ee1 ee2 ee3
    subst eb1 eb2 eb3 ee1 ee2 ee3
    obtain ⟨nb, hnb⟩ : ∃ z, cc.bins.length = z := ⟨_, rfl⟩
    obtain ⟨ne, hne⟩ : ∃ z, cc.evs.length = z := ⟨_, rfl⟩
    rw [hnb] at HBr17 HD17 hbc
    rw [hne] at HQ17 HD17 hec
    obtain ⟨XL, hXL⟩ : ∃ z, z = comV ep T1 T2 T3 (.slice Ab nb cb) SL (.slice Ae ne ce) := ⟨_, rfl⟩
    rw [← hXL] at HD17
    have hXl : XL.length = 137 := by rw [hXL]; exact comV_length Hl1.out Hl2.out Hl3.out HSL.out
    have HXn := Lib.hid (show (Try.prog.info? 30).map (·.size) = some XL.length by rw [hXl]; exact comSize)
    have HXi := Lib.hid (show (Try.prog.info? 30).map (·.size) = some XL.toArray.size by rw [List.size_toArray, hXl]; exact comSize)
    have HXz := Lib.hid (show ZL.toArray.size = XL.toArray.size by rw [List.size_toArray, List.size_toArray, hXl, HZL.out]; rfl)
    have HX := Lib.hid (show XL = comC ⟨cc, Ab, cb, Ae, ce⟩ by
      rw [hXL]
      unfold comC
      dsimp only
      rw [← hcc.ep, Hep.out, ← hcc.r1, ← HT1.out, ← hcc.r2, ← HT2.out, ← hcc.r3, ← HT3.out, hnb, hne, ← hcc.st, ← HSLe.out])
    have HX1 := Lib.hid (show XL.toArray.all (·.oneCell') = true by rw [HX.out]; exact all_oneC (comC_one _))
    obtain ⟨r, hr⟩ : ∃ r : Bool, r = true ↔ MayC cc := by classical exact ⟨decide _, decide_eq_true_iff⟩
    have Hr := Lib.hid hr
    have Hrt := Lib.hid (right_any cc Ab cb XL T1 T2 T3 SL (.slice Ae ne ce) nb hnb hbc hbm (by rw [hXL, ← hcc.ep, Hep.out]) (by rw [HT1.out, hcc.r1]) (by rw [HT2.out, hcc.r2]) (by rw [HT3.out, hcc.r3]) (by rw [← hcc.r1]; exact refS_w _) (by rw [← hcc.r2]; exact refS_w _) (by rw [← hcc.r3]; exact refS_w _) HSL.out (by rw [← hcc.ep, Hep.out]; exact hepl) w17 hbrow HBr17.out.1 r hr)
    have Hcx := Lib.hid (fun (w' : World) (h1 : BRow w' (g + 1) (.slice Ab nb cb) cc.bins) (h2 : QRow w' B3 (.slice Ae ne ce) cc.evs) => show CxOk w' w'.heap.size ⟨cc, Ab, cb, Ae, ce⟩ ∧ ∀ a : Addr, Ae = some a → w.heap.size ≤ a.block from by
      have q1 : RowOf bC 35 w' w'.heap.size Ab cc.bins := by
        obtain ⟨A', c', e1, _, _, h4⟩ := h1.slice
        rw [(Value.slice.inj e1).1]; exact h4
      have q2 : RowsAt w' w'.heap.size Ae cc.evs := by
        obtain ⟨A', c', e1, _, _, h4⟩ := h2.rows
        rw [(Value.slice.inj e1).1]; exact h4
      exact ⟨⟨Hokc.out.ep, Hrw.out.1, Hrw.out.2.1, Hrw.out.2.2, h1.1, Hokc.out.st, by show cc.bins.length ≤ cb; rw [hnb]; exact hbc, hbm, by show cc.evs.length ≤ ce; rw [hne]; exact hec, hem, q1, q2⟩, fun a ha => by
        subst ha
        have := (h2.lt a.block rfl).1
        have := Hdd.out
        omega⟩)
    have Hrg := Lib.hid (show w17.rangeAt g 0 XL from HD17.out.x.range)
    clear hr hbrow herow hcc hokc hXL hXl hf6 hf5 hf4 hnb hne hbc hec
    go_wp2_with (first | ((with_reducible refine wpList_at 73 (by rfl) ?_); refine wpList_load_mid_ifC (by rfl) 30 _ rfl g 0 rfl XL _ Hrg.out Try.underlying30 rfl HXn.out ?_))
    refine Calls.mono Hrt.out ?_
    rintro e w18 ⟨rfl, hb18⟩
    have HD18 := Lib.hid (HD17.out.below (hb18.mono HD17.out.le))
    have HBr18 := Lib.hid (HBr17.out.keepUp (Below.upQ hb18))
    have HQ18 := Lib.hid (HQ17.out.keepUp (Below.upQ hb18))
    clear hb18 HD17 HBr17 HQ17 Hrt Hrg
    cases r with
    | false =>
      have Hno := Lib.hid (show ¬ Good b from fun h => by
        obtain ⟨_, _, c', hc', hp', hr'⟩ := h
        rw [dec_one hc' Hcc.out] at hp' hr'
        have := Hr.out.2 ⟨hp', Hokc.out.r1.1, Hokc.out.r2.1, Hokc.out.r3.1, fun b hb => (Hokc.out.bins.2 b hb).1, hr'⟩
        cases this)
      go_wp2_with (first | (refine wpList_builtD rfl _ _ rfl [] rfl ZL.toArray HZb.out ?_) | (refine wpList_store_row rfl _ _ _ rfl w.heap.size ZL.toArray rfl rfl 30 ZL.toArray HD18.out.r HZi.out rfl HZ1.out ?_))
      (try simp only [Exit.inBlock, Exit.then])
      obtain ⟨V, hV⟩ : ∃ V, V = Value.tuple #[.agg ZL.toArray, .int .i64 3] := ⟨_, rfl⟩
      refine bodyPost_ret (v := V) ?hx1 ?h2 ?h3
      case hx1 => rw [hV]; exact results_cell2 (fn := Try.f17) (by rfl) _ _ w.heap.size 30 ZL.toArray (0, 0) _ (by rfl) _ (by rfl) (Hbadset.out _ HD18.out.r) Try.underlying30 rfl HZi.out
      case h2 => rfl
      case h3 => exact ⟨Hbadb.out _ HD18.out.b _, .inr ⟨by rw [hV, HZL.out], Hno.out⟩⟩
    | true =>
      have hd1 : decide ((65536 : Int) < (n : Int)) = false := by simp; omega
      have hd1n : decide (65536 < n) = false := by simp; omega
      have Hgood := Lib.hid (show Good b from ⟨by rw [Hn.out]; exact hn6, Hfin.out, cc, Hcc.out, (Hr.out.1 rfl).1, (Hr.out.1 rfl).2.2.2.2.2⟩)
      have hX18 := HD18.out.x
      have hR18 := HD18.out.r
      have Hset := Lib.hid (show (w18.setRow w.heap.size XL.toArray).heap[w.heap.size]? = some (.cells XL.toArray 30 (0, 0)) from setRow_heap w18 w.heap.size ZL.toArray XL.toArray 30 (0, 0) hR18)
      have hO : Only (fun k => k = w.heap.size) w18 (w18.setRow w.heap.size XL.toArray) := (Only.refl (fun k => k = w.heap.size) w18).setRow (.inl rfl) _
      have Hbe2 := Lib.hid (Hbadb.out w18 HD18.out.b XL.toArray)
      have Hok := Lib.hid (Hcx.out _ (HBr18.out.keepUp (hO.upQ (by have := Hdd.out; omega))) (HQ18.out.keepUp (hO.upQ (by have := Hdd.out; omega))))
      clear hO
      go_wp2_with (first
        | ((with_reducible refine wpList_at 83 (by rfl) ?_); refine wpList_load_row rfl _ _ rfl g rfl 30 XL.toArray (0, 0) _ hX18 Try.underlying30 rfl HXi.out ?_)
        | (refine wpList_store_row rfl _ _ _ rfl w.heap.size XL.toArray rfl rfl 30 ZL.toArray hR18 HXi.out HXz.out HX1.out ?_))
      (try simp only [Exit.inBlock, Exit.then])
      obtain ⟨V, hV⟩ : ∃ V, V = Value.tuple #[.agg XL.toArray, .int .i64 0] := ⟨_, rfl⟩
      refine bodyPost_ret (v := V) ?hx1 ?h2 ?h3
      case hx1 => rw [hV]; exact results_cell2 (fn := Try.f17) (by rfl) _ _ w.heap.size 30 XL.toArray (0, 0) _ (by rfl) _ (by rfl) Hset.out Try.underlying30 rfl HXi.out
      case h2 => rfl
      case h3 => exact ⟨Hbe2.out, .inl ⟨⟨cc, Ab, cb, Ae, ce⟩, by rw [hV, HX.out], Hok.out, Hcc.out, Hgood.out⟩⟩
  · have q1 : (dv != 0) = true := by simpa using hd0
    have Hno := Lib.hid (show ¬ Good b from fun h => by
      have h2 := h.2.1
      apply hd0
      rw [← Hdv.out, h2]
      rfl)
    clear hd0
    go_wp2_with (first | (refine wpList_builtD rfl _ _ rfl [] rfl ZL.toArray HZb.out ?_) | (refine wpList_store_row rfl _ _ _ rfl w.heap.size ZL.toArray rfl rfl 30 ZL.toArray HD17.out.r HZi.out rfl HZ1.out ?_))
    (try simp only [Exit.inBlock, Exit.then])
    obtain ⟨V, hV⟩ : ∃ V, V = Value.tuple #[.agg ZL.toArray, .int .i64 3] := ⟨_, rfl⟩
    refine bodyPost_ret (v := V) ?hx1 ?h2 ?h3
    case hx1 => rw [hV]; exact results_cell2 (fn := Try.f17) (by rfl) _ _ w.heap.size 30 ZL.toArray (0, 0) _ (by rfl) _ (by rfl) (Hbadset.out _ HD17.out.r) Try.underlying30 rfl HZi.out
    case h2 => rfl
    case h3 => exact ⟨Hbadb.out _ HD17.out.b _, .inr ⟨by rw [hV, HZL.out], Hno.out⟩⟩

theorem rdec_any (A : Option Addr) (n c : Nat) (b : List UInt8) (hn : b.length = n) (hc : n ≤ c) (hm : c ≤ maxLen) (hn6 : n ≤ 65536) (w : World) (hb : Bs w w.heap.size A b) :
    Calls Try.prog 17 #[.slice A n c] w (DecPost b w) := by
  refine Calls.mono (rdec_low A n c b hn hc hm hn6 w hb) ?_
  rintro e w' ⟨h1, ⟨x, h2, h3, h4⟩ | h2⟩
  · exact ⟨h1, .inl ⟨x, h2, h3.1, h4⟩⟩
  · exact ⟨h1, .inr h2⟩

end Go.Proofs.Ytlfddijmanlneaa

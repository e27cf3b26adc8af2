/-
  The document's own node, as cells; its In by states.
-/
import Derived.Test.YtlailhjpfadpcaaPCheck
import Derived.Test.YtlailhjpfadpcaaRefBytes
import Derived.Test.YtlailhjpfadpcaaRefDig
import Derived.Test.YtlailhjpfadpcaaRel
namespace Go.Proofs.Ytlailhjpfadpcaa
open Go.RowKit
set_option linter.unusedVariables false
set_option linter.unusedSimpArgs false

/-- Digests, one behind the other. -/
def kidC (ks : List (List UInt8)) : List Value := ks.flatMap Lib.byteCells
theorem kidC_length {ks : List (List UInt8)} (h : ∀ d ∈ ks, d.length = 32) : (kidC ks).length = ks.length * 32 := by
  unfold kidC
  induction ks with
  | nil => rfl
  | cons d ks ih =>
    have hd : (Lib.byteCells d).length = 32 := by rw [Lib.byteCells_length, h d List.mem_cons_self]
    rw [List.flatMap_cons, List.length_append, hd, ih fun x hx => h x (List.mem_cons_of_mem _ hx), List.length_cons]
    omega
theorem kidC_at : ∀ {ks : List (List UInt8)} (h : ∀ d ∈ ks, d.length = 32) {i : Nat} (hi : i < ks.length) (j : Nat) (v : Value), (Lib.byteCells (ks.getD i []))[j]? = some v → (kidC ks)[i * 32 + j]? = some v
  | [], _, _, hi, _, _, _ => by simp at hi
  | d :: ks, h, 0, _, j, v, hj => by
    unfold kidC
    have : (d :: ks).getD 0 [] = d := rfl
    rw [this] at hj
    rw [List.flatMap_cons, Nat.zero_mul, Nat.zero_add, List.getElem?_append_left (List.getElem?_eq_some_iff.1 hj).1]
    exact hj
  | d :: ks, h, i + 1, hi, j, v, hj => by
    have hd : (Lib.byteCells d).length = 32 := by rw [Lib.byteCells_length, h d List.mem_cons_self]
    have ih := kidC_at (ks := ks) (fun x hx => h x (List.mem_cons_of_mem _ hx)) (i := i) (by simpa using hi) j v (by simpa using hj)
    unfold kidC at *
    rw [List.flatMap_cons, List.getElem?_append_right (by rw [hd]; omega), hd, show (i + 1) * 32 + j - 32 = i * 32 + j by omega]
    exact ih
theorem kidC_set : ∀ {ks : List (List UInt8)} (h : ∀ d ∈ ks, d.length = 32) {i : Nat} (hi : i < ks.length) (x : List UInt8) (hx : x.length = 32), (kidC ks).take (i * 32) ++ (Lib.byteCells x ++ (kidC ks).drop (i * 32 + 32)) = kidC (ks.set i x)
  | [], _, _, hi, _, _ => by simp at hi
  | d :: ks, h, 0, _, x, hx => by
    have hd : (Lib.byteCells d).length = 32 := by rw [Lib.byteCells_length, h d List.mem_cons_self]
    have e : kidC (d :: ks) = Lib.byteCells d ++ kidC ks := by unfold kidC; rw [List.flatMap_cons]
    have e2 : kidC ((d :: ks).set 0 x) = Lib.byteCells x ++ kidC ks := by unfold kidC; rw [List.set_cons_zero, List.flatMap_cons]
    rw [e, e2, Nat.zero_mul, List.take_zero, List.nil_append, Nat.zero_add, ← hd, List.drop_left]
  | d :: ks, h, i + 1, hi, x, hx => by
    have hd : (Lib.byteCells d).length = 32 := by rw [Lib.byteCells_length, h d List.mem_cons_self]
    have ih := kidC_set (ks := ks) (fun y hy => h y (List.mem_cons_of_mem _ hy)) (i := i) (by simpa using hi) x hx
    have hc : ∀ (y : List UInt8) zs, kidC (y :: zs) = Lib.byteCells y ++ kidC zs := fun y zs => by unfold kidC; rw [List.flatMap_cons]
    rw [List.set_cons_succ, hc, hc, ← ih]
    rw [show (i + 1) * 32 = (Lib.byteCells d).length + i * 32 by rw [hd]; omega, List.take_length_add_append, Nat.add_assoc, List.drop_length_add_append, List.append_assoc]

/-- The document's node: its cells. -/
def rnC (lf : Bool) (bg vl : Value) (hs : List Bool) (ks : List (List UInt8)) : List Value := .bool lf :: bg :: vl :: (boolCells hs ++ kidC ks)
structure RnOk (hs : List Bool) (ks : List (List UInt8)) : Prop where
  h16 : hs.length = 16
  k16 : ks.length = 16
  k32 : ∀ d ∈ ks, d.length = 32
section
variable {lf : Bool} {bg vl : Value} {hs : List Bool} {ks : List (List UInt8)}
theorem boolCells_len (l : List Bool) : (boolCells l).length = l.length := by simp [boolCells]
theorem rnC_length (h : RnOk hs ks) : (rnC lf bg vl hs ks).length = 531 := by
  unfold rnC
  simp only [List.length_cons, List.length_append, boolCells_len, kidC_length h.k32, h.h16, h.k16]
theorem rnC_has (h : RnOk hs ks) {i : Nat} (hi : i < 16) : (rnC lf bg vl hs ks)[3 + i]? = some (.bool (hs.getD i false)) := by
  have e : rnC lf bg vl hs ks = [.bool lf, bg, vl] ++ (boolCells hs ++ kidC ks) := rfl
  rw [e, List.getElem?_append_right (by simp), show 3 + i - [Value.bool lf, bg, vl].length = i by simp, List.getElem?_append_left (by rw [boolCells_len, h.h16]; exact hi)]
  exact boolCells_get (by rw [h.h16]; exact hi)
theorem rnC_setHas (h : RnOk hs ks) {i : Nat} (hi : i < 16) (b : Bool) : (rnC lf bg vl hs ks).set (3 + i) (.bool b) = rnC lf bg vl (hs.set i b) ks := by
  have e : rnC lf bg vl hs ks = [.bool lf, bg, vl] ++ (boolCells hs ++ kidC ks) := rfl
  have e2 : rnC lf bg vl (hs.set i b) ks = [.bool lf, bg, vl] ++ (boolCells (hs.set i b) ++ kidC ks) := rfl
  rw [e, e2, List.set_append_right _ _ (by simp), show 3 + i - [Value.bool lf, bg, vl].length = i by simp, List.set_append_left _ _ (by rw [boolCells_len, h.h16]; exact hi), boolCells_set]
theorem rnC_kid (h : RnOk hs ks) {i : Nat} (hi : i < 16) (j : Nat) (v : Value) (hj : (Lib.byteCells (ks.getD i []))[j]? = some v) : (rnC lf bg vl hs ks)[19 + i * 32 + j]? = some v := by
  have e : rnC lf bg vl hs ks = ([.bool lf, bg, vl] ++ boolCells hs) ++ kidC ks := by simp [rnC]
  have hl : ([.bool lf, bg, vl] ++ boolCells hs).length = 19 := by simp [boolCells_len, h.h16]
  rw [e, List.getElem?_append_right (by rw [hl]; omega), hl, show 19 + i * 32 + j - 19 = i * 32 + j by omega]
  exact kidC_at h.k32 (by rw [h.k16]; exact hi) j v hj
theorem rnC_setKid (h : RnOk hs ks) {i : Nat} (hi : i < 16) (x : List UInt8) (hx : x.length = 32) : (rnC lf bg vl hs ks).take (19 + i * 32) ++ (Lib.byteCells x ++ (rnC lf bg vl hs ks).drop (19 + i * 32 + 32)) = rnC lf bg vl hs (ks.set i x) := by
  have e : ∀ ks, rnC lf bg vl hs ks = ([.bool lf, bg, vl] ++ boolCells hs) ++ kidC ks := fun ks => by simp [rnC]
  have hl : ([.bool lf, bg, vl] ++ boolCells hs).length = 19 := by simp [boolCells_len, h.h16]
  rw [e, e, ← kidC_set h.k32 (by rw [h.k16]; exact hi) x hx, Nat.add_assoc 19, ← hl, List.take_length_add_append, List.drop_length_add_append, List.append_assoc]
theorem rnC_one (hb : bg.oneCell' = true) (hv : vl.oneCell' = true) : ∀ v ∈ rnC lf bg vl hs ks, v.oneCell' = true := by
  intro v hv'
  simp only [rnC, List.mem_cons, List.mem_append, boolCells, kidC, List.mem_map, List.mem_flatMap] at hv'
  rcases hv' with rfl | rfl | rfl | ⟨b, _, rfl⟩ | ⟨d, _, hd⟩
  · rfl
  · exact hb
  · exact hv
  · rfl
  · simp only [Lib.byteCells, List.mem_map] at hd
    obtain ⟨b, _, rfl⟩ := hd
    rfl
end
def rnZ : List Value := rnC false (.slice none 0 0) (.slice none 0 0) (List.replicate 16 false) (List.replicate 16 zeros)
theorem rnZ_ok : RnOk (List.replicate 16 false) (List.replicate 16 zeros) := ⟨by simp, by simp, fun d hd => by rw [List.eq_of_mem_replicate hd]; simp [zeros]⟩
theorem rnSize : (Try.prog.info? 68).map (·.size) = some 531 := by kernel_rfl
theorem rnBuilt : Try.prog.built 68 [] = some rnZ.toArray := by kernel_rfl
theorem rnZero (w : World) : (zeroValue 68).run Try.prog w = .ok (.agg rnZ.toArray) w := by kernel_rfl

/-- A new variable, its zero said by the caller. -/
theorem wpList_allocZ {P : Program} {ops : Array Oper} {rest : List Oper} {o : Oper} {a : Act} {w : World} {Q : Exit → Act → World → Prop} (hg : o.guard = none) (t : TypeId) (ho : o.op = .alloc t) (Z : Array Value) (hz : (zeroValue t).run P w = .ok (.agg Z) w)
    (h : wpList P ops Q rest (a.put o.dst (.pointer (some ⟨w.heap.size, 0, none⟩))) (w.alloc (.cells Z t))) : wpList P ops Q (o :: rest) a w := by
  refine wpList_plain hg fun K hK => ?_
  unfold Oper.wp execOp
  simp only [ho, Instr.alloc, Sem.run_bind, hz, Result.andThen_ok]
  exact hK _ _ h

/-- In's state: the bytes L, of which s is left. -/
structure RSt (w : World) (q : Nat) (L : List UInt8) (A : Option Addr) (c : Nat) (s : St) : Prop where
  ex : ∃ o, RIn w q L A c o s.2 ∧ Rel s.1 L o s.2
  fix : RFix w q L A c
theorem RSt.lt {w : World} {q : Nat} {L : List UInt8} {A : Option Addr} {c : Nat} {s : St} (h : RSt w q L A c s) : q < w.heap.size := by
  obtain ⟨o, h1, _⟩ := h.ex
  exact h1.lt
theorem RSt.low {w w' : World} {q : Nat} {L : List UInt8} {A : Option Addr} {c : Nat} {s : St} (h : RSt w q L A c s) (hb : w.heap.size ≤ w'.heap.size ∧ ∀ k, k ≤ q → w'.heap[k]? = w.heap[k]?) : RSt w' q L A c s := by
  obtain ⟨⟨o, h1, h2⟩, f⟩ := h
  exact ⟨⟨o, (hb.2 q (Nat.le_refl _)).trans h1, h2⟩, ⟨f.le, f.lim, f.cap, f.bytes.keep fun b o hlt => World.cell?_of_block (hb.2 b (Nat.le_of_lt hlt))⟩⟩
theorem RSt.wrongCell {w : World} {q : Nat} {L : List UInt8} {A : Option Addr} {c : Nat} {s : St} (h : RSt w q L A c s) : w.cell? ⟨q, 2, none⟩ = some (.bool s.2) := by
  obtain ⟨o, h1, _⟩ := h.ex
  exact h1.cells.2.2.1

theorem rnum_s (q most : Nat) (L : List UInt8) (A : Option Addr) (c : Nat) (s : St) (v : Nat) (s2 : St) (hs : numS most s = (v, s2)) (w : World) (h : RSt w q L A c s) (hm : most < 18446744073709551616) :
    Calls Try.prog 38 #[.pointer (some ⟨q, 0, none⟩), .int .u64 most] w fun e w' => e = .returned (.int .u64 (v : Nat)) ∧ RSt w' q L A c s2 ∧ Turn q w w' := by
  obtain ⟨⟨o, h1, h2⟩, f⟩ := h
  obtain ⟨e1, e2, e3⟩ := rel_num h2 most
  refine (rnumber_in q most L A c o s.2 w h1 f h2.2.2 hm).mono ?_
  rintro e w' ⟨he, hr, ht⟩
  unfold numS at hs
  simp only [Prod.mk.injEq] at hs
  obtain ⟨rfl, rfl⟩ := hs
  refine ⟨by rw [he, e1], ⟨⟨_, by simp only; rw [e2]; exact hr, by simp only; rw [e2]; exact e3⟩, f.turn ht h1.lt⟩, ht⟩
theorem rbytes_s (q : Nat) (most : Int) (L : List UInt8) (A : Option Addr) (c : Nat) (s : St) (v : List UInt8) (s2 : St) (hs : bytS most s = (v, s2)) (w : World) (h : RSt w q L A c s) (hlo : -9223372036854775808 ≤ most) (hhi : most ≤ 9223372036854775807) :
    Calls Try.prog 39 #[.pointer (some ⟨q, 0, none⟩), .int .i64 most] w fun e w' => ∃ A1 c1, e = .returned (.slice A1 v.length c1) ∧ v.length ≤ c1 ∧ c1 ≤ maxLen ∧ Owns w' w.heap.size 5 (.slice A1 v.length c1) v ∧ RSt w' q L A c s2 ∧ Turn q w w' := by
  obtain ⟨⟨o, h1, h2⟩, f⟩ := h
  obtain ⟨e1, e2, e3⟩ := rel_bytes h2 most
  refine (rbytes_in q most L A c o s.2 w h1 f h2.2.2 hlo hhi).mono ?_
  rintro e w' ⟨u, rfl, hown, hr, ht⟩
  unfold bytS at hs
  simp only [Prod.mk.injEq] at hs
  obtain ⟨rfl, rfl⟩ := hs
  rw [← e1] at hown
  have ho := hown
  obtain ⟨A1, c1, rfl, k1, k2, k3⟩ := ho.slice
  refine ⟨A1, c1, rfl, k1, k2, hown, ⟨⟨_, by simp only; rw [e2]; exact hr, by simp only; rw [e2]; exact e3⟩, f.turn ht h1.lt⟩, ht⟩
theorem rdig_s (q : Nat) (L : List UInt8) (A : Option Addr) (c : Nat) (s : St) (DL : List Value) (hDL : DL = Lib.byteCells (digF s.1)) (w : World) (h : RSt w q L A c s) :
    Calls Try.prog 41 #[.pointer (some ⟨q, 0, none⟩)] w fun e w' => e = .returned (.agg DL.toArray) ∧ RSt w' q L A c (cutS s) ∧ Turn q w w' := by
  obtain ⟨⟨o, h1, h2⟩, f⟩ := h
  obtain ⟨e1, e2, e3⟩ := rel_cut h2 32 (fun _ => .inr (by omega))
  have ed := rel_dig h2
  refine (rdigest_in q L A c o s.2 w h1 f h2.2.2).mono ?_
  rintro e w' ⟨he, hr, ht⟩
  refine ⟨by rw [he, hDL, ed]; rfl, ⟨⟨_, by unfold cutS; simp only; rw [e2]; exact hr, by unfold cutS; simp only; rw [e2]; exact e3⟩, f.turn ht h1.lt⟩, ht⟩
theorem rdone_s (q : Nat) (L : List UInt8) (A : Option Addr) (c : Nat) (s : St) (w : World) (h : RSt w q L A c s) :
    Calls Try.prog 40 #[.pointer (some ⟨q, 0, none⟩)] w fun e w' => e = .returned (.int .i64 (doneF s.1 s.2)) ∧ ∃ k, w' = w.drewN k := by
  obtain ⟨⟨o, h1, h2⟩, f⟩ := h
  refine (rdone_in q L A c o s.2 w h1 f).mono ?_
  rintro e w' ⟨he, hk⟩
  exact ⟨by rw [he, rel_done h2], hk⟩

/-- What the loop over nibbles has laid, behind n rounds. -/
def hasF (mask n : Nat) : List Bool := (List.range 16).map fun j => decide (j < n) && bitM mask j
def ksF (mask : Nat) (s : St) (n : Nat) : List (List UInt8) := (List.range 16).map fun j => if j < n ∧ bitM mask j = true then kidD mask s j else zeros
theorem hk_ok (mask : Nat) (s : St) (n : Nat) : RnOk (hasF mask n) (ksF mask s n) := by
  refine ⟨by simp [hasF], by simp [ksF], fun d hd => ?_⟩
  simp only [ksF, List.mem_map] at hd
  obtain ⟨j, _, rfl⟩ := hd
  split
  · exact kidD_length _ _ _
  · simp [zeros]
theorem hasF_zero (mask : Nat) : hasF mask 0 = List.replicate 16 false := by
  refine List.ext_getElem (by simp [hasF]) fun i h1 h2 => ?_
  rw [List.getElem_replicate]
  simp [hasF]
theorem ksF_zero (mask : Nat) (s : St) : ksF mask s 0 = List.replicate 16 zeros := by
  refine List.ext_getElem (by simp [ksF]) fun i h1 h2 => ?_
  rw [List.getElem_replicate]
  simp [ksF]
theorem hasF_skip {mask n : Nat} (h : bitM mask n = false) : hasF mask (n + 1) = hasF mask n := by
  refine List.ext_getElem (by simp [hasF]) fun i h1 h2 => ?_
  simp only [hasF, List.getElem_map, List.getElem_range]
  by_cases e : i = n
  · subst e; simp [h]
  · have : decide (i < n + 1) = decide (i < n) := decide_eq_decide.2 (by omega)
    rw [this]
theorem ksF_skip {mask n : Nat} {s : St} (h : bitM mask n = false) : ksF mask s (n + 1) = ksF mask s n := by
  refine List.ext_getElem (by simp [ksF]) fun i h1 h2 => ?_
  simp only [ksF, List.getElem_map, List.getElem_range]
  by_cases e : i = n
  · subst e; simp [h]
  · have : (i < n + 1 ∧ bitM mask i = true) = (i < n ∧ bitM mask i = true) := by
      apply propext
      constructor
      · rintro ⟨a, b⟩; exact ⟨by omega, b⟩
      · rintro ⟨a, b⟩; exact ⟨by omega, b⟩
    simp only [this]
theorem hasF_put {mask n : Nat} (h : bitM mask n = true) : (hasF mask n).set n true = hasF mask (n + 1) := by
  refine List.ext_getElem (by simp [hasF]) fun i h1 h2 => ?_
  rw [List.getElem_set]
  simp only [hasF, List.getElem_map, List.getElem_range]
  split
  · rename_i e; subst e; simp [h]
  · rename_i e
    have : decide (i < n + 1) = decide (i < n) := decide_eq_decide.2 (by omega)
    rw [this]
theorem ksF_put {mask n : Nat} {s : St} (h : bitM mask n = true) : (ksF mask s n).set n (kidD mask s n) = ksF mask s (n + 1) := by
  refine List.ext_getElem (by simp [ksF]) fun i h1 h2 => ?_
  rw [List.getElem_set]
  simp only [ksF, List.getElem_map, List.getElem_range]
  split
  · rename_i e; subst e; simp [h]
  · rename_i e
    have : (i < n + 1 ∧ bitM mask i = true) = (i < n ∧ bitM mask i = true) := by
      apply propext
      constructor
      · rintro ⟨a, b⟩; exact ⟨by omega, b⟩
      · rintro ⟨a, b⟩; exact ⟨by omega, b⟩
    simp only [this]
theorem hasF_get {mask n : Nat} (h : n < 16) : (hasF mask 16).getD n false = bitM mask n := by
  rw [← List.getElem_eq_getD (h := by simp [hasF]; exact h) false]
  simp [hasF, h]
theorem ksF_get {mask n : Nat} {s : St} (h : n < 16) (hb : bitM mask n = true) : (ksF mask s 16).getD n [] = kidD mask s n := by
  rw [← List.getElem_eq_getD (h := by simp [ksF]; exact h) []]
  simp [ksF, h, hb]

end Go.Proofs.Ytlailhjpfadpcaa

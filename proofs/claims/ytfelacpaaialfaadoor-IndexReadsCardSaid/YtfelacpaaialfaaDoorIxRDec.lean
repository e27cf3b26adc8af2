/-
  The index of bytes: the document's Decode.
-/
import Derived.Test.YtfelacpaaialfaaDoorIxRight
import Derived.Test.YtfelacpaaialfaaDoorIxRow
import Derived.Test.YtfelacpaaialfaaDoorRel
namespace Go.Proofs.YtfelacpaaialfaaDoor
open Go.RowKit
set_option linter.unusedVariables false
set_option linter.unusedSimpArgs false

/-- What lies at p and below stays. -/
def Low (p : Nat) (w w' : World) : Prop := w.heap.size ≤ w'.heap.size ∧ ∀ k, k ≤ p → w'.heap[k]? = w.heap[k]?
theorem RIn.low {q : Nat} {L : List UInt8} {A : Option Addr} {c o : Nat} {wr : Bool} {w w' : World} (h : RIn w q L A c o wr) (hb : Low q w w') : RIn w' q L A c o wr := (hb.2 q (Nat.le_refl _)).trans h

theorem RFix.low {q : Nat} {L : List UInt8} {A : Option Addr} {c : Nat} {w w' : World} (h : RFix w q L A c) (hb : Low q w w') : RFix w' q L A c :=
  ⟨h.le, h.lim, h.cap, h.bytes.keep fun b o hlt => World.cell?_of_block (hb.2 b (Nat.le_of_lt hlt))⟩
/-- Block q is a document's In over the bytes L; what is left of it is s. -/
def RSt (w : World) (q : Nat) (L : List UInt8) (A : Option Addr) (c : Nat) (s : St) : Prop := RFix w q L A c ∧ ∃ o, RIn w q L A c o s.2 ∧ Rel s.1 L o s.2

theorem RSt.lt {w : World} {q : Nat} {L : List UInt8} {A : Option Addr} {c : Nat} {s : St} (h : RSt w q L A c s) : q < w.heap.size := by
  obtain ⟨_, o, h, _⟩ := h
  exact h.lt

theorem RSt.low {w w' : World} {q : Nat} {L : List UInt8} {A : Option Addr} {c : Nat} {s : St} (h : RSt w q L A c s) (hb : Low q w w') : RSt w' q L A c s := by
  obtain ⟨f, o, h, r⟩ := h
  exact ⟨f.low hb, o, h.low hb, r⟩

theorem RSt.wrong {w : World} {q : Nat} {L : List UInt8} {A : Option Addr} {c : Nat} {s : St} (h : RSt w q L A c s) : w.cell? ⟨q, 2, none⟩ = some (.bool s.2) := by
  obtain ⟨f, o, h, r⟩ := h
  exact h.cells.2.2.1
variable {L : List UInt8} {A : Option Addr} {c : Nat}
theorem rnumber_fl (q most : Nat) (s : St) (w : World) (h : RSt w q L A c s) (hm : most < 18446744073709551616) :
    Calls Tryd.prog 22 #[.pointer (some ⟨q, 0, none⟩), .int .u64 most] w fun e w' => e = .returned (.int .u64 (numS most s).1) ∧ RSt w' q L A c (numS most s).2 ∧ Turn q w w' := by
  obtain ⟨f, o, h, r⟩ := h
  obtain ⟨e1, e2, e3⟩ := rel_num r most
  refine (rnumber_in q most L A c o s.2 w h f r.2.2 hm).mono ?_
  rintro e w' ⟨he, hi, ht⟩
  refine ⟨by rw [he, ← e1]; rfl, ⟨f.turn ht h.lt, (rnF most L o s.2).2.1, ?_, ?_⟩, ht⟩
  · show RIn w' q L A c _ (s.2 || (numF most s.1).2.2)
    rw [e2]; exact hi
  · show Rel (numF most s.1).2.1 L _ (s.2 || (numF most s.1).2.2)
    rw [e2]; exact e3

theorem rdigest_fl (q : Nat) (s : St) (w : World) (h : RSt w q L A c s) :
    Calls Tryd.prog 23 #[.pointer (some ⟨q, 0, none⟩)] w fun e w' => e = .returned (.agg (Lib.byteCells (digS s).1).toArray) ∧ RSt w' q L A c (digS s).2 ∧ Turn q w w' := by
  obtain ⟨f, o, h, r⟩ := h
  obtain ⟨_, e2, e3⟩ := rel_cut r 32 (fun _ => by omega)
  have ed := rel_dig r
  refine (rdigest_in q L A c o s.2 w h f r.2.2).mono ?_
  rintro e w' ⟨he, hi, ht⟩
  refine ⟨by rw [he, ← ed]; rfl, ⟨f.turn ht h.lt, (takeF 32 L o s.2).2.1, ?_, ?_⟩, ht⟩
  · show RIn w' q L A c _ (s.2 || (cutF 32 s.1).2.2)
    rw [e2]; exact hi
  · show Rel (cutF 32 s.1).2.1 L _ (s.2 || (cutF 32 s.1).2.2)
    rw [e2]; exact e3

theorem rdone_fl (q : Nat) (s : St) (w : World) (h : RSt w q L A c s) :
    Calls Tryd.prog 24 #[.pointer (some ⟨q, 0, none⟩)] w fun e w' => e = .returned (.int .i64 (doneF s.1 s.2)) ∧ ∃ k, w' = w.drewN k := by
  obtain ⟨f, o, h, r⟩ := h
  refine (rdone_in q L A c o s.2 w h f).mono ?_
  rintro e w' ⟨he, hw⟩
  exact ⟨by rw [he, rel_done r], hw⟩
/-- From lo on all that was there is as it was. -/
def Up (lo : Nat) (w w' : World) : Prop := w.heap.size ≤ w'.heap.size ∧ ∀ k, lo ≤ k → k < w.heap.size → w'.heap[k]? = w.heap[k]?
theorem Up.refl (lo : Nat) (w : World) : Up lo w w := ⟨Nat.le_refl _, fun _ _ _ => rfl⟩
theorem Up.trans {lo : Nat} {a b d : World} (h : Up lo a b) (k : Up lo b d) : Up lo a d := ⟨Nat.le_trans h.1 k.1, fun i hi hl => (k.2 i hi (Nat.lt_of_lt_of_le hl h.1)).trans (h.2 i hi hl)⟩
theorem Turn.upQ {lo q : Nat} {w w' : World} (h : Turn q w w') (hq : q < lo) : Up lo w w' := ⟨h.size, fun k hk hl => h.block k hl (fun e => by injection e; omega)⟩
theorem Below.upQ {lo : Nat} {w w' : World} (h : Below w.heap.size w w') : Up lo w w' := ⟨h.size, fun k hk hl => h.block k hl⟩
theorem Up.set {lo : Nat} {a w : World} (h : Up lo a w) {p : Addr} (hp : p.block < lo ∨ a.heap.size ≤ p.block) (v : Value) : Up lo a (w.setCell p v) :=
  ⟨by simpa [World.setCell] using h.1, fun k hk hl => (Below.heap_setCell w p v k (by omega)).trans (h.2 k hk hl)⟩
theorem Up.grown {lo : Nat} {a w w' : World} {o : Option Nat} (h : Up lo a w) (hg : w.grownBy w' o) (ho : ∀ g, o = some g → g < lo ∨ a.heap.size ≤ g) : Up lo a w' :=
  ⟨Nat.le_trans h.1 hg.size, fun k hk hl => (hg.block k (Nat.lt_of_lt_of_le hl h.1) (fun e => by rcases ho k e.symm with h1 | h1 <;> omega)).trans (h.2 k hk hl)⟩
theorem Arr.keepUp {lo : Nat} {w w' : World} {g : Nat} {T : TypeId} {cs : List Value} (h : Arr w g T cs) (hu : Up lo w w') (hg : lo ≤ g) : Arr w' g T cs := (hu.2 g hg h.lt).trans h
theorem IRw.keepUp {w w' : World} {B : Nat} {v : Value} {xs : List Ix} (h : IRw w B v xs) (hu : Up B w w') : IRw w' B v xs := by
  refine ⟨h.1, h.2.1, ?_⟩
  rcases h.2.2 with hn | ⟨g, cap, cur, e, h1, hg, rest⟩
  · exact .inl hn
  · exact .inr ⟨g, cap, cur, e, h1, (hu.2 g h1 (Array.getElem?_eq_some_iff.1 hg).1).trans hg, rest⟩
theorem IRw.empty (w : World) (B : Nat) (hB : B ≤ w.heap.size) : IRw (w.alloc (.cells #[] 61)) B (.slice (some ⟨w.heap.size, 0, none⟩) 0 0) [] :=
  ⟨by simp, rfl, .inr ⟨w.heap.size, 0, #[], rfl, hB, heap_alloc_new w _, Nat.le_refl _, by unfold maxLen; omega, rfl, rfl⟩⟩

/-! ### collected first, judged then -/
def collS : Nat → List Ix × St → List Ix × St
  | 0, r => r
  | n + 1, (acc, s) => if s.2 = true then (acc, s) else collS n (acc ++ [(itemS s).1], (itemS s).2)
open Classical in
noncomputable def finC (r : List Ix × St) : Option (List Ix) := if r.2.2 = true ∨ r.2.1 ≠ [] ∨ ¬ rightP r.1 then none else some r.1
theorem collS_pre : ∀ (n : Nat) (acc : List Ix) (s : St), ∃ M, (collS n (acc, s)).1 = acc ++ M
  | 0, acc, s => ⟨[], by simp [collS]⟩
  | n + 1, acc, s => by
    unfold collS
    by_cases h : s.2 = true
    · rw [if_pos h]; exact ⟨[], by simp⟩
    · rw [if_neg h]
      obtain ⟨M, hM⟩ := collS_pre n (acc ++ [(itemS s).1]) (itemS s).2
      exact ⟨[(itemS s).1] ++ M, by rw [hM, List.append_assoc]⟩
theorem collS_stuck (n : Nat) (acc : List Ix) (s : St) (h : s.2 = true) : collS n (acc, s) = (acc, s) := by
  cases n with
  | zero => rfl
  | succ n => unfold collS; rw [if_pos h]
theorem itemS_bad {s : St} (h : s.2 = true) : (itemS s).2.2 = true := by
  unfold itemS takeI numS digS
  simp [h]
theorem finC_bad {acc : List Ix} {s : St} (h : s.2 = true) : finC (acc, s) = none := by unfold finC; rw [if_pos (.inl h)]
theorem rightP_pre {acc M : List Ix} (h : rightP (acc ++ M)) : rightP acc := fun i hi x hx => by
  have hl : i < (acc ++ M).length := by rw [List.length_append]; omega
  have h2 := h i hl x (by rw [List.getElem?_append_left hi]; exact hx)
  exact ⟨fun y h0 hy => h2.1 y h0 (by rw [List.getElem?_append_left (by omega)]; exact hy), h2.2⟩
theorem rightP_snoc {acc : List Ix} {x : Ix} : rightP (acc ++ [x]) ↔ rightP acc ∧ risesI acc x.d = true ∧ mayI x := by
  constructor
  · intro h
    refine ⟨rightP_pre h, ?_, ?_⟩
    · have h2 := h acc.length (by simp) x (by simp)
      unfold risesI
      rcases List.eq_nil_or_concat acc with rfl | ⟨l, y, rfl⟩
      · rfl
      · rw [List.concat_eq_append] at h2 ⊢
        rw [List.getLast?_append]
        simp only [List.getLast?_singleton, Option.some_or]
        refine h2.1 y (by simp) ?_
        rw [List.length_append, List.length_singleton, Nat.add_sub_cancel, List.append_assoc, List.getElem?_append_right (Nat.le_refl _), Nat.sub_self]
        rfl
    · exact (h acc.length (by simp) x (by simp)).2
  · rintro ⟨h1, h2, h3⟩ i hi z hz
    rw [List.length_append, List.length_singleton] at hi
    by_cases e : i < acc.length
    · rw [List.getElem?_append_left e] at hz
      refine ⟨fun y h0 hy => ?_, (h1 i e z hz).2⟩
      rw [List.getElem?_append_left (by omega)] at hy
      exact (h1 i e z hz).1 y h0 hy
    · obtain rfl : i = acc.length := by omega
      rw [List.getElem?_append_right (Nat.le_refl _), Nat.sub_self] at hz
      simp only [List.getElem?_cons_zero, Option.some.injEq] at hz
      subst hz
      refine ⟨fun y h0 hy => ?_, h3⟩
      rw [List.getElem?_append_left (by omega)] at hy
      unfold risesI at h2
      rw [List.getLast?_eq_getElem?, hy] at h2
      exact h2
theorem rightP_nil : rightP [] := fun i hi => by simp at hi
theorem coll_fin : ∀ (n : Nat) (acc : List Ix) (s : St), rightP acc → finC (collS n (acc, s)) = finI (itemsS n (acc, s))
  | 0, acc, s, h => by
    unfold collS itemsS finC finI
    dsimp only
    by_cases hc : s.2 = true ∨ s.1 ≠ []
    · rw [if_pos hc, if_pos (by rcases hc with h | h; exact .inl h; exact .inr (.inl h))]
    · rw [if_neg hc, if_neg (by
        rintro (h1 | h1 | h1)
        · exact hc (.inl h1)
        · exact hc (.inr h1)
        · exact h1 h)]
  | n + 1, acc, s, h => by
    unfold itemsS
    by_cases hs : s.2 = true
    · rw [collS_stuck _ _ _ hs, finC_bad hs, if_pos (.inl (itemS_bad hs))]
      rfl
    · unfold collS
      rw [if_neg hs]
      by_cases h1 : (itemS s).2.2 = true
      · rw [collS_stuck _ _ _ h1, finC_bad h1, if_pos (.inl h1)]
        rfl
      · by_cases h2 : risesI acc (itemS s).1.d = false ∨ ¬ mayI (itemS s).1
        · rw [if_pos (.inr h2)]
          obtain ⟨M, hM⟩ := collS_pre n (acc ++ [(itemS s).1]) (itemS s).2
          unfold finC
          rw [if_pos (.inr (.inr fun hr => by
            rw [hM] at hr
            obtain ⟨_, a, b⟩ := rightP_snoc.1 (rightP_pre hr)
            rcases h2 with h2 | h2
            · rw [a] at h2; cases h2
            · exact h2 b))]
          rfl
        · rw [if_neg (by
            rintro (h3 | h3)
            · exact h1 h3
            · exact h2 h3)]
          simp only [not_or, Bool.not_eq_false, Decidable.not_not] at h2
          exact coll_fin n _ _ (rightP_snoc.2 ⟨h, h2.1, h2.2⟩)
theorem itemS_num (s : St) : (itemS s).1.b ≤ 2147483648 ∧ (itemS s).1.s ≤ 65535 ∧ (itemS s).1.u ≤ 2147483647 ∧ (itemS s).1.d.length = 32 := by
  unfold itemS takeI
  dsimp only
  exact ⟨numS_le 2147483648 _, numS_le 65535 _, numS_le 2147483647 _, digS_length _⟩
theorem it_built1 (DL : List Value) (hl : DL.length = 32) : Tryd.prog.built 61 [(0, .agg DL.toArray)] = some (DL ++ [Value.int .i64 0, .int .i64 0, .int .i64 0]).toArray := by
  rw [it_fill]
  have hz : itZ.length = 35 := by rfl
  rw [fill_midV (#[(0, 32), (32, 2), (34, 1)][·]?) itZ.toArray 0 0 DL (by rw [hl]; rfl) (by rw [hl, List.size_toArray, hz]; omega), hl]
  rfl
theorem itZeroR (w : World) : (zeroValue 61).run Tryd.prog w = .ok (.agg itZ.toArray) w := by kernel_rfl
theorem wpList_allocZR {P : Program} {ops : Array Oper} {rest : List Oper} {o : Oper} {a : Act} {w : World} {Q : Exit → Act → World → Prop} (hg : o.guard = none) (t : TypeId) (ho : o.op = .alloc t) (Z : Array Value) (hz : (zeroValue t).run P w = .ok (.agg Z) w)
    (h : wpList P ops Q rest (a.put o.dst (.pointer (some ⟨w.heap.size, 0, none⟩))) (w.alloc (.cells Z t))) : wpList P ops Q (o :: rest) a w := by
  refine wpList_plain hg fun K hK => ?_
  unfold Oper.wp execOp
  simp only [ho, Instr.alloc, Sem.run_bind, hz, Result.andThen_ok]
  exact hK _ _ h
theorem wpList_atR {P : Program} {ops : Array Oper} {rest : List Oper} {o : Oper} {a : Act} {w : World} {Q : Exit → Act → World → Prop} (n : Nat) (hd : o.dst = some n) (h : wpList P ops Q (o :: rest) a w) : wpList P ops Q (o :: rest) a w := h
def RIDecPost (b : List UInt8) (w : World) (e : Ending) (w' : World) : Prop :=
  Below w.heap.size w w' ∧ ((decI b = none ∧ e = .returned (.tuple #[.slice none 0 0, .int .i64 3])) ∨
    ∃ v xs, decI b = some xs ∧ e = .returned (.tuple #[v, .int .i64 0]) ∧ IRw w' (w.heap.size + 1) v xs)

set_option maxHeartbeats 16000000 in
set_option maxRecDepth 100000 in
theorem ridec_any (A : Option Addr) (n c : Nat) (b : List UInt8) (hn : b.length = n) (hc : n ≤ c) (hm : c ≤ maxLen) (hlim : n ≤ 65536) (w : World) (hb : Bs w w.heap.size A b) :
    Calls Tryd.prog 6 #[.slice A n c] w (RIDecPost b w) := by
  obtain ⟨KZ, hKZ⟩ : ∃ CZ, CZ = itZ := ⟨_, rfl⟩
  have HKZ := Lib.hid (fun w : World => show (zeroValue 61).run Tryd.prog w = .ok (.agg KZ.toArray) w by rw [hKZ]; exact itZeroR w)
  have HKl := Lib.hid (show KZ.length = 35 by rw [hKZ]; rfl)
  obtain ⟨q, hq⟩ : ∃ z, z = w.heap.size := ⟨_, rfl⟩
  obtain ⟨W1, hW1⟩ : ∃ z, z = w.alloc (.cells #[.slice A n c, .int .i64 0, .bool false] 59) := ⟨_, rfl⟩
  have hb1 : Below w.heap.size w W1 := by rw [hW1]; exact (Below.refl _ _).alloc (Nat.le_refl _) _
  have hri : RIn W1 q b A c 0 false := by
    unfold RIn
    rw [hW1, hq, hn]
    exact heap_alloc_new w _
  have hst : RSt W1 q b A c ((b, false) : St) := ⟨⟨by rw [hn]; exact hc, by omega, hm, (hb.below hb1 (Nat.le_refl _)).more (by omega)⟩, 0, hri, (fun _ => rfl), (fun h => by cases h), Nat.zero_le _⟩
  obtain ⟨R, hR⟩ : ∃ z, decI b = z := ⟨_, rfl⟩
  have HR := Lib.hid hR
  obtain ⟨N, hN⟩ : ∃ z, (numS n (b, false)).1 = z := ⟨_, rfl⟩
  obtain ⟨s1, hs1⟩ : ∃ z, (numS n (b, false)).2 = z := ⟨_, rfl⟩
  have HRv := Lib.hid (show finC (collS N ([], s1)) = R by rw [coll_fin _ _ _ rightP_nil, ← hR, ← hN, ← hs1, ← hn]; rfl)
  have hNn : N ≤ n := by rw [← hN]; exact numS_le _ _
  have HN := Lib.hid hN
  have Hs1 := Lib.hid hs1
  have Hst := Lib.hid hst
  have HW1 := Lib.hid hW1
  have Hq := Lib.hid hq
  have hc63 : c ≤ 9223372036854775807 := by unfold maxLen at hm; omega
  clear hN hs1 hR hW1 hri hst hb hKZ hn hq hm
  go_enter Tryd.func6, Tryd.ntmps6
  go_upto_region 2 with fail
  change Code.wp _ _ _ _ (w.alloc (.cells #[.slice A n c, .int .i64 0, .bool false] 59))
  rw [← HW1.out, ← Hq.out]
  clear HW1
  go_wp2_with fail
  refine Calls.mono (rnumber_fl q n (b, false) W1 Hst.out (by omega)) ?_
  rintro e w2 ⟨rfl, hS2, ht2⟩
  rw [Hs1.out] at hS2
  rw [HN.out]
  have hbw2 : Below w.heap.size w w2 := hb1.trans (ht2.below hb1.size (by have := Hq.out; omega))
  have hq2 := hS2.lt
  clear ht2 hb1 HN Hs1 Hst
  go_upto_region 4 with fail
  obtain ⟨w3, hw3⟩ : ∃ z, z = w2.alloc (.cells #[] 61) := ⟨_, rfl⟩
  change Code.wp _ _ _ _ (w2.alloc (.cells #[] 61))
  rw [← hw3]
  have hb23 : Below w2.heap.size w2 w3 := by rw [hw3]; exact (Below.refl _ _).alloc (Nat.le_refl _) _
  have hV3 : IRw w3 (q + 1) (.slice (some ⟨w2.heap.size, 0, none⟩) 0 0) [] := by rw [hw3]; exact IRw.empty w2 (q + 1) (by omega)
  have hS3 : RSt w3 q b A c s1 := hS2.low ⟨hb23.size, fun i hi => hb23.block i (by omega)⟩
  have hbw3 : Below w.heap.size w w3 := hbw2.trans (hb23.mono hbw2.size)
  clear hw3 hb23 hS2 hbw2
  go_wp2_with fail
  go_loopw [6, 7] (fun ov iv wr => ∃ (k : Nat) (xs : List Ix) (s4 : St), k ≤ N ∧ iv = .int .u64 (k : Nat) ∧ IRw wr (q + 1) ov xs ∧ RSt wr q b A c s4 ∧ Hid (finC (collS (N - k) (xs, s4)) = R) ∧ Hid (xs.length = k ∧ ∀ x ∈ xs, x.b ≤ 2147483648 ∧ x.s ≤ 65535 ∧ x.u ≤ 2147483647) ∧ Below w.heap.size w wr) (fun _ iv _ => N - (Go.RowKit.intOf iv).toNat)
  case atStart =>
    exact ⟨0, [], s1, Nat.zero_le _, rfl, hV3, hS3, Lib.hid HRv.out, Lib.hid ⟨rfl, fun x hx => (by cases hx)⟩, hbw3⟩
  case round =>
    clear hV3 hS3 hbw3
    obtain ⟨k, xs, s4, hk, rfl, hV, hS, Hcont, Hlen, hbw⟩ := hrel
    have hwc := hS.wrong
    obtain ⟨wf, hwf⟩ : ∃ z, s4.2 = z := ⟨_, rfl⟩
    rw [hwf] at hwc
    by_cases hlt : k < N
    · have hd1 : decide ((k : Int) < (N : Int)) = true := by simp; omega
      have hd2 : decide (k < N) = true := by simp; omega
      cases wf with
      | true =>
        have Hno := Lib.hid (show R = none by rw [← Hcont.out, collS_stuck _ _ _ hwf, finC_bad hwf])
        have hdf : doneF s4.1 s4.2 = 3 := if_pos (.inl hwf)
        clear hwf
        go_wp2_with fail
        refine Calls.mono (rdone_fl q s4 wr hS) ?_
        rintro e w5 ⟨rfl, j5, rfl⟩
        rw [hdf]
        clear hdf hwc
        go_wp2_with fail
        go_ret2
        exact ⟨Below.dN hbw j5, .inl ⟨by rw [HR.out]; exact Hno.out, rfl⟩⟩
      | false =>
        go_upto_region 7 with fail
        clear hwc
        have hcont := Hcont.out
        rw [show N - k = (N - (k + 1)) + 1 by omega] at hcont
        unfold collS at hcont
        rw [if_neg (by rw [hwf]; simp)] at hcont
        obtain ⟨fi1, fi2, fi3, fi4⟩ := itemS_num s4
        have hit : itemS s4 = itemS s4 := rfl
        have Hdg := Lib.hid (rdigest_fl q s4 wr hS)
        obtain ⟨d, hd⟩ : ∃ z, (digS s4).1 = z := ⟨_, rfl⟩
        obtain ⟨s5, hs5⟩ : ∃ z, (digS s4).2 = z := ⟨_, rfl⟩
        obtain ⟨tb, htb⟩ : ∃ z, (numS 2147483648 s5).1 = z := ⟨_, rfl⟩
        obtain ⟨s6, hs6⟩ : ∃ z, (numS 2147483648 s5).2 = z := ⟨_, rfl⟩
        obtain ⟨ts, hts⟩ : ∃ z, (numS 65535 s6).1 = z := ⟨_, rfl⟩
        obtain ⟨s7, hs7⟩ : ∃ z, (numS 65535 s6).2 = z := ⟨_, rfl⟩
        obtain ⟨tu, htu⟩ : ∃ z, (numS 2147483647 s7).1 = z := ⟨_, rfl⟩
        obtain ⟨s8, hs8⟩ : ∃ z, (numS 2147483647 s7).2 = z := ⟨_, rfl⟩
        have hie : itemS s4 = (⟨d, tb, ts, tu⟩, s8) := itemS_eq (s1 := s5) (s2 := s6) (s3 := s7) (s4 := s8) (by rw [← hd, ← hs5]) (by rw [← htb, ← hs6]) (by rw [← hts, ← hs7]) (by rw [← htu, ← hs8])
        rw [hie] at hcont fi1 fi2 fi3 fi4
        dsimp only at hcont fi1 fi2 fi3 fi4
        rw [hd, hs5] at Hdg
        have Hct := Lib.hid hcont
        have Hn1 := Lib.hid (fun (w' : World) (h : RSt w' q b A c s5) => show Calls Tryd.prog 22 #[.pointer (some ⟨q, 0, none⟩), .int .u64 2147483648] w' fun e w2 => e = .returned (.int .u64 (tb : Nat)) ∧ RSt w2 q b A c s6 ∧ Turn q w' w2 by have := rnumber_fl q 2147483648 s5 w' h (by omega); rw [htb, hs6] at this; exact this)
        have Hn2 := Lib.hid (fun (w' : World) (h : RSt w' q b A c s6) => show Calls Tryd.prog 22 #[.pointer (some ⟨q, 0, none⟩), .int .u64 65535] w' fun e w2 => e = .returned (.int .u64 (ts : Nat)) ∧ RSt w2 q b A c s7 ∧ Turn q w' w2 by have := rnumber_fl q 65535 s6 w' h (by omega); rw [hts, hs7] at this; exact this)
        have Hn3 := Lib.hid (fun (w' : World) (h : RSt w' q b A c s7) => show Calls Tryd.prog 22 #[.pointer (some ⟨q, 0, none⟩), .int .u64 2147483647] w' fun e w2 => e = .returned (.int .u64 (tu : Nat)) ∧ RSt w2 q b A c s8 ∧ Turn q w' w2 by have := rnumber_fl q 2147483647 s7 w' h (by omega); rw [htu, hs8] at this; exact this)
        obtain ⟨DL, hDL⟩ : ∃ z, z = Lib.byteCells d := ⟨_, rfl⟩
        have hDl : DL.length = 32 := by rw [hDL, Lib.byteCells_length]; exact fi4
        rw [← hDL] at Hdg
        obtain ⟨V0, hV0⟩ : ∃ z, z = DL ++ [Value.int .i64 0, .int .i64 0, .int .i64 0] := ⟨_, rfl⟩
        have HBt := Lib.hid (show Tryd.prog.built 61 [(0, .agg DL.toArray)] = some V0.toArray by rw [it_built1 DL hDl, hV0])
        have hV0l : V0.length = 35 := by rw [hV0, List.length_append, hDl]; rfl
        have HVj := Lib.hid (show (Tryd.prog.info? 61).map (·.size) = some V0.toArray.size ∧ KZ.toArray.size = V0.toArray.size by rw [List.size_toArray, List.size_toArray, hV0l, HKl.out]; exact ⟨itInfo, rfl⟩)
        have HV1 := Lib.hid (show V0.toArray.all (·.oneCell') = true by rw [hV0, hDL]; have := itC_one ⟨d, 1, 0, 0⟩; exact all_oneCell_toArray this)
        have Hset := Lib.hid (show ((V0.set 32 (.int .i64 ((tb : Int) - 1))).set 33 (.int .i64 (ts : Nat))).set 34 (.int .i64 (tu : Nat)) = itC ⟨d, tb, ts, tu⟩ ∧ V0[32]? = some (.int .i64 0) ∧ (V0.set 32 (.int .i64 ((tb : Int) - 1)))[33]? = some (.int .i64 0) ∧ ((V0.set 32 (.int .i64 ((tb : Int) - 1))).set 33 (.int .i64 (ts : Nat)))[34]? = some (.int .i64 0) by
          refine ⟨?_, ?_, ?_, ?_⟩
          · rw [hV0, hDL]
            unfold itC stC
            rw [List.set_append_right _ _ (by rw [← hDL, hDl]; omega), ← hDL, hDl]
            rw [List.set_append_right _ _ (by rw [hDl]; omega), hDl, List.set_append_right _ _ (by rw [hDl]; omega), hDl]
            rfl
          · rw [hV0, List.getElem?_append_right (by omega), hDl]; rfl
          · rw [List.getElem?_set_ne (by omega), hV0, List.getElem?_append_right (by omega), hDl]; rfl
          · rw [List.getElem?_set_ne (by omega), List.getElem?_set_ne (by omega), hV0, List.getElem?_append_right (by omega), hDl]; rfl)
        have HVr := Lib.hid hV
        have Hbw := Lib.hid hbw
        have hqr := hS.lt
        clear hcont hd hs5 htb hs6 hts hs7 htu hs8 hie hit hDL hDl hV0 hV0l hV hbw hS hwf
        go_wp2_with fail
        refine Calls.mono Hdg.out ?_
        rintro e w4 ⟨rfl, hS4, ht4⟩
        obtain ⟨w5, hw5⟩ : ∃ W, W = (w4.alloc (.cells KZ.toArray 61)).setRow w4.heap.size V0.toArray := ⟨_, rfl⟩
        obtain ⟨hX5, hb45⟩ := alloc_row w4 61 KZ.toArray V0
        rw [← hw5] at hX5 hb45
        have Hw5 := Lib.hid hw5
        clear hw5
        go_upto_region 8 with (first | (refine wpList_builtV rfl _ _ rfl _ rfl V0.toArray HBt.out ?_) | ((with_reducible refine wpList_atR 8 (by rfl) ?_); refine wpList_allocZR rfl 61 rfl KZ.toArray (HKZ.out _) ?_) | (refine wpList_store_row rfl _ _ _ rfl w4.heap.size V0.toArray rfl rfl 61 KZ.toArray (heap_alloc_new w4 _) HVj.out.1 HVj.out.2 HV1.out ?_; rw [← Hw5.out]))
        obtain ⟨gv, hgv⟩ : ∃ z, z = w4.heap.size := ⟨_, rfl⟩
        rw [← hgv] at hX5 ⊢
        have hgq : q + 1 ≤ gv ∧ wr.heap.size ≤ gv := by have := ht4.size; omega
        have hS5 : RSt w5 q b A c s5 := hS4.low ⟨hb45.size, fun i hi => hb45.block i (by omega)⟩
        have hu5 : Up (q + 1) wr w5 := (Turn.upQ ht4 (by omega)).trans (Below.upQ hb45)
        have hbw4 : Below w.heap.size w w4 := Hbw.out.trans (ht4.below Hbw.out.size (by have := Hq.out; omega))
        have hbw5 : Below w.heap.size w w5 := hbw4.trans (hb45.mono hbw4.size)
        clear hS4 ht4 hb45 Hdg Hw5 hgv hbw4
        go_wp2_with fail
        refine Calls.mono (Hn1.out w5 hS5) ?_
        rintro e w6 ⟨rfl, hS6, ht6⟩
        have hX6 := hX5.keepUp (Turn.upQ ht6 (show q < q + 1 by omega)) hgq.1
        have hu6 : Up (q + 1) wr w6 := hu5.trans (Turn.upQ ht6 (by omega))
        have hbw6 : Below w.heap.size w w6 := hbw5.trans (ht6.below hbw5.size (by have := Hq.out; omega))
        have hc1 : w6.cell? ⟨gv, 32, none⟩ = some (.int .i64 0) := by rw [hX6.cell]; exact Hset.out.2.1
        have hf1 := hX6.frozen 32
        have HX6 := Lib.hid hX6
        clear hX5 hu5 hbw5 ht6 hS5 hX6
        go_upto_region 9 with fail
        obtain ⟨w7, hw7⟩ : ∃ z, z = w6.setCell ⟨gv, 32, none⟩ (.int .i64 ((tb : Int) - 1)) := ⟨_, rfl⟩
        rw [← hw7]
        have hX7 : Arr w7 gv 61 (V0.set 32 (.int .i64 ((tb : Int) - 1))) := by rw [hw7]; exact HX6.out.set 32 _
        have hu7 : Up (q + 1) wr w7 := by rw [hw7]; exact hu6.set (.inr hgq.2) _
        have hbw7 : Below w.heap.size w w7 := by rw [hw7]; exact hbw6.setCell (by have := Hbw.out.size; show w.heap.size ≤ gv; omega) _
        have hS7 : RSt w7 q b A c s6 := hS6.low ⟨by rw [hw7]; simp [World.setCell], fun i hi => by rw [hw7]; exact Below.heap_setCell w6 _ _ i (by show i ≠ gv; omega)⟩
        clear hw7 HX6 hu6 hbw6 hS6 hc1 hf1
        go_wp2_with fail
        refine Calls.mono (Hn2.out w7 hS7) ?_
        rintro e w8 ⟨rfl, hS8, ht8⟩
        have hX8 := hX7.keepUp (Turn.upQ ht8 (show q < q + 1 by omega)) hgq.1
        have hu8 : Up (q + 1) wr w8 := hu7.trans (Turn.upQ ht8 (by omega))
        have hbw8 : Below w.heap.size w w8 := hbw7.trans (ht8.below hbw7.size (by have := Hq.out; omega))
        have hc1 : w8.cell? ⟨gv, 33, none⟩ = some (.int .i64 0) := by rw [hX8.cell]; exact Hset.out.2.2.1
        have hf1 := hX8.frozen 33
        have HX8 := Lib.hid hX8
        clear hX7 hu7 hbw7 ht8 hS7 hX8
        go_upto_region 10 with fail
        obtain ⟨w9, hw9⟩ : ∃ z, z = w8.setCell ⟨gv, 33, none⟩ (.int .i64 (ts : Nat)) := ⟨_, rfl⟩
        rw [← hw9]
        have hX9 : Arr w9 gv 61 ((V0.set 32 (.int .i64 ((tb : Int) - 1))).set 33 (.int .i64 (ts : Nat))) := by rw [hw9]; exact HX8.out.set 33 _
        have hu9 : Up (q + 1) wr w9 := by rw [hw9]; exact hu8.set (.inr hgq.2) _
        have hbw9 : Below w.heap.size w w9 := by rw [hw9]; exact hbw8.setCell (by have := Hbw.out.size; show w.heap.size ≤ gv; omega) _
        have hS9 : RSt w9 q b A c s7 := hS8.low ⟨by rw [hw9]; simp [World.setCell], fun i hi => by rw [hw9]; exact Below.heap_setCell w8 _ _ i (by show i ≠ gv; omega)⟩
        clear hw9 HX8 hu8 hbw8 hS8 hc1 hf1
        go_wp2_with fail
        refine Calls.mono (Hn3.out w9 hS9) ?_
        rintro e w10 ⟨rfl, hS10, ht10⟩
        have hX10 := hX9.keepUp (Turn.upQ ht10 (show q < q + 1 by omega)) hgq.1
        have hu10 : Up (q + 1) wr w10 := hu9.trans (Turn.upQ ht10 (by omega))
        have hbw10 : Below w.heap.size w w10 := hbw9.trans (ht10.below hbw9.size (by have := Hq.out; omega))
        have hc1 : w10.cell? ⟨gv, 34, none⟩ = some (.int .i64 0) := by rw [hX10.cell]; exact Hset.out.2.2.2
        have hf1 := hX10.frozen 34
        have HX10 := Lib.hid hX10
        clear hX9 hu9 hbw9 ht10 hS9 hX10
        go_upto_region 11 with fail
        obtain ⟨w11, hw11⟩ : ∃ z, z = w10.setCell ⟨gv, 34, none⟩ (.int .i64 (tu : Nat)) := ⟨_, rfl⟩
        rw [← hw11]
        obtain ⟨x, hx⟩ : ∃ z : Ix, z = ⟨d, tb, ts, tu⟩ := ⟨_, rfl⟩
        obtain ⟨XL, hXL⟩ : ∃ z, z = itC x := ⟨_, rfl⟩
        have hX11 : Arr w11 gv 61 XL := by rw [hw11, hXL, hx, ← Hset.out.1]; exact HX10.out.set 34 _
        have hu11 : Up (q + 1) wr w11 := by rw [hw11]; exact hu10.set (.inr hgq.2) _
        have hbw11 : Below w.heap.size w w11 := by rw [hw11]; exact hbw10.setCell (by have := Hbw.out.size; show w.heap.size ≤ gv; omega) _
        have hS11 : RSt w11 q b A c s8 := hS10.low ⟨by rw [hw11]; simp [World.setCell], fun i hi => by rw [hw11]; exact Below.heap_setCell w10 _ _ i (by show i ≠ gv; omega)⟩
        have hV11 := HVr.out.keepUp hu11
        have hx32 : x.d.length = 32 := by rw [hx]; exact fi4
        have HXl := Lib.hid (show XL.length = 35 by rw [hXL]; exact itC_length hx32)
        have HXi := Lib.hid (show (Tryd.prog.info? 61).map (·.size) = some XL.toArray.size by rw [List.size_toArray, HXl.out]; exact itInfo)
        have HXL := Lib.hid hXL
        have Hx32 := Lib.hid hx32
        have Hx := Lib.hid hx
        have hqw : q + 1 ≤ w11.heap.size := by have := hX11.lt; omega
        have hba : Below w11.heap.size w11 (w11.alloc (.cells XL.toArray 61)) := (Below.refl _ _).alloc (Nat.le_refl _) _
        have hVa := hV11.up hba
        have hSa : RSt (w11.alloc (.cells XL.toArray 61)) q b A c s8 := hS11.low ⟨hba.size, fun i hi => hba.block i (by omega)⟩
        have hbwa : Below w.heap.size w (w11.alloc (.cells XL.toArray 61)) := hbw11.trans (hba.mono hbw11.size)
        have hqa : q + 1 ≤ (w11.alloc (.cells XL.toArray 61)).heap.size := Nat.le_trans hqw hba.size
        have Ha := Lib.hid (Arr.new w11 61 XL)
        have hxl : xs.length ≤ 2000000 := by rw [Hlen.out.1]; omega
        have hown := hVa.lt
        clear hw11 HX10 hu10 hbw10 hS10 hc1 hf1 hu11 hbw11 hS11 hV11 hba hXL hx hx32 hqw
        go_wp2_with (first
          | ((with_reducible refine wpList_atR 49 (by rfl) ?_); refine wpList_load_row rfl _ _ rfl gv rfl 61 XL.toArray (0, 0) _ hX11 Tryd.underlying61 rfl HXi.out ?_)
          | (refine wpList_build_it rfl _ rfl XL HXl.out rfl ?_)
          | (refine wpList_append_it rfl _ _ rfl hVa hqa rfl _ _ rfl x Hx32.out XL HXL.out Ha.out hxl ?_; intro v' w' hV' hg'))
        have hS' : RSt w' q b A c s8 := hSa.low ⟨hg'.size, fun i hi => hg'.block i (by omega) (fun e => by have := (hown i e.symm).1; omega)⟩
        have hb' : Below w.heap.size w w' := hbwa.grown hg' hbwa.size fun g hg => by have := (hown g hg).1; have := Hq.out; omega
        have Hnx := Lib.hid (show finC (collS (N - (k + 1)) (xs ++ [x], s8)) = R by rw [Hx.out]; exact Hct.out)
        have Hln := Lib.hid (show (xs ++ [x]).length = k + 1 ∧ ∀ y ∈ xs ++ [x], y.b ≤ 2147483648 ∧ y.s ≤ 65535 ∧ y.u ≤ 2147483647 by
          refine ⟨by rw [List.length_append, Hlen.out.1]; rfl, fun y hy => ?_⟩
          rcases List.mem_append.1 hy with hy | hy
          · exact Hlen.out.2 y hy
          · rw [List.mem_singleton] at hy
            rw [hy, Hx.out]
            exact ⟨fi1, fi2, fi3⟩)
        go_roundw
        case rel => exact ⟨k + 1, xs ++ [x], s8, by omega, by go_num, hV', hS', Hnx, Hln, hb'⟩
        case measure => simp [Go.RowKit.intOf]; omega
    · obtain rfl : k = N := by omega
      have hd1 : decide ((k : Int) < (k : Int)) = false := by simp
      have hd2 : decide (k < k) = false := by simp
      have hfin := Hcont.out
      rw [Nat.sub_self] at hfin
      unfold collS at hfin
      have Hfin := Lib.hid hfin
      clear hfin hwc
      go_wp2_with fail
      refine Calls.mono (rdone_fl q s4 wr hS) ?_
      rintro e w5 ⟨rfl, j5, rfl⟩
      by_cases hdn : s4.2 = true ∨ 0 < s4.1.length
      · have Hno := Lib.hid (show R = none by
          rw [← Hfin.out]; unfold finC; exact if_pos (hdn.imp id fun h => .inl fun e => by dsimp only at e; rw [e] at h; exact absurd h (by simp)))
        have hdf : doneF s4.1 s4.2 = 3 := if_pos hdn
        rw [hdf]
        clear hdn hdf hwf
        go_wp2_with fail
        go_ret2
        exact ⟨Below.dN hbw j5, .inl ⟨by rw [HR.out]; exact Hno.out, rfl⟩⟩
      · have hdf : doneF s4.1 s4.2 = 0 := if_neg hdn
        rw [hdf]
        have Hdn := Lib.hid hdn
        have hV5 : IRw (wr.drewN j5) (q + 1) _ xs := hV.up (Below.dN (Below.refl _ _) j5)
        obtain ⟨Ax, cx, hvx, hx1, hx2, hx3⟩ := hV5.slice
        obtain ⟨nx, hnx⟩ : ∃ z, xs.length = z := ⟨_, rfl⟩
        rw [hnx] at hvx hx1
        subst hvx
        have Hright := Lib.hid (iright_any xs Ax nx cx (wr.drewN j5) hnx hx1 (by unfold maxLen at hx2; omega) hx3 Hlen.out.2)
        have HV5 := Lib.hid hV5
        have hcx : cx ≤ 9223372036854775807 := by unfold maxLen at hx2; omega
        clear hdn hdf hwf hV hx3 hnx hV5 hx2
        go_wp2_with fail
        refine Calls.mono Hright.out ?_
        rintro e w6 ⟨⟨r, rfl, hr⟩, hb6⟩
        have hb56 : Below w.heap.size w w6 := (Below.dN hbw j5).trans (hb6.mono (Below.dN hbw j5).size)
        have HV6 := Lib.hid (HV5.out.up hb6)
        have Hr := Lib.hid hr
        clear hb6 hr
        cases r with
        | true =>
          have Hyes := Lib.hid (show R = some xs by
            rw [← Hfin.out]; unfold finC
            rw [if_neg (by
              rintro (h | h | h)
              · exact Hdn.out (.inl h)
              · exact Hdn.out (.inr (List.length_pos_iff.2 h))
              · exact h (Hr.out.1 rfl))])
          go_wp2_with fail
          go_ret2
          exact ⟨hb56, .inr ⟨_, xs, by rw [HR.out]; exact Hyes.out, rfl, by rw [← Hq.out]; exact HV6.out⟩⟩
        | false =>
          have Hno := Lib.hid (show R = none by
            rw [← Hfin.out]; unfold finC
            rw [if_pos (.inr (.inr fun h => by have := Hr.out.2 h; cases this))])
          go_wp2_with fail
          go_ret2
          exact ⟨hb56, .inl ⟨by rw [HR.out]; exact Hno.out, rfl⟩⟩

end Go.Proofs.YtfelacpaaialfaaDoor

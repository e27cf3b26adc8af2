/-
  The document's In, in the words of what is left; rows that stay.
-/
import Derived.Test.YtcajhndhjlfmaaaVrMath
import Derived.Test.YtcajhndhjlfmaaaVrF
import Derived.Test.YtcajhndhjlfmaaaRefBytes
import Derived.Test.YtcajhndhjlfmaaaRel
namespace Go.Proofs.Ytcajhndhjlfmaaa
open Go.RowKit
set_option linter.unusedVariables false
set_option linter.unusedSimpArgs false

/-- What lies at p and below stays. -/
def Low (p : Nat) (w w' : World) : Prop := w.heap.size ≤ w'.heap.size ∧ ∀ k, k ≤ p → w'.heap[k]? = w.heap[k]?
theorem RIn.low {q : Nat} {L : List UInt8} {A : Option Addr} {c o : Nat} {wr : Bool} {w w' : World} (h : RIn w q L A c o wr) (hb : Low q w w') : RIn w' q L A c o wr := (hb.2 q (Nat.le_refl _)).trans h

theorem RFix.low {q : Nat} {L : List UInt8} {A : Option Addr} {c : Nat} {w w' : World} (h : RFix w q L A c) (hb : Low q w w') : RFix w' q L A c :=
  ⟨h.le, h.lim, h.cap, h.bytes.keep fun b o hlt => World.cell?_of_block (hb.2 b (Nat.le_of_lt hlt))⟩
/-- Block q is a document's In over the bytes L; what is left of it is s. -/
def RSt (w : World) (q : Nat) (L : List UInt8) (A : Option Addr) (c : Nat) (s : St) : Prop := RFix w q L A c ∧ ∃ o, RIn w q L A c o s.2 ∧ Rel s.1 L o s.2

theorem RSt.lt {w : World} {q : Nat} {L : List UInt8} {A : Option Addr} {c : Nat} {s : St} (h : RSt w q L A c s) : q < w.heap.size := by
  obtain ⟨_, o, h, _⟩ := h
  exact h.lt

theorem RSt.low {w w' : World} {q : Nat} {L : List UInt8} {A : Option Addr} {c : Nat} {s : St} (h : RSt w q L A c s) (hb : Low q w w') : RSt w' q L A c s := by
  obtain ⟨f, o, h, r⟩ := h
  exact ⟨f.low hb, o, h.low hb, r⟩

theorem RSt.wrong {w : World} {q : Nat} {L : List UInt8} {A : Option Addr} {c : Nat} {s : St} (h : RSt w q L A c s) : w.cell? ⟨q, 2, none⟩ = some (.bool s.2) := by
  obtain ⟨f, o, h, r⟩ := h
  exact h.cells.2.2.1
variable {L : List UInt8} {A : Option Addr} {c : Nat}
variable {L : List UInt8} {A : Option Addr} {c : Nat}
theorem rnumber_fl (q most : Nat) (s : St) (w : World) (h : RSt w q L A c s) (hm : most < 18446744073709551616) :
    Calls Try.prog 35 #[.pointer (some ⟨q, 0, none⟩), .int .u64 most] w fun e w' => e = .returned (.int .u64 (numS most s).1) ∧ RSt w' q L A c (numS most s).2 ∧ Turn q w w' := by
  obtain ⟨f, o, h, r⟩ := h
  obtain ⟨e1, e2, e3⟩ := rel_num r most
  refine (rnumber_in q most L A c o s.2 w h f r.2.2 hm).mono ?_
  rintro e w' ⟨he, hi, ht⟩
  refine ⟨by rw [he, ← e1]; rfl, ⟨f.turn ht h.lt, (rnF most L o s.2).2.1, ?_, ?_⟩, ht⟩
  · show RIn w' q L A c _ (s.2 || (numF most s.1).2.2)
    rw [e2]; exact hi
  · show Rel (numF most s.1).2.1 L _ (s.2 || (numF most s.1).2.2)
    rw [e2]; exact e3

theorem rdigest_fl (q : Nat) (s : St) (w : World) (h : RSt w q L A c s) :
    Calls Try.prog 37 #[.pointer (some ⟨q, 0, none⟩)] w fun e w' => e = .returned (.agg (Lib.byteCells (digS s).1).toArray) ∧ RSt w' q L A c (digS s).2 ∧ Turn q w w' := by
  obtain ⟨f, o, h, r⟩ := h
  obtain ⟨_, e2, e3⟩ := rel_cut r 32 (fun _ => by omega)
  have ed := rel_dig r
  refine (rdigest_in q L A c o s.2 w h f r.2.2).mono ?_
  rintro e w' ⟨he, hi, ht⟩
  refine ⟨by rw [he, ← ed]; rfl, ⟨f.turn ht h.lt, (takeF 32 L o s.2).2.1, ?_, ?_⟩, ht⟩
  · show RIn w' q L A c _ (s.2 || (cutF 32 s.1).2.2)
    rw [e2]; exact hi
  · show Rel (cutF 32 s.1).2.1 L _ (s.2 || (cutF 32 s.1).2.2)
    rw [e2]; exact e3

theorem rbytes_fl (q : Nat) (s : St) (w : World) (h : RSt w q L A c s) :
    Calls Try.prog 36 #[.pointer (some ⟨q, 0, none⟩), .int .i64 20] w fun e w' => ∃ A' c', e = .returned (.slice A' (nmV s).1.length c') ∧ (nmV s).1.length ≤ c' ∧ c' ≤ maxLen ∧ Bs w' w'.heap.size A' (nmV s).1 ∧ (∀ a : Addr, A' = some a → w.heap.size ≤ a.block) ∧ RSt w' q L A c (nmV s).2 ∧ Turn q w w' := by
  obtain ⟨f, o, h, r⟩ := h
  obtain ⟨e1, e2, e3⟩ := rel_bytes r 20
  refine (rbytes_in q 20 L A c o s.2 w h f r.2.2 (by omega) (by omega)).mono ?_
  rintro e w' ⟨v, he, hown, hi, ht⟩
  rw [← e1] at hown
  have hlb : ∀ a n k, v = .slice (some a) n k → w.heap.size ≤ a.block := by
    intro a n k e
    rcases hown.2 with ⟨hv, _⟩ | ⟨g, cap, cur, hv, hge, _⟩
    · rw [hv] at e; cases e
    · rw [hv] at e; cases e; exact hge
  obtain ⟨A', c', rfl, k1, k2, k3⟩ := hown.slice
  refine ⟨A', c', he, k1, k2, k3, fun a e => hlb a _ _ (by rw [e]), ⟨f.turn ht h.lt, (rbF 20 L o s.2).2.1, ?_, ?_⟩, ht⟩
  · show RIn w' q L A c _ (s.2 || (bytesF 20 s.1).2.2)
    rw [e2]; exact hi
  · show Rel (bytesF 20 s.1).2.1 L _ (s.2 || (bytesF 20 s.1).2.2)
    rw [e2]; exact e3

theorem rdone_fl (q : Nat) (s : St) (w : World) (h : RSt w q L A c s) :
    Calls Try.prog 39 #[.pointer (some ⟨q, 0, none⟩)] w fun e w' => e = .returned (.int .i64 (doneF s.1 s.2)) ∧ ∃ k, w' = w.drewN k := by
  obtain ⟨f, o, h, r⟩ := h
  refine (rdone_in q L A c o s.2 w h f).mono ?_
  rintro e w' ⟨he, hw⟩
  exact ⟨by rw [he, rel_done r], hw⟩
set_option maxHeartbeats 1000000 in
theorem rnamed_any (s : ByteArray) (hs : s.size ≤ maxLen) (w : World) (b : Bool) (hb : namedB s.data.toList = b) : Calls Try.prog 38 #[.string s] w fun e w' => e = .returned (.bool b) ∧ w = w' := by
  unfold maxLen at hs
  have Hb := Lib.hid hb
  clear hb
  go_enter Try.func38, Try.ntmps38
  go_wp2
  go_loop [3] (fun i => ∃ k : Nat, k ≤ s.size ∧ i = .int .i64 k ∧ Hid (∀ (j : Nat) (hj : j < s.size), j < k → 33 ≤ s[j].toNat ∧ s[j].toNat ≤ 126)) (fun i => s.size - (Go.RowKit.intOf i).toNat)
  case atStart => exact ⟨0, Nat.zero_le _, rfl, fun j hj h => by omega⟩
  case round =>
    obtain ⟨k, hk, rfl, Hk⟩ := hrel
    by_cases hlt : k < s.size
    · by_cases hlo : s[k].toNat < 33
      · have hdl : decide ((s[k].toNat : Int) < 33) = true := by simp; omega
        have Hbad := Lib.hid (namedB_bad s k hlt (.inl hlo))
        go_wp2
        go_ret
        exact ⟨by rw [← Hb.out, Hbad.out]; rfl, rfl⟩
      · have hdl : decide ((s[k].toNat : Int) < 33) = false := by simp; omega
        by_cases hhi : 126 < s[k].toNat
        · have hdh : decide ((s[k].toNat : Int) > 126) = true := by simp; omega
          have Hbad := Lib.hid (namedB_bad s k hlt (.inr hhi))
          go_wp2
          go_ret
          exact ⟨by rw [← Hb.out, Hbad.out]; rfl, rfl⟩
        · have hdh : decide ((s[k].toNat : Int) > 126) = false := by simp; omega
          have Hk2 : Hid (∀ (j : Nat) (hj : j < s.size), j < k + 1 → 33 ≤ s[j].toNat ∧ s[j].toNat ≤ 126) := fun j hj h => by
            by_cases e : j = k
            · subst e; omega
            · exact Hk.out j hj (by omega)
          go_wp2
          go_round
          case rel => exact ⟨k + 1, by omega, by go_num, Hk2⟩
          case measure => simp [Go.RowKit.intOf]; omega
    · have hd3 : decide (k < s.size) = false := by simpa using hlt
      by_cases h1 : s.size < 1
      · have hd : decide ((s.size : Int) ≥ 1) = false := by simp; omega
        have Hbad := Lib.hid (namedB_short s (.inl h1))
        go_wp2
        go_ret
        exact ⟨by rw [← Hb.out, Hbad.out]; rfl, rfl⟩
      · have hd : decide ((s.size : Int) ≥ 1) = true := by simp; omega
        by_cases h2 : 20 < s.size
        · have hd2 : decide ((s.size : Int) ≤ 20) = false := by simp; omega
          have Hbad := Lib.hid (namedB_short s (.inr h2))
          go_wp2
          go_ret
          exact ⟨by rw [← Hb.out, Hbad.out]; rfl, rfl⟩
        · have hd2 : decide ((s.size : Int) ≤ 20) = true := by simp; omega
          have Hgood := Lib.hid (namedB_eq s (by omega) (by omega) fun j hj => Hk.out j hj (by omega))
          go_wp2
          go_ret
          exact ⟨by rw [← Hb.out, Hgood.out]; rfl, rfl⟩

theorem VRow.empty (w : World) (B : Nat) (G : Nat → Prop) (hB : B ≤ w.heap.size) : VRow (w.alloc (.cells #[] 83)) B G (.slice (some ⟨w.heap.size, 0, none⟩) 0 0) [] :=
  ⟨by simp, rfl, .inr ⟨w.heap.size, 0, #[], rfl, hB, heap_alloc_new w _, Nat.le_refl _, by unfold maxLen; omega, rfl, rfl⟩⟩

/-- From lo on all that was there is as it was. -/
def Up (lo : Nat) (w w' : World) : Prop := w.heap.size ≤ w'.heap.size ∧ ∀ k, lo ≤ k → k < w.heap.size → w'.heap[k]? = w.heap[k]?
theorem Up.refl (lo : Nat) (w : World) : Up lo w w := ⟨Nat.le_refl _, fun _ _ _ => rfl⟩
theorem Up.trans {lo : Nat} {a b d : World} (h : Up lo a b) (k : Up lo b d) : Up lo a d := ⟨Nat.le_trans h.1 k.1, fun i hi hl => (k.2 i hi (Nat.lt_of_lt_of_le hl h.1)).trans (h.2 i hi hl)⟩
theorem Turn.upQ {lo q : Nat} {w w' : World} (h : Turn q w w') (hq : q < lo) : Up lo w w' := ⟨h.size, fun k hk hl => h.block k hl (fun e => by injection e; omega)⟩
theorem Below.upQ {lo : Nat} {w w' : World} (h : Below w.heap.size w w') : Up lo w w' := ⟨h.size, fun k hk hl => h.block k hl⟩
theorem Up.set {lo : Nat} {a w : World} (h : Up lo a w) {p : Addr} (hp : p.block < lo ∨ a.heap.size ≤ p.block) (v : Value) : Up lo a (w.setCell p v) :=
  ⟨by simpa [World.setCell] using h.1, fun k hk hl => (Below.heap_setCell w p v k (by omega)).trans (h.2 k hk hl)⟩
theorem Up.grown {lo : Nat} {a w w' : World} {o : Option Nat} (h : Up lo a w) (hg : w.grownBy w' o) (ho : ∀ g, o = some g → g < lo ∨ a.heap.size ≤ g) : Up lo a w' :=
  ⟨Nat.le_trans h.1 hg.size, fun k hk hl => (hg.block k (Nat.lt_of_lt_of_le hl h.1) (fun e => by rcases ho k e.symm with h1 | h1 <;> omega)).trans (h.2 k hk hl)⟩
theorem CRow.keepUp {w w' : World} {B : Nat} {v : Value} {cs : List Cl} (h : CRow w B v cs) (hu : Up B w w') : CRow w' B v cs := by
  refine ⟨h.1, h.2.1, ?_⟩
  rcases h.2.2 with hn | ⟨g, cap, cur, e, h1, hg, rest⟩
  · exact .inl hn
  · exact .inr ⟨g, cap, cur, e, h1, (hu.2 g h1 (Array.getElem?_eq_some_iff.1 hg).1).trans hg, rest⟩
theorem VRow.keepUp {w w' : World} {B : Nat} {v : Value} {xs : List Vx} (h : VRow w B (fun b => B ≤ b) v xs) (hu : Up B w w') : VRow w' B (fun b => B ≤ b) v xs := by
  refine ⟨fun x hx => (h.1 x hx).keep hu.1 (fun b hb hlt => hu.2 b hb.1 hlt) fun _ _ h => h, h.2.1, ?_⟩
  rcases h.2.2 with hn | ⟨g, cap, cur, e, h1, hg, rest⟩
  · exact .inl hn
  · exact .inr ⟨g, cap, cur, e, h1, (hu.2 g h1 (Array.getElem?_eq_some_iff.1 hg).1).trans hg, rest⟩
theorem Arr.keepUp {lo : Nat} {w w' : World} {g : Nat} {T : TypeId} {cs : List Value} (h : Arr w g T cs) (hu : Up lo w w') (hg : lo ≤ g) : Arr w' g T cs := (hu.2 g hg h.lt).trans h
theorem Up.more {lo lo' : Nat} {w w' : World} (h : Up lo w w') (hl : lo ≤ lo') : Up lo' w w' := ⟨h.1, fun k hk hl2 => h.2 k (by omega) hl2⟩
/-- Between lo and hi all is as it was. -/
def Mid (lo hi : Nat) (w w' : World) : Prop := w.heap.size ≤ w'.heap.size ∧ ∀ k, lo ≤ k → k < hi → k < w.heap.size → w'.heap[k]? = w.heap[k]?
theorem Up.mid {lo hi : Nat} {w w' : World} (h : Up lo w w') : Mid lo hi w w' := ⟨h.1, fun k hk _ hl => h.2 k hk hl⟩
theorem Mid.trans {lo hi : Nat} {a b d : World} (h : Mid lo hi a b) (k : Mid lo hi b d) : Mid lo hi a d := ⟨Nat.le_trans h.1 k.1, fun i hi1 hi2 hl => (k.2 i hi1 hi2 (Nat.lt_of_lt_of_le hl h.1)).trans (h.2 i hi1 hi2 hl)⟩
theorem Mid.set {lo hi : Nat} {a w : World} (h : Mid lo hi a w) {p : Addr} (hp : hi ≤ p.block) (v : Value) : Mid lo hi a (w.setCell p v) :=
  ⟨by simpa [World.setCell] using h.1, fun k hk hk2 hl => (Below.heap_setCell w p v k (by omega)).trans (h.2 k hk hk2 hl)⟩
theorem Mid.grown {lo hi : Nat} {a w w' : World} {o : Option Nat} (h : Mid lo hi a w) (hg : w.grownBy w' o) (ho : ∀ g, o = some g → hi ≤ g) : Mid lo hi a w' :=
  ⟨Nat.le_trans h.1 hg.size, fun k hk hk2 hl => (hg.block k (Nat.lt_of_lt_of_le hl h.1) (fun e => by have := ho k e.symm; omega)).trans (h.2 k hk hk2 hl)⟩
theorem VRow.narrow {w : World} {B hi : Nat} {v : Value} {xs : List Vx} (h : VRow w B (fun b => B ≤ b) v xs) (hw : w.heap.size ≤ hi) : VRow w B (fun b => B ≤ b ∧ b < hi) v xs :=
  ⟨fun x hx => (h.1 x hx).keep (Nat.le_refl _) (fun _ _ _ => rfl) fun b hb h => ⟨⟨h.1, by omega⟩, h.2⟩, h.2⟩
theorem VRow.widen {w : World} {B hi : Nat} {v : Value} {xs : List Vx} (h : VRow w B (fun b => B ≤ b ∧ b < hi) v xs) : VRow w B (fun b => B ≤ b) v xs :=
  ⟨fun x hx => (h.1 x hx).keep (Nat.le_refl _) (fun _ _ _ => rfl) fun b hb h => ⟨h.1.1, h.2⟩, h.2⟩
theorem VRow.keepMid {w w' : World} {B hi : Nat} {v : Value} {xs : List Vx} (h : VRow w B (fun b => B ≤ b ∧ b < hi) v xs) (ho : ∀ g, v.ownBlock = some g → g < hi) (hm : Mid B hi w w') : VRow w' B (fun b => B ≤ b ∧ b < hi) v xs := by
  refine ⟨fun x hx => (h.1 x hx).keep hm.1 (fun b hb hlt => hm.2 b hb.1.1 hb.1.2 hlt) fun _ _ h => h, h.2.1, ?_⟩
  rcases h.2.2 with hn | ⟨g, cap, cur, e, h1, hg, rest⟩
  · exact .inl hn
  · exact .inr ⟨g, cap, cur, e, h1, (hm.2 g h1 (ho g (by rw [e]; rfl)) (Array.getElem?_eq_some_iff.1 hg).1).trans hg, rest⟩
/-- What follows a volume's cells. -/
def contV (N : Nat) (acc : List Vol) (nm : List UInt8) (q : Nat) (f : Bool) (r : Option (List Cl × St)) : Option (List Vol) :=
  match takeG q f r with
  | none => none
  | some x => if namedB nm = false ∨ bytesBefore (lastV acc) nm = false then none else finV (volsS N (acc ++ [⟨⟨nm.toArray⟩, x.1.1, x.1.2.1, x.1.2.2⟩], x.2))
theorem contV_none (N : Nat) (acc : List Vol) (nm : List UInt8) (q : Nat) (f : Bool) : contV N acc nm q f none = none := rfl
theorem contV_wrong {N : Nat} {acc : List Vol} {nm : List UInt8} {q : Nat} {f : Bool} {cs : List Cl} {t : St} (h : t.2 = true) : contV N acc nm q f (some (cs, t)) = none := by
  unfold contV takeG
  dsimp only
  rw [if_pos h]
theorem contV_bad {N : Nat} {acc : List Vol} {nm : List UInt8} {q : Nat} {f : Bool} {cs : List Cl} {t : St} (h : namedB nm = false ∨ bytesBefore (lastV acc) nm = false) : contV N acc nm q f (some (cs, t)) = none := by
  unfold contV takeG
  dsimp only
  cases ht : t.2 with
  | true => rw [if_pos rfl]
  | false => rw [if_neg (by simp)]; exact if_pos h
theorem contV_good {N : Nat} {acc : List Vol} {nm : List UInt8} {q : Nat} {f : Bool} {cs : List Cl} {t : St} (ht : t.2 = false) (h1 : namedB nm = true) (h2 : bytesBefore (lastV acc) nm = true) : contV N acc nm q f (some (cs, t)) = finV (volsS N (acc ++ [⟨⟨nm.toArray⟩, q, f, cs⟩], t)) := by
  unfold contV takeG
  dsimp only
  rw [if_neg (by rw [ht]; simp)]
  exact if_neg (by rw [h1, h2]; simp)
theorem volsS_cont (N : Nat) (acc : List Vol) (s : St) : finV (volsS (N + 1) (acc, s)) = contV N acc (nmV s).1 ((numS 2097153 (nmV s).2).1 / 2) (decide ((numS 2097153 (nmV s).2).1 % 2 = 1)) (cellsS (numS ((numS 2097153 (nmV s).2).1 / 2) (numS 2097153 (nmV s).2).2).1 ([], (numS ((numS 2097153 (nmV s).2).1 / 2) (numS 2097153 (nmV s).2).2).2)) := by
  conv => lhs; unfold volsS
  unfold contV takeV
  dsimp only
  cases h : takeG ((numS 2097153 (nmV s).2).1 / 2) (decide ((numS 2097153 (nmV s).2).1 % 2 = 1)) (cellsS (numS ((numS 2097153 (nmV s).2).1 / 2) (numS 2097153 (nmV s).2).2).1 ([], (numS ((numS 2097153 (nmV s).2).1 / 2) (numS 2097153 (nmV s).2).2).2)) with
  | none => rfl
  | some x =>
    dsimp only
    by_cases hc : namedB (nmV s).1 = false ∨ bytesBefore (lastV acc) (nmV s).1 = false
    · rw [if_pos hc, if_pos hc]; rfl
    · rw [if_neg hc, if_neg hc]
theorem cellsS_step {m : Nat} {acc : List Cl} {s : St} : cellsS (m + 1) (acc, s) = if (cellS s).2.2 = true ∨ (((cellS s).1.1 : Nat) : Int) ≤ lastC acc then none else cellsS m (acc ++ [(cellS s).1], (cellS s).2) := rfl
theorem numF_len (most : Nat) (l : List UInt8) : (numF most l).2.1.length ≤ l.length := by
  unfold numF
  split
  · simp
  · simp only [List.length_drop]; omega
theorem cutF_len (n : Nat) (l : List UInt8) : (cutF n l).2.1.length ≤ l.length := by
  unfold cutF
  split
  · simp
  · simp only [List.length_drop]; omega
theorem numS_len (most : Nat) (s : St) : (numS most s).2.1.length ≤ s.1.length := numF_len most s.1
theorem digS_len (s : St) : (digS s).2.1.length ≤ s.1.length := cutF_len 32 s.1
theorem nmV_len {s : St} (h : (nmV s).2.2 = false) : (nmV s).2.1.length + 1 ≤ s.1.length := by
  obtain ⟨_, h2, _⟩ := takes_nm.sound s h
  have h3 : s.1 = (Lib.uvarint (nmV s).1.length ++ (nmV s).1) ++ (nmV s).2.1 := h2
  have := Lib.uvarint_pos (nmV s).1.length
  rw [h3]
  simp only [List.length_append]
  omega
theorem nmV_le (s : St) : (nmV s).2.1.length ≤ s.1.length := by
  unfold nmV bytS bytesF
  rw [if_neg (by omega)]
  exact Nat.le_trans (cutF_len _ _) (numF_len _ _)
theorem numS_bad {most : Nat} {s : St} (h : s.2 = true) : (numS most s).2.2 = true := by unfold numS; rw [h]; rfl
theorem digS_bad {s : St} (h : s.2 = true) : (digS s).2.2 = true := by unfold digS; rw [h]; rfl

end Go.Proofs.Ytcajhndhjlfmaaa

/-
  TrieStand TrieSeq TrieBack TriePutW TrieWithW AnyInv AnyInvIn: texts on the way to the laws, as one.
-/
import Derived.Test.YtblgmnjegkfoaaaGreatK09
import Derived.Test.YtblgmnjegkfoaaaGreatK12
import Derived.Test.YtblgmnjegkfoaaaGreatK13
import Derived.Test.YtblgmnjegkfoaaaGreatK14
import Derived.RangeFuncNested
import Derived.RangeFuncBound
import Derived.RangeFuncCalls
import Derived.RangeFuncLeaves
import Derived.RangeFuncBox
import Derived.Shelf.Abstract
import Derived.Shelf.RegionOpen
import Derived.WalkKit
import Derived.OwnWalkIn
import Derived.TacticsInMore
import Derived.LoopNIn
import Derived.LoopIn
import Derived.Maps.AppendAt
import Derived.Test.YtblgmnjegkfoaaaGreatK08
import Derived.Orders
import Derived.RegionTactic
import Derived.OrdersHeld
import Derived.OrdersIn
set_option maxRecDepth 100000
namespace Go.Proofs.YtblgmnjegkfoaaaGreat
open Go.RowKit
set_option linter.unusedVariables false
set_option linter.unusedSimpArgs false

theorem tag_one_le (b : List UInt8) (hb : b.length ≤ 2000) : (tagF 4 [b]).length ≤ 1000000 := by
  have h := Lib.uvarint_length64 (x := b.length) (by omega)
  simp only [tagF, List.flatMap_cons, List.flatMap_nil, List.append_nil, List.length_cons, List.length_append]
  omega
theorem LeafAt.keep {w w' : World} {n : Nd} {R : Nat → Prop} (h : LeafAt w n) (ho : Only R w w') (hv : ∀ a : Addr, n.adr = some a → 0 < n.len → ¬ R a.block) : LeafAt w' n := by
  obtain ⟨val, h1, h2, h3⟩ := h.one
  refine ⟨⟨val, h1, h2, fun hp => ?_⟩, h.le, h.lim⟩
  obtain ⟨k, off, e, hlt, hcell⟩ := h3 hp
  refine ⟨k, off, e, Nat.lt_of_lt_of_le hlt ho.size, fun j hj => ?_⟩
  rw [← hcell j hj]
  exact World.cell?_of_block (ho.block k hlt (hv _ e (by omega)))
theorem BranchAt.keep {M : Wood} {w w' : World} {b : Nat} {n : Nd} {R : Nat → Prop} (h : BranchAt M w b n) (ho : Only R w w') (ha : ¬ R n.arr) : BranchAt M w' b n :=
  ⟨h.two, h.way, h.ne, h.k16, h.row.only ho ha, h.off, h.on⟩
/-- A node whose blocks are as they were. -/
theorem NdAt.keep {M : Wood} {w w' : World} {b : Nat} {n : Nd} {R : Nat → Prop} (h : NdAt M w b n) (ho : Only R w w') (hb : ¬ R b) (ha : 2 ≤ n.l.length → ¬ R n.arr) (hv : n.l.length < 2 → ∀ a : Addr, n.adr = some a → 0 < n.len → ¬ R a.block) : NdAt M w' b n := by
  obtain ⟨d, s, dig, hd, hs, hc⟩ := h.cells
  refine ⟨h.k32, h.rise, h.l32, h.vals, h.f64, h.agree, d, s, dig, hd, hs, ?_⟩
  rcases hc with ⟨h1, h2⟩ | ⟨h1, h2⟩
  · exact .inl ⟨h1.only ho hb, h2.keep ho (hv (by obtain ⟨val, e, _⟩ := h2.one; rw [e]; simp))⟩
  · exact .inr ⟨h1.only ho hb, h2.keep ho (ha h2.two)⟩
theorem NdAt.pos {M : Wood} {w : World} {b : Nat} {n : Nd} (h : NdAt M w b n) : 0 < n.l.length := by
  obtain ⟨d, s, dig, hd, hs, hc⟩ := h.cells
  rcases hc with ⟨_, h2⟩ | ⟨_, h2⟩
  · obtain ⟨val, e, _⟩ := h2.one; rw [e]; simp
  · have := h2.two; omega

/-- Blocks of nodes that begin at a place or behind it. -/
def Wood.ndF (M : Wood) (t k : Nat) : Prop := ∃ n, M k = some n ∧ t ≤ n.f
def Wood.from (M : Wood) (t : Nat) : Wood := fun b => match M b with
  | some n => if t ≤ n.f then some n else none
  | none => none
theorem Wood.from_some {M : Wood} {t b : Nat} {n : Nd} : M.from t b = some n ↔ M b = some n ∧ t ≤ n.f := by
  unfold Wood.from
  cases e : M b with
  | none => simp
  | some m =>
    by_cases h : t ≤ m.f
    · simp only [if_pos h, Option.some.injEq]
      constructor
      · rintro rfl; exact ⟨rfl, h⟩
      · rintro ⟨rfl, _⟩; rfl
    · simp only [if_neg h, Option.some.injEq]
      constructor
      · intro h2; cases h2
      · rintro ⟨rfl, h2⟩; exact absurd h2 h
/-- A value's block is no node. -/
def Wood.Sep (M : Wood) : Prop := ∀ b n (a : Addr), M b = some n → n.l.length < 2 → n.adr = some a → 0 < n.len → M a.block = none
theorem Wood.Sep.from {M : Wood} (h : M.Sep) (t : Nat) : (M.from t).Sep := fun b n a hb hl ha hn => by
  have := h b n a (Wood.from_some.1 hb).1 hl ha hn
  unfold Wood.from
  rw [this]
theorem Stand.from {M : Wood} {w : World} (h : Stand M w) (t : Nat) : Stand (M.from t) w := fun b n hb => by
  obtain ⟨h0, ht⟩ := Wood.from_some.1 hb
  have hn := h b n h0
  obtain ⟨d, s, dig, hd, hs, hc⟩ := hn.cells
  refine ⟨hn.k32, hn.rise, hn.l32, hn.vals, hn.f64, hn.agree, d, s, dig, hd, hs, ?_⟩
  rcases hc with hc | ⟨ha, hr⟩
  · exact .inl hc
  · refine .inr ⟨ha, hr.two, hr.way, hr.ne, hr.k16, hr.row, hr.off, fun i hi he => ?_⟩
    obtain ⟨b', n', h1, h2, h3, h4⟩ := hr.on i hi he
    have hg := sharedF_ge n.l n.f
    exact ⟨b', n', h1, Wood.from_some.2 ⟨h2, by omega⟩, h3, h4⟩
theorem NdAt.typ {M : Wood} {w : World} {b : Nat} {n : Nd} (h : NdAt M w b n) : ∃ cs, Arr w b 87 cs := by
  obtain ⟨d, s, dig, hd, hs, hc⟩ := h.cells
  rcases hc with ⟨h1, _⟩ | ⟨h1, _⟩ <;> exact ⟨_, h1⟩
theorem NdAt.rowOf {M : Wood} {w : World} {b : Nat} {n : Nd} (h : NdAt M w b n) (h2 : 2 ≤ n.l.length) : ∃ cs, Arr w n.arr 132 cs := by
  obtain ⟨d, s, dig, hd, hs, hc⟩ := h.cells
  rcases hc with ⟨_, hl⟩ | ⟨_, hb⟩
  · obtain ⟨val, e, _⟩ := hl.one; rw [e] at h2; simp at h2
  · exact ⟨_, hb.row⟩
/-- A row of nodes is no node. -/
theorem Stand.rows {M : Wood} {w : World} (h : Stand M w) {b c : Nat} {n m : Nd} (hb : M b = some n) (h2 : 2 ≤ n.l.length) (hc : M c = some m) : n.arr ≠ c := fun e => by
  obtain ⟨c1, k1⟩ := (h b n hb).rowOf h2
  obtain ⟨c2, k2⟩ := (h c m hc).typ
  rw [e] at k1
  have q : some _ = some _ := k1.symm.trans k2
  injection q with q
  injection q with q1 q2
  exact absurd q2 (by decide)

theorem maskK_eq (ps : List (Option Addr)) (l : List It) (s : Nat) (h : ∀ i, i < 16 → (ps.getD i none = none ↔ subF l s i = [])) : ∀ n, n ≤ 16 → maskK ps n = maskF l s n := by
  intro n
  induction n with
  | zero => intro _; rfl
  | succ n ih =>
    intro hn
    unfold maskK
    rw [maskF_succ, ih (by omega)]
    have := h n (by omega)
    by_cases e : subF l s n = []
    · rw [if_pos e, if_pos (this.2 e)]
    · rw [if_neg e, if_neg (fun q => e (this.1 q))]
theorem digK_eq (ps : List (Option Addr)) (l : List It) (s f : Nat) (dg : Nat → List UInt8) (h : ∀ i, i < 16 → (ps.getD i none = none ↔ subF l s i = [])) (hd : ∀ i, i < 16 → subF l s i ≠ [] → dg i = shaF (tagF 4 [nodeF f (subF l s i) (s + 1)])) : ∀ n, n ≤ 16 → digK ps dg n = kidsB f l s n := by
  intro n
  induction n with
  | zero => intro _; rfl
  | succ n ih =>
    intro hn
    unfold digK
    rw [kidsB_succ, ih (by omega)]
    have := h n (by omega)
    by_cases e : subF l s n = []
    · rw [if_pos e, if_pos (this.2 e)]
    · rw [if_neg e, if_neg (fun q => e (this.1 q)), hd n (by omega) e]

theorem NdAt.valOf {M : Wood} {w : World} {b : Nat} {n : Nd} (h : NdAt M w b n) (h2 : n.l.length < 2) (a : Addr) (ha : n.adr = some a) (hn : 0 < n.len) : a.block < w.heap.size := by
  obtain ⟨d, s, dig, hd, hs, hc⟩ := h.cells
  rcases hc with ⟨_, hl⟩ | ⟨_, hb⟩
  · obtain ⟨val, h1, h2, h3⟩ := hl.one
    obtain ⟨k, off, e, hlt, _⟩ := h3 (by omega)
    rw [ha] at e
    injection e with e
    rw [e]; exact hlt
  · have := hb.two; omega

set_option maxHeartbeats 4000000 in
/-- sum tells a node's digest, keeps it in it, and turns nothing else but nodes behind it. -/
theorem sum_wood : ∀ (fuel : Nat) (M : Wood) (b : Nat) (n : Nd), M b = some n → 65 - n.f ≤ fuel → M.Sep → ∀ (w : World), Stand M w →
    Calls Tryz.prog 28 #[.pointer (some ⟨b, 0, none⟩)] w fun e w' => e = .returned (.agg (Lib.byteCells (nodeD n.l n.f)).toArray) ∧ Stand M w' ∧ Only (M.ndF n.f) w w' := by
  intro fuel
  induction fuel with
  | zero => intro M b n hb hf hsep w hS; have := (hS b n hb).f64; omega
  | succ fuel ih =>
    intro M b n hb hf hsep w hS
    have hn := hS b n hb
    obtain ⟨d, s, dig, hdl, hd, hc⟩ := hn.cells
    have hF : ∀ k, M.ndF (n.f + 1) k → k < w.heap.size := fun k ⟨m, hm, _⟩ => (hS k m hm).lt
    have hFb : ¬ M.ndF (n.f + 1) b := fun ⟨m, hm, hm2⟩ => by rw [hb] at hm; injection hm with hm; subst hm; omega
    have hMb : M.from (n.f + 1) b = none := by
      unfold Wood.from
      rw [hb]
      simp
    -- what another node holds stays
    have hother : ∀ k m, M k = some m → k ≠ b → m.f ≤ n.f → ¬ M.ndF (n.f + 1) k := fun k m hk _ hle ⟨m', h1, h2⟩ => by rw [hk] at h1; injection h1 with h1; subst h1; omega
    have hval : ∀ k m (a : Addr), M k = some m → m.l.length < 2 → m.adr = some a → 0 < m.len → ¬ (M.ndF (n.f + 1) a.block ∨ a.block = b) := fun k m a hk h1 ha hl h => by
      have h0 := hsep k m a hk h1 ha hl
      rcases h with ⟨m', h1, _⟩ | rfl
      · rw [h0] at h1; cases h1
      · rw [h0] at hb; cases hb
    have harr : ∀ k m, M k = some m → 2 ≤ m.l.length → ¬ (M.ndF (n.f + 1) m.arr ∨ m.arr = b) := fun k m hk h2 h => by
      rcases h with ⟨m', h1, _⟩ | e
      · exact hS.rows hk h2 h1 rfl
      · exact hS.rows hk h2 hb e
    -- the end, from the node's new cells
    have hend : ∀ w', Stand (M.from (n.f + 1)) w' → Only (fun k => M.ndF (n.f + 1) k ∨ k = b) w w' → NdAt M w' b n → Stand M w' ∧ Only (M.ndF n.f) w w' := fun w' hS' hO hb' => by
      refine ⟨fun k m hk => ?_, hO.more (fun k _ hk => ?_)⟩
      · by_cases e : k = b
        · subst e; rw [hb] at hk; injection hk with hk; subst hk; exact hb'
        · by_cases hm : n.f + 1 ≤ m.f
          · exact (hS' k m (Wood.from_some.2 ⟨hk, hm⟩)).more (fun b n h => (Wood.from_some.1 h).1)
          · refine (hS k m hk).keep hO (fun h => ?_) (fun h2 => harr k m hk h2) (fun h1 a ha hl => hval k m a hk h1 ha hl)
            rcases h with h | h
            · exact hother k m hk e (by omega) h
            · exact e h
      · rcases hk with ⟨m, h1, h2⟩ | rfl
        · exact ⟨m, h1, by omega⟩
        · exact ⟨n, hb, Nat.le_refl _⟩
    rcases hd with rfl | ⟨rfl, rfl⟩
    · -- the first time
      have hYl : (tagF 4 [nodeF 65 n.l n.f]).length ≤ 1000000 := tag_one_le _ (Nat.le_trans (nodeF_len 65 n.l n.f hn.vals hn.f64 hn.pos) (by omega))
      have hgood := hn.rise.good hn.l32
      obtain ⟨n0, hn0⟩ : ∃ x, x = w.heap.size := ⟨_, rfl⟩
      have hkeepS : ∀ w1 w2, Stand (M.from (n.f + 1)) w1 → Only (fun k => k = b ∨ n0 ≤ k) w1 w2 → Stand (M.from (n.f + 1)) w2 := fun w1 w2 h1 ho k m hk => by
        obtain ⟨hk0, hkf⟩ := Wood.from_some.1 hk
        refine (h1 k m hk).keep ho ?_ ?_ ?_
        · rintro (rfl | h)
          · rw [hMb] at hk; cases hk
          · have := (hS k m hk0).lt; omega
        · rintro h2 (e | h)
          · exact hS.rows hk0 h2 hb e
          · obtain ⟨cs, hcs⟩ := (hS k m hk0).rowOf h2
            have := hcs.lt; omega
        · rintro h1 a ha hl (e | h)
          · exact hval k m a hk0 h1 ha hl (.inr e)
          · have := (hS k m hk0).valOf h1 a ha hl; omega
      rcases hc with ⟨hN, hl⟩ | ⟨hN, hr⟩
      · have hl1 : n.l.length < 2 := by obtain ⟨val, e, _⟩ := hl.one; rw [e]; simp
        have hIb : ∀ w1 w2, (Stand (M.from (n.f + 1)) w1 ∧ LeafAt w1 n ∧ n0 ≤ w1.heap.size) → Only (fun k => k = b ∨ n0 ≤ k) w1 w2 → (Stand (M.from (n.f + 1)) w2 ∧ LeafAt w2 n ∧ n0 ≤ w2.heap.size) := fun w1 w2 h ho => by
          refine ⟨hkeepS w1 w2 h.1 ho, h.2.1.keep ho (fun a ha hp q => ?_), Nat.le_trans h.2.2 ho.size⟩
          rcases q with q | q
          · exact hval b n a hb hl1 ha hp (.inr q)
          · have := hn.valOf hl1 a ha hp; omega
        refine (sum_first n.key hn.k32 b (n.f : Nat) 64 (.slice n.adr n.len n.cap) (.pointer none) s dig hdl _ rfl (M.ndF (n.f + 1)) hFb (fun w' => Stand (M.from (n.f + 1)) w' ∧ LeafAt w' n ∧ n0 ≤ w'.heap.size)
          (fun w1 w2 h ho => hIb w1 w2 h (ho.more (fun k _ hk => .inl hk))) n0 (fun w1 w2 h ho => hIb w1 w2 h (ho.more (fun k _ hk => .inr hk))) (nodeF 65 n.l n.f) hYl _ rfl ?_ w (by omega) hF ⟨hS.from _, hl, by omega⟩ hN).mono ?_
        · intro w' hI' hA'
          obtain ⟨val, e1, e2, e3⟩ := hI'.2.1.one
          have hv := hn.vals _ (by rw [e1]; exact List.mem_singleton.2 rfl)
          have hle := hI'.2.1.le
          have e2' := e2.symm
          rw [e2'] at hA' hle
          refine (bytes_leaf n.key _ rfl hn.k32 b n.f hn.f64 val n.adr n.cap hle (by simp only at hv; omega) 0 1 s dig _ rfl w' hA' e3).mono ?_
          rintro x w'' ⟨v, rfl, hown, hbl⟩
          refine ⟨v, rfl, ?_, hIb w' w'' hI' (Only.of_below hbl), Only.of_below hbl⟩
          rw [e1, nodeF_one]
          exact hown
        · rintro x w' ⟨rfl, hA, hI, hO⟩
          have hnew : NdAt M w' b n := ⟨hn.k32, hn.rise, hn.l32, hn.vals, hn.f64, hn.agree, 1, s, nodeD n.l n.f, shaF_length _, .inr ⟨rfl, rfl⟩, .inl ⟨hA, hI.2.1⟩⟩
          obtain ⟨h1, h2⟩ := hend w' hI.1 hO hnew
          exact ⟨rfl, h1, h2⟩
      · have h2 := hr.two
        have hs63 := hgood.split h2 hn.f64 hn.agree
        have hsge := sharedF_ge n.l n.f
        have hIb : ∀ w1 w2, (Stand (M.from (n.f + 1)) w1 ∧ BranchAt M w1 b n ∧ n0 ≤ w1.heap.size) → Only (fun k => k = b ∨ n0 ≤ k) w1 w2 → (Stand (M.from (n.f + 1)) w2 ∧ BranchAt M w2 b n ∧ n0 ≤ w2.heap.size) := fun w1 w2 h ho => by
          refine ⟨hkeepS w1 w2 h.1 ho, h.2.1.keep ho (fun q => ?_), Nat.le_trans h.2.2 ho.size⟩
          rcases q with q | q
          · exact hr.ne q
          · have := hr.row.lt; omega
        refine (sum_first n.key hn.k32 b (n.f : Nat) (sharedF n.l n.f : Nat) (.slice none 0 0) (.pointer (some ⟨n.arr, 0, none⟩)) s dig hdl _ rfl (M.ndF (n.f + 1)) hFb (fun w' => Stand (M.from (n.f + 1)) w' ∧ BranchAt M w' b n ∧ n0 ≤ w'.heap.size)
          (fun w1 w2 h ho => hIb w1 w2 h (ho.more (fun k _ hk => .inl hk))) n0 (fun w1 w2 h ho => hIb w1 w2 h (ho.more (fun k _ hk => .inr hk))) (nodeF 65 n.l n.f) hYl _ rfl ?_ w (by omega) hF ⟨hS.from _, hr, by omega⟩ hN).mono ?_
        · intro w' hI' hA'
          have hbl := hn.lt
          have hoff : ∀ i, i < 16 → (n.kids.getD i none = none ↔ subF n.l (sharedF n.l n.f) i = []) := fun i hi => by
            constructor
            · intro q
              by_cases e : subF n.l (sharedF n.l n.f) i = []
              · exact e
              · obtain ⟨b', n', k1, _⟩ := hr.on i hi e
                simp [List.getD, k1] at q
            · intro e
              simp [List.getD, hr.off i hi e]
          refine (bytes_branch n.key _ rfl hn.k32 b n.arr n.f (sharedF n.l n.f) hsge (by omega) (.slice none 0 0) 0 1 s dig _ rfl n.kids hr.k16 _ rfl (fun i => shaF (tagF 4 [nodeF 65 (subF n.l (sharedF n.l n.f) i) (sharedF n.l n.f + 1)])) (fun _ => shaF_length _) (M.ndF (n.f + 1))
            (fun w2 => (Stand (M.from (n.f + 1)) w2 ∧ BranchAt M w2 b n ∧ n0 ≤ w2.heap.size) ∧ Arr w2 b 87 (nodeC n.key (n.f : Nat) (sharedF n.l n.f : Nat) (.slice none 0 0) (.pointer (some ⟨n.arr, 0, none⟩)) 0 1 s dig)) n0 ?_ ?_ ?_ w' hI'.2.2 (fun k hk => by have := hF k hk; omega) ⟨hI', hA'⟩).mono ?_
          · intro w1 w2 h ho
            refine ⟨hIb w1 w2 h.1 (ho.more (fun k _ hk => .inr hk)), h.2.only ho (by omega)⟩
          · intro w2 h
            exact ⟨h.2, h.1.2.1.row⟩
          · intro i a hi ha w2 hI2 hn2
            have hne : subF n.l (sharedF n.l n.f) i ≠ [] := fun e => by
              have := hr.off i hi e
              rw [this] at ha
              cases ha
            obtain ⟨b', n', k1, k2, k3, k4⟩ := hr.on i hi hne
            rw [k1] at ha
            injection ha with ha
            injection ha with ha
            subst ha
            refine (ih (M.from (n.f + 1)) b' n' (Wood.from_some.2 ⟨k2, by omega⟩) (by omega) (hsep.from _) w2 hI2.1.1).mono ?_
            rintro x w3 ⟨rfl, hS3, hO3⟩
            have hO3' : Only (M.ndF (n.f + 1)) w2 w3 := hO3.more (fun k _ hk => by
              obtain ⟨m, m1, m2⟩ := hk
              obtain ⟨m3, m4⟩ := Wood.from_some.1 m1
              exact ⟨m, m3, by omega⟩)
            refine ⟨?_, ⟨⟨hS3, hI2.1.2.1.keep hO3' (fun q => harr b n hb h2 (.inl q)), Nat.le_trans hI2.1.2.2 hO3'.size⟩, hI2.2.only hO3' hFb⟩, hO3'⟩
            rw [k3, k4]; rfl
          · rintro x w'' ⟨v, rfl, hown, hI2, hO⟩
            refine ⟨v, rfl, ?_, hI2.1, hO⟩
            have e1 : restF (n.l.headD ([], [])).1 n.f (sharedF n.l n.f) = restF n.key n.f (sharedF n.l n.f) := restF_congr fun i _ hi => by
              refine hr.way _ ?_ i hi
              match n.l, h2 with
              | x :: y :: r, _ => simp
            rw [nodeF_two 64 n.l n.f h2, e1, ← maskK_eq n.kids n.l _ hoff 16 (Nat.le_refl _), ← digK_eq n.kids n.l _ 64 _ hoff (fun i hi he => ?_) 16 (Nat.le_refl _)]
            · exact hown
            · rw [nodeF_fuel 65 64 _ _ (hgood.part _ i) (part_agree (shared_agree hn.agree)) (by omega) (List.length_pos_iff.2 he) (by omega) (by omega)]
        · rintro x w' ⟨rfl, hA, hI, hO⟩
          have hnew : NdAt M w' b n := ⟨hn.k32, hn.rise, hn.l32, hn.vals, hn.f64, hn.agree, 1, s, nodeD n.l n.f, shaF_length _, .inr ⟨rfl, rfl⟩, .inr ⟨hA, hI.2.1⟩⟩
          obtain ⟨h1, h2⟩ := hend w' hI.1 hO hnew
          exact ⟨rfl, h1, h2⟩
    · -- told already
      rcases hc with ⟨hN, hl⟩ | ⟨hN, hr⟩
      · exact (sum_done n.key hn.k32 b _ _ _ _ 1 0 s (by omega) (nodeD n.l n.f) hdl _ rfl _ rfl w hN).mono (by
          rintro e w' ⟨rfl, hb'⟩
          exact ⟨rfl, hS.only (R := fun _ => False) (Only.of_below hb') (fun _ _ h => h), Only.of_below hb'⟩)
      · exact (sum_done n.key hn.k32 b _ _ _ _ 1 0 s (by omega) (nodeD n.l n.f) hdl _ rfl _ rfl w hN).mono (by
          rintro e w' ⟨rfl, hb'⟩
          exact ⟨rfl, hS.only (R := fun _ => False) (Only.of_below hb') (fun _ _ h => h), Only.of_below hb'⟩)

end Go.Proofs.YtblgmnjegkfoaaaGreat

namespace Go.Proofs.YtblgmnjegkfoaaaGreat
open Go.RowKit Go.Shelf
set_option linter.unusedVariables false
set_option linter.unusedSimpArgs false

attribute [local go_sem] Oper.semAt_some

theorem wpListIn_load_row {F : Fence} {n' : Nat} {P : Program} {ops : Array Oper} {rest : List Oper} {o : Oper} {a : Act} {w : World} {Q : Exit → Act → World → Prop} (hgd : o.guard = none) (ty : TypeId) (x : Operand) (ho : o.op = .load ty x)
    (g : Nat) (hx : a.eval x = .pointer (some ⟨g, 0, none⟩)) (t : TypeId) (cs : Array Value) (fr : Nat × Nat) (d : TypeDesc) (hg : w.heap[g]? = some (.cells cs t fr))
    (hu : P.underlying ty = some d) (hd : (match d with | .struct _ | .array _ _ => true | _ => false) = true) (hi : (P.info? ty).map (·.size) = some cs.size)
    (h : wpListIn F n' P ops Q rest (a.put o.dst (.agg cs)) w) : wpListIn F n' P ops Q (o :: rest) a w := by
  refine wpListIn_plain hgd fun K hK => ?_
  unfold Oper.wpIn
  refine ⟨?_, ?_⟩
  · simp [Oper.about, ho, resolve, Target.leads, Sem.run_pure]
  · rw [Oper.semAt_plain F _ _ (by rw [ho]; intro c hc'; cases hc')]
    simp only [execOp, ho, hx, Instr.loadAt, Instr.sureAddr, Sem.run_bind, Sem.run_pure, Result.andThen_ok, run_loadVar_row w g t ty cs fr d hg hu hd hi]
    exact hK _ _ h

/-- The node behind another one on the way to a key. -/
def nextP (n : Nd) (key : List UInt8) : Option Addr :=
  if n.l.length < 2 then none else if commF n.key key < sharedF n.l n.f then none else n.kids.getD (nibF key (sharedF n.l n.f)) none
theorem next_wood (M : Wood) (b : Nat) (n : Nd) (hb : M b = some n) (key : List UInt8) (KL : List Value) (hKL : KL = Lib.byteCells key) (hk : key.length = 32) (w : World) (hS : Stand M w) :
    Calls Tryz.prog 54 #[.pointer (some ⟨b, 0, none⟩), .agg KL.toArray] w fun e w' => e = .returned (.pointer (nextP n key)) ∧ Below w.heap.size w w' := by
  have hn := hS b n hb
  obtain ⟨d, s, dig, hdl, hd, hc⟩ := hn.cells
  rcases hc with ⟨hN, hl⟩ | ⟨hN, hr⟩
  · have e : nextP n key = none := by
      unfold nextP
      rw [if_pos]
      obtain ⟨val, e, _⟩ := hl.one
      rw [e]; simp
    rw [e]
    exact next_leaf n.key key _ KL rfl hKL hn.k32 hk b (n.f : Nat) 64 _ d 0 s dig _ rfl w hN
  · have h2 := hr.two
    have hs := (hn.rise.good hn.l32).split h2 hn.f64 hn.agree
    by_cases hlt : commF n.key key < sharedF n.l n.f
    · have e : nextP n key = none := by
        unfold nextP
        rw [if_neg (by omega), if_pos hlt]
      rw [e]
      exact next_off n.key key _ KL rfl hKL hn.k32 hk b n.arr (n.f : Nat) (sharedF n.l n.f) _ d 0 s dig _ rfl w hN _ rfl hlt (by omega)
    · have e : nextP n key = n.kids.getD (nibF key (sharedF n.l n.f)) none := by
        unfold nextP
        rw [if_neg (by omega), if_neg hlt]
      rw [e]
      refine next_on n.key key _ KL rfl hKL hn.k32 hk b n.arr (n.f : Nat) (sharedF n.l n.f) _ d 0 s dig _ rfl w hN _ rfl (by omega) hs _ rfl _ hr.row _ ?_
      have h16 := nibF_lt key (sharedF n.l n.f)
      have hk16 := hr.k16
      rw [List.getElem?_map, List.getElem?_eq_getElem (by omega)]
      simp [List.getD, show nibF key (sharedF n.l n.f) < n.kids.length by omega]

/-- The blocks on the way to a key, from an address on. -/
def IsWay (M : Wood) (key : List UInt8) : Option Addr → List Nat → Prop
  | p, [] => p = none
  | p, b :: bs => p = some ⟨b, 0, none⟩ ∧ ∃ n, M b = some n ∧ IsWay M key (nextP n key) bs
theorem IsWay.unique {M : Wood} {key : List UInt8} : ∀ {p : Option Addr} {xs ys : List Nat}, IsWay M key p xs → IsWay M key p ys → xs = ys
  | _, [], [], _, _ => rfl
  | _, [], _ :: _, h, ⟨hp, _⟩ => by rw [h] at hp; cases hp
  | _, _ :: _, [], ⟨hp, _⟩, h => by rw [h] at hp; cases hp
  | _, x :: xs, y :: ys, ⟨hp, n, hn, hr⟩, ⟨hp', n', hn', hr'⟩ => by
    rw [hp] at hp'; cases hp'
    rw [hn] at hn'; cases hn'
    rw [IsWay.unique hr hr']
open Classical in
noncomputable def leftW (M : Wood) (key : List UInt8) (v : Value) : Nat :=
  if h : ∃ r : Option Addr × List Nat, v = .pointer r.1 ∧ IsWay M key r.1 r.2 then (Classical.choose h).2.length else 0
theorem leftW_eq {M : Wood} {key : List UInt8} {q : Option Addr} {xs : List Nat} (h : IsWay M key q xs) : leftW M key (.pointer q) = xs.length := by
  have hex : ∃ r : Option Addr × List Nat, Value.pointer q = .pointer r.1 ∧ IsWay M key r.1 r.2 := ⟨(q, xs), rfl, h⟩
  unfold leftW
  rw [dif_pos hex]
  obtain ⟨e, hl⟩ := Classical.choose_spec hex
  have e' : q = (Classical.choose hex).1 := by simpa using e
  rw [← e'] at hl
  rw [IsWay.unique hl h]

/-- What the closure reads: the nodes, and the box of the key. -/
def WayMem (M : Wood) (Bk : Nat) (KL : List Value) (W : World) : Prop := Stand M W ∧ Arr W Bk 24 KL

theorem abides_below {β : Type} {B : Nat} {J : β → World → Prop} (h : AbidesFrom B J) {s : β} {w w' : World} (hs : J s w) (hb : Below w.heap.size w w') : J s w' :=
  h s w w' none hs ⟨hb.os, hb.tape, hb.output, hb.size, fun k hk _ => hb.block k hk⟩ (fun _ e => by cases e)

set_option maxRecDepth 100000 in
set_option maxHeartbeats 4000000 in
/-- The closure of way, for every loop body that keeps what it reads. -/
theorem way1_in (n : Nat) (hn : 1 ≤ n) (l Bt Bk a : Nat) (p0 : Option Addr) (M : Wood) (key : List UInt8) (KL : List Value) (hKL : KL = Lib.byteCells key) (hk : key.length = 32) (bs : List Nat) (B0 : Nat) (J Jx : List Nat → World → Prop) (hJ : AbidesFrom B0 J) (Kp : World → World → Prop)
    (hKp : ∀ A B, Kp A B → WayMem M Bk KL A → WayMem M Bk KL B)
    (hY : ∀ pre x W, J pre W → pre.length < bs.length → YieldAt Fence.wide (n - 1) Tryz.prog l #[.pointer (some ⟨x, 0, none⟩)] W fun e W' =>
      (e = .returned (.bool true) ∧ J (pre ++ [x]) W' ∧ Kp W W') ∨ (e = .returned (.bool false) ∧ Jx (pre ++ [x]) W'))
    (W : World) (hBt : W.cell? ⟨Bt, 0, none⟩ = some (.pointer (some ⟨a, 0, none⟩))) (hroot : W.cell? ⟨a, 0, none⟩ = some (.pointer p0)) (hM : WayMem M Bk KL W) (hway : IsWay M key p0 bs) (h0 : J [] W) :
    CallsIn Fence.wide n Tryz.prog 53 #[.func (.yield l) #[] #[], .pointer (some ⟨Bt, 0, none⟩), .pointer (some ⟨Bk, 0, none⟩)] W fun e W' => (∃ v, e = .returned v) ∧
      ((∃ ys, ys = bs ∧ J ys W') ∨ (∃ pre, pre <+: bs ∧ Jx pre W')) := by
  have Hki := Lib.hid (show (Tryz.prog.info? 24).map (·.size) = some KL.toArray.size by rw [hKL, dig_size hk]; kernel_rfl)
  have Hnext : Hid (∀ b nd, M b = some nd → ∀ w, Stand M w → Calls Tryz.prog 54 #[.pointer (some ⟨b, 0, none⟩), .agg KL.toArray] w fun e w' => e = .returned (.pointer (nextP nd key)) ∧ Below w.heap.size w w') := fun b nd h w hS => next_wood M b nd h key KL hKL hk w hS
  have HJ := Lib.hid hJ
  have HKp := Lib.hid hKp
  clear hKL hJ hKp
  refine callsIn_of_wp Tryz.func53 rfl trivial ?_ rfl
  simp only [Tryz.ntmps53, List.size_toArray, List.length_cons, List.length_nil, Nat.reduceAdd, Nat.reduceSub, Array.replicate_succ, Array.replicate_zero, List.push_toArray, List.append_toArray, List.nil_append, List.cons_append]
  gi_wp2
  gi_loopw [4] (fun p wr => ∃ (pre rest : List Nat) (q : Option Addr), p = .pointer q ∧ bs = pre ++ rest ∧ IsWay M key q rest ∧ J pre wr ∧ WayMem M Bk KL wr) (fun p wr => leftW M key p)
  case atStart => exact ⟨[], bs, p0, rfl, rfl, hway, h0, hM⟩
  case round =>
    clear hM hway h0 hBt hroot
    obtain ⟨pre, rest, q, rfl, hx, hl, hJs, hMr⟩ := hrel
    cases rest with
    | nil =>
      obtain rfl : q = none := hl
      gi_wp2
      refine ⟨fun _ h => (by cases h), ?_⟩
      gi_wp2
      go_end0
      exact ⟨⟨_, rfl⟩, .inl ⟨pre, by simp [hx], hJs⟩⟩
    | cons x rest =>
      have hl' := hl
      obtain ⟨rfl, nd, hnd, hr⟩ := hl
      obtain ⟨fn, tmps, assign, body, hy, hR⟩ := hY pre x wr hJs (by rw [hx]; simp)
      gi_wp2
      refine hR.mono ?_
      rintro e W3 (⟨rfl, hJ3, hk3⟩ | ⟨rfl, hJx3⟩)
      · have hM3 := HKp.out _ _ hk3 hMr
        have hX3 : W3.heap[Bk]? = some (.cells KL.toArray 24 (0, 0)) := hM3.2
        have hnx := Hnext.out x nd hnd W3 hM3.1
        clear hR hy hY
        gi_wp2_with (first
          | (refine wpListIn_load_row rfl _ _ rfl Bk rfl 24 KL.toArray (0, 0) _ hX3 Tryz.underlying24 rfl Hki.out ?_)
          | (refine ⟨trivial, ?_⟩; gi_at_call 54; refine (callsIn_wide.2 hnx).mono ?_; rintro e W4 ⟨rfl, hb4⟩))
        refine ⟨⟨pre ++ [x], rest, _, rfl, by simp [hx], hr, abides_below HJ.out hJ3 hb4, hM3.1.only (R := fun _ => False) (Only.of_below hb4) (fun _ _ h => h), hM3.2.below hb4 hM3.2.lt⟩, ?_⟩
        rw [leftW_eq hr, leftW_eq hl']
        simp
      · clear hR hy hY
        gi_wp2
        go_end0
        exact ⟨⟨_, rfl⟩, .inr ⟨pre ++ [x], ⟨rest, by simp [hx]⟩, hJx3⟩⟩

set_option maxHeartbeats 4000000 in
set_option maxRecDepth 100000 in
/-- way gives its closure; both of what it needs lie in boxes. -/
theorem way_run (a : Nat) (KL : List Value) (w : World) :
    Calls Tryz.prog 30 #[.pointer (some ⟨a, 0, none⟩), .agg KL.toArray] w fun e w' => e = .returned (.func (.func 53) #[] #[.pointer (some ⟨w.heap.size, 0, none⟩), .pointer (some ⟨w.heap.size + 1, 0, none⟩)]) ∧
      w'.cell? ⟨w.heap.size, 0, none⟩ = some (.pointer (some ⟨a, 0, none⟩)) ∧ Arr w' (w.heap.size + 1) 24 KL ∧ Below w.heap.size w w' := by
  have hmf : ∀ (fn : Fn) (first cap : Array Value) (w : World), (Instr.makeFunc fn first cap).run Tryz.prog w = .ok (.func fn first cap) w := fun _ _ _ _ => rfl
  have hb : Below w.heap.size w ((w.alloc (.cells #[.pointer (some ⟨a, 0, none⟩)] 27)).alloc (.cells KL.toArray 24)) := ((Below.refl _ w).alloc (Nat.le_refl _) _).alloc (by simp) _
  have hA : Arr ((w.alloc (.cells #[.pointer (some ⟨a, 0, none⟩)] 27)).alloc (.cells KL.toArray 24)) (w.heap.size + 1) 24 KL := by
    rw [← World.size_alloc w (.cells #[.pointer (some ⟨a, 0, none⟩)] 27)]; exact Arr.new _ _ _
  have hc : ((w.alloc (.cells #[.pointer (some ⟨a, 0, none⟩)] 27)).alloc (.cells KL.toArray 24)).cell? ⟨w.heap.size, 0, none⟩ = some (.pointer (some ⟨a, 0, none⟩)) := (((Arr.new w 27 [.pointer (some ⟨a, 0, none⟩)]).alloc _).cell 0)
  go_enter Tryz.func30, Tryz.ntmps30
  go_wp2
  go_ret
  exact ⟨rfl, hc, hA, hb⟩

/-- What lies above a world keeps a wood of it. -/
theorem Stand.low {M : Wood} {w A B : World} (hw : Stand M w) (h : Stand M A) (hb : Below w.heap.size A B) : Stand M B := fun b n hn => by
  have ho : Only (fun k => w.heap.size ≤ k) A B := ⟨hb.os, hb.tape, hb.output, hb.size, fun k hk hl => hb.block k (by omega)⟩
  refine (h b n hn).keep ho ?_ ?_ ?_
  · have := (hw b n hn).lt; omega
  · intro h2
    obtain ⟨cs, hcs⟩ := (hw b n hn).rowOf h2
    have := hcs.lt; omega
  · intro h1 a ha hl
    have := (hw b n hn).valOf h1 a ha hl; omega
theorem WayMem.low {M : Wood} {Bk : Nat} {KL : List Value} {w A B : World} (hw : WayMem M Bk KL w) (hb : Below w.heap.size A B) (h : WayMem M Bk KL A) : WayMem M Bk KL B :=
  ⟨hw.1.low h.1 hb, h.2.below hb hw.2.lt⟩
def encN (b : Nat) : Array Value := #[.pointer (some ⟨b, 0, none⟩)]

theorem way_stops (n : Nat) (hn : 1 ≤ n) (Bt Bk a : Nat) (p0 : Option Addr) (M : Wood) (key : List UInt8) (KL : List Value) (hKL : KL = Lib.byteCells key) (hk : key.length = 32) (bs : List Nat) (Kp : World → World → Prop) (w : World)
    (hKp : ∀ A B, Kp A B → WayMem M Bk KL A → WayMem M Bk KL B) (hBt : w.cell? ⟨Bt, 0, none⟩ = some (.pointer (some ⟨a, 0, none⟩))) (hBtl : Bt < w.heap.size) (hroot : w.cell? ⟨a, 0, none⟩ = some (.pointer p0)) (hal : a < w.heap.size) (hM : WayMem M Bk KL w) (hway : IsWay M key p0 bs) :
    SeqStopsK Fence.wide n Tryz.prog 53 #[.pointer (some ⟨Bt, 0, none⟩), .pointer (some ⟨Bk, 0, none⟩)] encN Kp (fun ys => ys = bs) (fun pre => pre <+: bs) bs.length w := fun l J Jx W hW hJ _ hY h0 =>
  way1_in n hn l Bt Bk a p0 M key KL hKL hk bs W.heap.size J Jx hJ Kp hKp hY W ((hW.cell (p := ⟨Bt, 0, none⟩) hBtl).trans hBt) ((hW.cell (p := ⟨a, 0, none⟩) hal).trans hroot)
    ⟨hM.1.only (R := fun _ => False) (Only.of_below hW) (fun _ _ h => h), hM.2.below hW hM.2.lt⟩ hway h0

theorem nodeInfo : (Tryz.prog.info? 60).map (fun i => (i.zero, i.size, i.bytes)) = some (some (.pointer none), 1, 8) := by kernel_rfl

set_option maxRecDepth 100000 in
set_option maxHeartbeats 4000000 in
/-- AppendSeq behind nothing, of whatever gives rows of nodes. -/
theorem appendSeq_in (n : Nat) (hn : 2 ≤ n) (g : Nat) (lb : Array Value) (eg : ∀ args w, (callFunc g args).run Tryz.prog w = .ok (.enter g args) w) (bs : List Nat) (hlen : bs.length ≤ 100) (w : World) (n₀ : Nat) (hn₀ : n₀ ≤ w.heap.size)
    (hseq : SeqStopsK Fence.wide (n - 1) Tryz.prog g lb encN (Below n₀) (fun ys => ys = bs) (fun pre => pre <+: bs) bs.length w) :
    CallsIn Fence.wide n Tryz.prog 57 #[.slice none 0 0, .func (.func g) #[] lb] w fun e W' => ∃ v, e = .returned v ∧ W'.ownsRow w.heap.size 60 1 v bs.length (bs.map fun b => .pointer (some ⟨b, 0, none⟩)) ∧ (v = .slice none 0 0 ↔ bs = []) ∧ Below w.heap.size w W' := by
  have h1 : 1 ≤ n := by omega
  obtain ⟨i0, hi, hz0, hz1, hz2⟩ := info_parts nodeInfo
  refine callsIn_of_wp_marks Tryz.func57 rfl trivial ?_ rfl
  simp only [Tryz.ntmps57, List.size_toArray, List.length_cons, List.length_nil, Nat.reduceAdd, Nat.reduceSub, Array.replicate_succ, Array.replicate_zero, List.push_toArray, List.append_toArray, List.nil_append, List.cons_append]
  gi_wp2
  have bO := Boxed.new w 89 (.slice none 0 0)
  have hB0 : Below w.heap.size w (w.alloc (.cells #[.slice none 0 0] 89)) := (Below.refl _ w).alloc (Nat.le_refl _) _
  refine wpIn_rangeFunc_ownG rfl h1 (gf := g) (lb := lb) rfl trivial eg hseq belowK_t (belowK_b (by simp; omega)) hB0 (fun _ => rfl)
    (fun pre W => (∃ v, Boxed W w.heap.size 89 v ∧ W.ownsRow w.heap.size 60 1 v pre.length (pre.map fun b => .pointer (some ⟨b, 0, none⟩)) ∧ (v = .slice none 0 0 ↔ pre = [])) ∧ Below w.heap.size w W)
    (fun _ _ _ => False)
    (OwnFrom.and (Own.from (holdsRow_own w.heap.size w.heap.size 89 60 1 (fun pre : List Nat => pre.length) (fun pre => pre.map fun b => .pointer (some ⟨b, 0, none⟩)) (fun pre v => v = .slice none 0 0 ↔ pre = [])) _) (ownFrom_below (Nat.le_refl _) (by simp)))
    (fun _ _ _ _ _ hs _ _ => hs)
    ⟨⟨_, bO, World.ownsRow_nil _ _ _ _, by simp⟩, hB0⟩
    (fun x => { tmps := #[.slice none 0 0, .func (.func g) #[] lb, .pointer (some ⟨w.heap.size, 0, none⟩), undef, .slice none 0 0, .pointer (some ⟨x, 0, none⟩), .func (.func g) #[] lb, .pointer (some ⟨x, 0, none⟩), undef, undef, undef, undef, undef], defers := [] }) ?assign ?body ?done ?stop
  case assign =>
    intro l x W K hK
    unfold encN
    gi_wp2
    exact hK
  case body =>
    rintro l pre x W ⟨⟨v, hv, hrow, hnil⟩, hB⟩ hlt
    have hc := hv.cell
    gi_wp2_with (gi_at_builtin; refine wpListIn_append_own _ rfl _ _ 89 rfl w.heap.size 60 i0 (.pointer none) 1 8 Tryz.underlying89 hi hz0 hz1 hz2 rfl (by decide) _ _ _ rfl (hrow.alloc _) ⟨W.heap.size, 0, none⟩ 1 1 [.pointer (some ⟨x, 0, none⟩)] rfl rfl (cell_one_new _ _ _) (by simp [Value.oneCell']) (by unfold maxLen; omega) (by omega) (by have := hB.size; simp; omega) ?_; intro v' w1 hown' hgrow _; obtain ⟨g', cap', rfl⟩ := ownsRow_succ hown'; obtain ⟨hv1, hv2, hr2, hk2, hb2⟩ := hv.appended (by decide) hrow hB.size (Nat.le_refl _) hown' hgrow; have hc1 := hv1.cell; have hf1 := hv1.frozen)
    exact ⟨hk2.from _, hb2.mono hn₀, ⟨_, hv2, by simpa using hr2, by simp⟩, hB.trans hb2⟩
  case done =>
    rintro D ys W hD rfl ⟨⟨v, hv, hrow, hnil⟩, hB⟩ hK
    have hc := hv.cell
    gi_wp2
    refine ⟨by simp, .inl ⟨_, _, rfl, run_takeDeferred hK, ?_⟩⟩
    exact ⟨_, results_tmp rfl _ _ _, v, rfl, ownsRow_putObj hrow _ hK rfl, hnil, hB.trans (belowK_b (w := w) (Nat.le_refl _) W D _ _ (by simp at hD; omega) hK rfl rfl)⟩
  case stop =>
    rintro D c pre W _ _ h _
    exact h.elim

set_option maxHeartbeats 4000000 in
theorem collect_in (n : Nat) (hn : 3 ≤ n) (g : Nat) (lb : Array Value) (eg : ∀ args w, (callFunc g args).run Tryz.prog w = .ok (.enter g args) w) (bs : List Nat) (hlen : bs.length ≤ 100) (w : World) (n₀ : Nat) (hn₀ : n₀ ≤ w.heap.size)
    (hseq : SeqStopsK Fence.wide (n - 1 - 1) Tryz.prog g lb encN (Below n₀) (fun ys => ys = bs) (fun pre => pre <+: bs) bs.length w) :
    CallsIn Fence.wide n Tryz.prog 39 #[.func (.func g) #[] lb] w fun e W' => ∃ v, e = .returned v ∧ W'.ownsRow w.heap.size 60 1 v bs.length (bs.map fun b => .pointer (some ⟨b, 0, none⟩)) ∧ (v = .slice none 0 0 ↔ bs = []) ∧ Below w.heap.size w W' := by
  have h1 : 1 ≤ n := by omega
  refine callsIn_of_wp Tryz.func39 rfl trivial ?_ rfl
  simp only [Tryz.ntmps39, List.size_toArray, List.length_cons, List.length_nil, Nat.reduceAdd, Nat.reduceSub, Array.replicate_succ, Array.replicate_zero, List.push_toArray, List.append_toArray, List.nil_append, List.cons_append]
  gi_wp2_with (refine ⟨trivial, ?_⟩; gi_at_call 57; refine (appendSeq_in (n - 1) (by omega) g lb eg bs hlen w n₀ hn₀ hseq).mono ?_; rintro e w' ⟨v, rfl, hrow, hnil, hb⟩)
  go_ret
  exact ⟨v, rfl, hrow, hnil, hb⟩

/-- The nodes on the way to a key, as a slice of its own. -/
theorem collect_way (Bt Bk a : Nat) (p0 : Option Addr) (M : Wood) (key : List UInt8) (KL : List Value) (hKL : KL = Lib.byteCells key) (hk : key.length = 32) (bs : List Nat) (hlen : bs.length ≤ 100) (w : World)
    (hBt : w.cell? ⟨Bt, 0, none⟩ = some (.pointer (some ⟨a, 0, none⟩))) (hBtl : Bt < w.heap.size) (hroot : w.cell? ⟨a, 0, none⟩ = some (.pointer p0)) (hal : a < w.heap.size) (hM : WayMem M Bk KL w) (hway : IsWay M key p0 bs) :
    Calls Tryz.prog 39 #[.func (.func 53) #[] #[.pointer (some ⟨Bt, 0, none⟩), .pointer (some ⟨Bk, 0, none⟩)]] w fun e W' => ∃ v, e = .returned v ∧ W'.ownsRow w.heap.size 60 1 v bs.length (bs.map fun b => .pointer (some ⟨b, 0, none⟩)) ∧ (v = .slice none 0 0 ↔ bs = []) ∧ Below w.heap.size w W' :=
  callsIn_wide.1 (collect_in 3 (Nat.le_refl _) _ _ (enters_of Tryz.func53 (by kernel_rfl) rfl) bs hlen w w.heap.size (Nat.le_refl _)
    (way_stops 1 (Nat.le_refl _) Bt Bk a p0 M key KL hKL hk bs (Below w.heap.size) w (fun A B hb hA => hM.low hb hA) hBt hBtl hroot hal hM hway))

end Go.Proofs.YtblgmnjegkfoaaaGreat

namespace Go.Proofs.YtblgmnjegkfoaaaGreat
open Go.RowKit Go.Shelf
set_option linter.unusedVariables false
set_option linter.unusedSimpArgs false

attribute [local go_sem] Oper.semAt_some

/-- What the closure reads. -/
structure BackMem (Bs : Nat) (A : Option Addr) (c : Nat) (bs : List Nat) (W : World) : Prop where
  box : W.cell? ⟨Bs, 0, none⟩ = some (.slice A bs.length c)
  le : bs.length ≤ c
  row : ∀ i b, bs[i]? = some b → ∃ g o, A = some ⟨g, o, none⟩ ∧ W.cell? ⟨g, o + i, none⟩ = some (.pointer (some ⟨b, 0, none⟩))

abbrev IdxB (M : Wood) := Nat × { b : Nat // ∃ n, M b = some n ∧ 2 ≤ n.l.length }
def encB {M : Wood} (x : IdxB M) : Array Value := #[.int .i64 (x.1 : Nat), .pointer (some ⟨x.2.1, 0, none⟩)]

set_option maxRecDepth 100000 in
set_option maxHeartbeats 4000000 in
theorem backward1_in (n : Nat) (hn : 1 ≤ n) (l Bs : Nat) (A : Option Addr) (c : Nat) (bs : List Nat) (hlen : bs.length ≤ 100) (M : Wood) (hbr : ∀ b ∈ bs, ∃ n, M b = some n ∧ 2 ≤ n.l.length) (B0 : Nat) (J Jx : List (IdxB M) → World → Prop) (hJ : AbidesFrom B0 J) (Kp : World → World → Prop)
    (hKp : ∀ X Y, Kp X Y → BackMem Bs A c bs X → BackMem Bs A c bs Y)
    (hY : ∀ pre x W, J pre W → pre.length < bs.length → YieldAt Fence.wide (n - 1) Tryz.prog l (encB x) W fun e W' =>
      (e = .returned (.bool true) ∧ J (pre ++ [x]) W' ∧ Kp W W') ∨ (e = .returned (.bool false) ∧ Jx (pre ++ [x]) W'))
    (W : World) (hM : BackMem Bs A c bs W) (h0 : J [] W) :
    CallsIn Fence.wide n Tryz.prog 75 #[.func (.yield l) #[] #[], .pointer (some ⟨Bs, 0, none⟩)] W fun e W' => (∃ v, e = .returned v) ∧
      ((∃ ys, ys.map (fun x => x.2.1) = bs.reverse ∧ J ys W') ∨ (∃ pre, True ∧ Jx pre W')) := by
  have HJ := Lib.hid hJ
  have HKp := Lib.hid hKp
  clear hJ hKp
  have hbx := hM.box
  have hk63 : IntKind.i64.wrap ((bs.length : Int) - 1) = (bs.length : Int) - 1 := IntWalk.i64_in _ (by omega)
  refine callsIn_of_wp Tryz.func75 rfl trivial ?_ rfl
  simp only [Tryz.ntmps75, List.size_toArray, List.length_cons, List.length_nil, Nat.reduceAdd, Nat.reduceSub, Array.replicate_succ, Array.replicate_zero, List.push_toArray, List.append_toArray, List.nil_append, List.cons_append]
  gi_wp2
  gi_loopw [3] (fun p wr => ∃ (pre : List (IdxB M)), p = .int .i64 ((bs.length : Int) - 1 - pre.length) ∧ pre.length ≤ bs.length ∧ pre.map (fun x => x.2.1) = bs.reverse.take pre.length ∧ J pre wr ∧ BackMem Bs A c bs wr) (fun p wr => (intOf p + 1).toNat)
  case atStart => exact ⟨[], by simp, by simp, by simp, h0, hM⟩
  case round =>
    clear hM hbx h0
    obtain ⟨pre, rfl, hle, hpre, hJs, hMr⟩ := hrel
    obtain ⟨m, hm⟩ : ∃ m, pre.length = m := ⟨_, rfl⟩
    by_cases hlt : m < bs.length
    · have hd1 : decide ((0 : Int) ≤ (bs.length : Int) - 1 - (m : Int)) = true := decide_eq_true (by omega)
      obtain ⟨b, hb⟩ : ∃ b, bs[bs.length - 1 - m]? = some b := ⟨_, List.getElem?_eq_getElem (by omega)⟩
      obtain ⟨g, o, rfl, hcell⟩ := hMr.row _ b hb
      have hbox := hMr.box
      have hcap := hMr.le
      have hbm : b ∈ bs := List.mem_of_getElem? hb
      obtain ⟨fn, tmps, assign, body, hy, hR⟩ := hY pre (bs.length - 1 - m, ⟨b, hbr b hbm⟩) wr hJs (by omega)
      unfold encB at hy
      have hii : ((bs.length - 1 - m : Nat) : Int) = (bs.length : Int) - 1 - (m : Int) := by omega
      dsimp only at hy
      rw [hii] at hy
      have hw1 : IntKind.i64.wrap ((bs.length : Int) - 1 - (m : Int) - 1) = (bs.length : Int) - 1 - ((m + 1 : Nat) : Int) := by
        rw [IntWalk.i64_in _ (by omega)]; omega
      rw [hm]
      gi_wp2
      refine hR.mono ?_
      rintro e W3 (⟨rfl, hJ3, hk3⟩ | ⟨rfl, hJx3⟩)
      · have hM3 := HKp.out _ _ hk3 hMr
        clear hR hy hY
        gi_wp2
        case roundEnd =>
          have hrev : bs.reverse[m]? = some b := by rw [List.getElem?_reverse (by omega)]; exact hb
          refine ⟨⟨pre ++ [(bs.length - 1 - m, ⟨b, hbr b hbm⟩)], by simp [hm], by simp [hm]; omega, ?_, hJ3, hM3⟩, by simp [intOf]; omega⟩
          rw [List.length_append, hm, List.map_append, hpre, hm]
          show _ = bs.reverse.take (m + 1)
          rw [List.take_add_one, hrev]
          rfl
      · clear hR hy hY
        gi_wp2
        refine bodyPost_ret (results_none rfl _ _ _) rfl ?_
        exact ⟨⟨_, rfl⟩, .inr ⟨_, trivial, hJx3⟩⟩
    · obtain rfl : m = bs.length := by omega
      have hd1 : decide ((0 : Int) ≤ (bs.length : Int) - 1 - ((bs.length : Nat) : Int)) = false := decide_eq_false (by omega)
      rw [hm]
      gi_wp2
      go_end0
      refine ⟨⟨_, rfl⟩, .inl ⟨pre, ?_, hJs⟩⟩
      rw [hpre, hm, List.take_of_length_le (by simp)]

/-- Backward gives its closure; the slice lies in a box. -/
theorem backward_run (A : Option Addr) (k c : Nat) (w : World) :
    Calls Tryz.prog 58 #[.slice A k c] w fun e w' => e = .returned (.func (.func 75) #[] #[.pointer (some ⟨w.heap.size, 0, none⟩)]) ∧
      w' = w.alloc (.cells #[.slice A k c] 89) := by
  have hmf : ∀ (fn : Fn) (first cap : Array Value) (w : World), (Instr.makeFunc fn first cap).run Tryz.prog w = .ok (.func fn first cap) w := fun _ _ _ _ => rfl
  go_enter Tryz.func58, Tryz.ntmps58
  go_wp2
  go_ret
  exact ⟨rfl, rfl⟩

end Go.Proofs.YtblgmnjegkfoaaaGreat

namespace Go.Proofs.YtblgmnjegkfoaaaGreat
open Go.RowKit
set_option linter.unusedVariables false
set_option linter.unusedSimpArgs false

theorem aloneF_told : ∀ (ps : List (Option Addr)) (o a : Addr), aloneF ps (some o) = some a → a = o ∧ ∀ (j : Nat) (b : Addr), ps[j]? ≠ some (some b)
  | [], o, a, h => by
    simp only [aloneF, Option.some.injEq] at h
    exact ⟨h.symm, fun j b => by simp⟩
  | none :: r, o, a, h => by
    obtain ⟨h1, h2⟩ := aloneF_told r o a h
    refine ⟨h1, fun j b => ?_⟩
    cases j with
    | zero => simp
    | succ j => simpa using h2 j b
  | some p :: r, o, a, h => by simp [aloneF] at h
theorem aloneF_some : ∀ (ps : List (Option Addr)) (a : Addr), aloneF ps none = some a → ∃ j, ps[j]? = some (some a) ∧ ∀ (i : Nat) (b : Addr), i ≠ j → ps[i]? ≠ some (some b)
  | [], a, h => by simp [aloneF] at h
  | none :: r, a, h => by
    obtain ⟨j, h1, h2⟩ := aloneF_some r a h
    refine ⟨j + 1, by simpa using h1, fun i b hi => ?_⟩
    cases i with
    | zero => simp
    | succ i => simpa using h2 i b (by omega)
  | some p :: r, a, h => by
    obtain ⟨h1, h2⟩ := aloneF_told r p a h
    refine ⟨0, by simp [h1], fun i b hi => ?_⟩
    cases i with
    | zero => exact absurd rfl hi
    | succ i => simpa using h2 i b
theorem aloneF_other : ∀ (ps : List (Option Addr)) (o : Addr), aloneF ps (some o) = none → ∃ (j : Nat) (b : Addr), ps[j]? = some (some b)
  | [], o, h => by simp [aloneF] at h
  | none :: r, o, h => by
    obtain ⟨j, b, h1⟩ := aloneF_other r o h
    exact ⟨j + 1, b, by simpa using h1⟩
  | some p :: r, o, h => ⟨0, p, by simp⟩
theorem aloneF_none : ∀ (ps : List (Option Addr)) (i : Nat) (a : Addr), aloneF ps none = none → ps[i]? = some (some a) → ∃ (j : Nat) (b : Addr), j ≠ i ∧ ps[j]? = some (some b)
  | [], i, a, h, hi => by simp at hi
  | none :: r, i, a, h, hi => by
    cases i with
    | zero => simp at hi
    | succ i =>
      obtain ⟨j, b, h1, h2⟩ := aloneF_none r i a h (by simpa using hi)
      exact ⟨j + 1, b, by omega, by simpa using h2⟩
  | some p :: r, i, a, h, hi => by
    cases i with
    | zero =>
      obtain ⟨j, b, h1⟩ := aloneF_other r p h
      exact ⟨j + 1, b, by omega, by simpa using h1⟩
    | succ i => exact ⟨0, p, by omega, by simp⟩

/-- What a put is to make of a branch's items. -/
structure PutOk (M : Wood) (n : Nd) (i : Nat) (q : Option Addr) (L : List It) : Prop where
  rise : Rise L
  l32 : ∀ x ∈ L, x.1.length = 32
  vals : ∀ x ∈ L, x.2.length ≤ 1000
  agree : ∀ j, j < n.f → agreeF L j = true
  ne : L ≠ []
  key : ∀ x ∈ L, ∀ j, j < sharedF n.l n.f → nibF x.1 j = nibF n.key j
  off : ∀ j, j < 16 → j ≠ i → subF L (sharedF n.l n.f) j = subF n.l (sharedF n.l n.f) j
  kid : (subF L (sharedF n.l n.f) i = [] ∧ q = none) ∨ (subF L (sharedF n.l n.f) i ≠ [] ∧ ∃ c n', q = some ⟨c, 0, none⟩ ∧ M c = some n' ∧ n'.l = subF L (sharedF n.l n.f) i ∧ n'.f = sharedF n.l n.f + 1)

/-- A leaf's value is that of a leaf which was there, or lies from a block on. -/
def ValsUp (M : Wood) (m : Nd) (B : Nat) : Prop := m.l.length < 2 → ∀ a : Addr, m.adr = some a → 0 < m.len → (∃ c n', M c = some n' ∧ n'.l.length < 2 ∧ n'.adr = some a ∧ 0 < n'.len) ∨ B ≤ a.block
/-- What a wood has more lies from a block on. -/
def Wood.Up (M M1 : Wood) (B : Nat) : Prop := ∀ k n, M1 k = some n → M k = some n ∨ (B ≤ k ∧ ValsUp M n B)
theorem Wood.up_refl (M : Wood) (B : Nat) : M.Up M B := fun _ _ h => .inl h
theorem ValsUp.base {M M1 : Wood} {B : Nat} {m : Nd} (hv : ValsUp M1 m B) (h : M.Up M1 B) : ValsUp M m B := fun h1 a ha hp => by
  rcases hv h1 a ha hp with ⟨c, n', k1, k2, k3, k4⟩ | h2
  · rcases h c n' k1 with h | ⟨_, h⟩
    · exact .inl ⟨c, n', h, k2, k3, k4⟩
    · exact h k2 a k3 k4
  · exact .inr h2
theorem Wood.up_set {M M1 : Wood} {B g : Nat} {m : Nd} (h : M.Up M1 B) (hg : B ≤ g) (hv : ValsUp M1 m B) : M.Up (M1.set g m) B := fun k n hk => by
  unfold Wood.set at hk
  by_cases e : k = g
  · rw [if_pos e] at hk
    injection hk with hk
    subst hk
    exact .inr ⟨by omega, hv.base h⟩
  · rw [if_neg e] at hk
    exact h k n hk
theorem Wood.Up.low {M M1 : Wood} {B B' : Nat} (h : M.Up M1 B) (hb : B' ≤ B) : M.Up M1 B' := fun k n hk => (h k n hk).imp id (fun q => ⟨Nat.le_trans hb q.1, fun h1 a ha hp => (q.2 h1 a ha hp).imp id (fun q => Nat.le_trans hb q)⟩)
theorem Wood.Up.then {M M1 M2 : Wood} {B : Nat} (h : M.Up M1 B) (k : M1.Up M2 B) : M.Up M2 B := fun i n hi => by
  rcases k i n hi with q | ⟨q1, q2⟩
  · exact h i n q
  · exact .inr ⟨q1, q2.base h⟩
theorem ValsUp.bare {M : Wood} {m : Nd} {B : Nat} (h : m.adr = none) : ValsUp M m B := fun _ a ha _ => by rw [h] at ha; cases ha
/-- A leaf's value is that of a leaf which was there. -/
def ValOld (M : Wood) (m : Nd) : Prop := m.l.length < 2 → ∀ a : Addr, m.adr = some a → 0 < m.len → ∃ c n', M c = some n' ∧ n'.l.length < 2 ∧ n'.adr = some a ∧ 0 < n'.len
theorem ValsUp.old {M : Wood} {m : Nd} {B : Nat} (h : ValOld M m) : ValsUp M m B := fun h1 a ha hp => .inl (h h1 a ha hp)
theorem Wood.Sep.set {M : Wood} (h : M.Sep) {w : World} (hS : Stand M w) {g : Nat} (hg : w.heap.size ≤ g) {m : Nd} (hm : m.l.length < 2 → ∀ a : Addr, m.adr = some a → 0 < m.len → M a.block = none ∧ a.block < w.heap.size) : (M.set g m).Sep := fun b n a hb h1 ha hl => by
  have key : M a.block = none ∧ a.block < w.heap.size := by
    unfold Wood.set at hb
    by_cases e : b = g
    · rw [if_pos e] at hb
      injection hb with hb
      subst hb
      exact hm h1 a ha hl
    · rw [if_neg e] at hb
      exact ⟨h b n a hb h1 ha hl, (hS b n hb).valOf h1 a ha hl⟩
  unfold Wood.set
  rw [if_neg (by omega)]
  exact key.1
theorem ValOld.sep {M : Wood} {m : Nd} (hv : ValOld M m) (h : M.Sep) {w : World} (hS : Stand M w) {g : Nat} (hg : w.heap.size ≤ g) : (M.set g m).Sep :=
  h.set hS hg fun h1 a ha hl => by
    obtain ⟨c, n', k1, k2, k3, k4⟩ := hv h1 a ha hl
    exact ⟨h c n' a k1 k2 k3 k4, (hS c n' k1).valOf k2 a k3 k4⟩
theorem Stand.up {M : Wood} {w w' : World} (h : Stand M w) (hb : Below w.heap.size w w') : Stand M w' := h.only (R := fun _ => False) (Only.of_below hb) (fun _ _ h => h)

set_option maxHeartbeats 4000000 in
theorem put_sem (M : Wood) (b : Nat) (n : Nd) (hb : M b = some n) (h2 : 2 ≤ n.l.length) (i : Nat) (hi : i < 16) (q : Option Addr) (L : List It) (hok : PutOk M n i q L) (w : World) (hS : Stand M w) :
    Calls Tryz.prog 59 #[.pointer (some ⟨b, 0, none⟩), .int .u8 (i : Nat), .pointer q] w fun x w' => ∃ g2 n2, w.heap.size ≤ g2 ∧ x = .returned (.pointer (some ⟨g2, 0, none⟩)) ∧ n2.l = L ∧ n2.f = n.f ∧ NdAt M w' g2 n2 ∧ ValOld M n2 ∧ Below w.heap.size w w' := by
  have hn := hS b n hb
  obtain ⟨d, sx, dig, hdl, hd, hc⟩ := hn.cells
  rcases hc with ⟨_, hl⟩ | ⟨hN, hr⟩
  · obtain ⟨val, e, _⟩ := hl.one
    rw [e] at h2
    simp at h2
  · have hs := (hn.rise.good hn.l32).split h2 hn.f64 hn.agree
    have hge := sharedF_ge n.l n.f
    obtain ⟨s, hse⟩ : ∃ s, sharedF n.l n.f = s := ⟨_, rfl⟩
    obtain ⟨o1, o2, o3, o4, o5, o6, o7, o8⟩ := hok
    have roff := hr.off
    have ron := hr.on
    rw [hse] at hs hge o6 o7 o8 hN roff ron
    have k16 := hr.k16
    have hps : (n.kids.set i q).length = 16 := by rw [List.length_set]; exact k16
    have hK : ∀ j, j < 16 → (subF L s j = [] ∧ (n.kids.set i q)[j]? = some none) ∨ (subF L s j ≠ [] ∧ ∃ c n', (n.kids.set i q)[j]? = some (some ⟨c, 0, none⟩) ∧ M c = some n' ∧ n'.l = subF L s j ∧ n'.f = s + 1) := fun j hj => by
      by_cases e : j = i
      · subst e
        rw [List.getElem?_set_self (by omega)]
        rcases o8 with ⟨h, rfl⟩ | ⟨h, c, n', rfl, k⟩
        · exact .inl ⟨h, rfl⟩
        · exact .inr ⟨h, c, n', rfl, k⟩
      · rw [List.getElem?_set_ne (fun h => e h.symm), o7 j hj e]
        by_cases h : subF n.l s j = []
        · exact .inl ⟨h, roff j hj h⟩
        · exact .inr ⟨h, ron j hj h⟩
    have hpart : ∀ x ∈ L, ∃ c, (n.kids.set i q)[nibF x.1 s]? = some (some c) := fun x hx => by
      have hx2 : x ∈ subF L s (nibF x.1 s) := mem_subF.2 ⟨hx, rfl⟩
      rcases hK _ (nibF_lt x.1 s) with ⟨h, _⟩ | ⟨_, c, n', h, _⟩
      · rw [h] at hx2; cases hx2
      · exact ⟨_, h⟩
    obtain ⟨r, hal⟩ : ∃ r, aloneF (n.kids.set i q) none = r := ⟨_, rfl⟩
    cases r with
    | none =>
      refine (put_branch n.key _ rfl hn.k32 b n.arr (n.f : Nat) (s : Nat) _ d 0 sx dig _ rfl n.kids k16 _ rfl i hi q w hN hr.row hal).mono ?_
      rintro x w' ⟨g2, gA, hg2, hgA, rfl, hA2, hAA, hbl⟩
      have hne : gA ≠ g2 := fun e => by
        rw [e] at hAA
        have q : some _ = some _ := hAA.symm.trans hA2
        injection q with q
        injection q with q1 q2
        exact absurd q2 (by decide)
      obtain ⟨x, hx⟩ := List.exists_mem_of_ne_nil L o5
      obtain ⟨c, hc⟩ := hpart x hx
      obtain ⟨j, c', hj, hjc⟩ := aloneF_none _ _ _ hal hc
      have hj16 : j < 16 := by
        have := (List.getElem?_eq_some_iff.1 hjc).1
        omega
      have hjn : subF L s j ≠ [] := by
        rcases hK j hj16 with ⟨_, h⟩ | ⟨h, _⟩
        · rw [h] at hjc; cases hjc
        · exact h
      obtain ⟨y, hy⟩ := List.exists_mem_of_ne_nil _ hjn
      obtain ⟨hyL, hyj⟩ := mem_subF.1 hy
      have hL2 : 2 ≤ L.length := by
        match L, hx, hyL with
        | [z], hx, hyL =>
          rw [List.mem_singleton] at hx hyL
          rw [hx] at hj
          rw [hyL] at hyj
          exact absurd hyj.symm hj
        | z :: z2 :: r, _, _ => simp
      have hsh : sharedF L n.f = s := shared_two hge hs (fun k h1 h2 => agreeF_iff.2 fun x hx y hy => by rw [o6 x hx k h2, o6 y hy k h2]) hx hyL (by rw [hyj]; exact hj.symm)
      refine ⟨g2, _, hg2, rfl, ?_, ?_, (hn.keep (R := fun _ => False) (Only.of_below hbl) (fun h => h) (fun _ h => h) (fun _ _ _ _ h => h)).put h2 o1 o2 o3 o4 hL2 hse hsh hi o6 o7 q o8 hne hA2 hAA, (fun _ a h => by cases h), hbl⟩
      · rfl
      · rfl
    | some a =>
      obtain ⟨j, hj, hoth⟩ := aloneF_some _ _ hal
      have hj16 : j < 16 := by
        have := (List.getElem?_eq_some_iff.1 hj).1
        omega
      obtain ⟨c, n', rfl, hc, hl', hf'⟩ : ∃ c n', a = ⟨c, 0, none⟩ ∧ M c = some n' ∧ n'.l = subF L s j ∧ n'.f = s + 1 := by
        rcases hK j hj16 with ⟨_, h⟩ | ⟨_, c, n', h, k⟩
        · rw [h] at hj; cases hj
        · rw [h] at hj
          injection hj with hj
          injection hj with hj
          exact ⟨c, n', hj.symm, k⟩
      have hLj : subF L s j = L := part_whole fun x hx => by
        obtain ⟨c', h⟩ := hpart x hx
        by_cases e : nibF x.1 s = j
        · exact e
        · exact absurd h (hoth _ _ e)
      rw [hLj] at hl'
      have hn' := hS c n' hc
      have hag' : ∀ k, k < s + 1 → agreeF n'.l k = true := by rw [← hf']; exact hn'.agree
      obtain ⟨d2, s2, dig2, _, _, hc2⟩ := hn'.cells
      rcases hc2 with ⟨hN2, hl2⟩ | ⟨hN2, hr2⟩
      · refine (put_alone n.key _ rfl hn.k32 b n.arr (n.f : Nat) (s : Nat) _ d 0 sx dig _ rfl n.kids k16 _ rfl i hi q w hN hr.row c hal n'.key _ rfl hn'.k32 _ _ _ _ _ _ _ _ _ _ _ rfl _ rfl hN2).mono ?_
        rintro x w' ⟨g2, hg2, rfl, hA2, hbl⟩
        refine ⟨g2, { n' with f := n.f }, hg2, rfl, hl', rfl, ?_, fun h1 a ha hl0 => ⟨c, n', hc, h1, ha, hl0⟩, hbl⟩
        exact ⟨hn'.k32, hn'.rise, hn'.l32, hn'.vals, hn.f64, fun k hk => hag' k (by simp only at hk; omega), 0, 0, z32, rfl, .inl rfl, .inl ⟨hA2, (hl2.keep (R := fun _ => False) (Only.of_below hbl) (fun _ _ _ h => h)).one, hl2.le, hl2.lim⟩⟩
      · have h22 := hr2.two
        have e : sharedF n'.l n.f = sharedF n'.l n'.f := by rw [hf']; exact sharedF_from (by omega) (by omega) (fun k _ h2 => hag' k h2)
        refine (put_alone n.key _ rfl hn.k32 b n.arr (n.f : Nat) (s : Nat) _ d 0 sx dig _ rfl n.kids k16 _ rfl i hi q w hN hr.row c hal n'.key _ rfl hn'.k32 _ _ _ _ _ _ _ _ _ _ _ rfl _ rfl hN2).mono ?_
        rintro x w' ⟨g2, hg2, rfl, hA2, hbl⟩
        have hlt := hr2.row.lt
        refine ⟨g2, { n' with f := n.f }, hg2, rfl, hl', rfl, ?_, fun h1 a ha hl0 => ⟨c, n', hc, h1, ha, hl0⟩, hbl⟩
        refine ⟨hn'.k32, hn'.rise, hn'.l32, hn'.vals, hn.f64, fun k hk => hag' k (by simp only at hk; omega), 0, 0, z32, rfl, .inl rfl, .inr ⟨?_, ?_⟩⟩
        · show Arr w' g2 _ (nodeC n'.key (n.f : Nat) (sharedF n'.l n.f : Nat) _ _ 0 0 0 z32)
          rw [e]
          exact hA2
        · have hb2 := hr2.keep (R := fun _ => False) (Only.of_below hbl) (fun h => h)
          refine ⟨hb2.two, ?_, fun e2 => by simp only at e2; omega, hb2.k16, hb2.row, ?_, ?_⟩
          · show ∀ x ∈ n'.l, ∀ k, k < sharedF n'.l n.f → _
            rw [e]; exact hb2.way
          · show ∀ k, k < 16 → subF n'.l (sharedF n'.l n.f) k = [] → _
            rw [e]; exact hb2.off
          · show ∀ k, k < 16 → subF n'.l (sharedF n'.l n.f) k ≠ [] → ∃ b' m, n'.kids[k]? = some (some ⟨b', 0, none⟩) ∧ M b' = some m ∧ m.l = subF n'.l (sharedF n'.l n.f) k ∧ m.f = sharedF n'.l n.f + 1
            rw [e]; exact hb2.on

/-- A node, whatever it holds. -/
def NodeS (W : World) (g : Nat) : Prop := ∃ (key : List UInt8) (f t : Int) (A : Option Addr) (n c : Nat) (np : Option Addr) (d m s : Int) (dig : List UInt8), key.length = 32 ∧ Arr W g 87 (nodeC key f t (.slice A n c) (.pointer np) d m s dig)
theorem NdAt.shape {M : Wood} {w : World} {b : Nat} {n : Nd} (h : NdAt M w b n) : NodeS w b := by
  obtain ⟨d, s, dig, hdl, hd, hc⟩ := h.cells
  rcases hc with ⟨hN, _⟩ | ⟨hN, _⟩
  · exact ⟨_, _, _, _, _, _, _, _, _, _, _, h.k32, hN⟩
  · exact ⟨_, _, _, _, _, _, _, _, _, _, _, h.k32, hN⟩
/-- A node, or none. -/
def PtrS (W : World) (q : Option Addr) : Prop := q = none ∨ ∃ g, q = some ⟨g, 0, none⟩ ∧ NodeS W g

set_option maxHeartbeats 4000000 in
theorem put_shape (M : Wood) (b : Nat) (n : Nd) (hb : M b = some n) (h2 : 2 ≤ n.l.length) (i : Nat) (hi : i < 16) (q : Option Addr) (w : World) (hS : Stand M w) (hq : PtrS w q) :
    Calls Tryz.prog 59 #[.pointer (some ⟨b, 0, none⟩), .int .u8 (i : Nat), .pointer q] w fun x w' => ∃ g2, w.heap.size ≤ g2 ∧ x = .returned (.pointer (some ⟨g2, 0, none⟩)) ∧ NodeS w' g2 ∧ Below w.heap.size w w' := by
  have hn := hS b n hb
  obtain ⟨d, sx, dig, hdl, hd, hc⟩ := hn.cells
  rcases hc with ⟨_, hl⟩ | ⟨hN, hr⟩
  · obtain ⟨val, e, _⟩ := hl.one
    rw [e] at h2
    simp at h2
  · have k16 := hr.k16
    have hps : (n.kids.set i q).length = 16 := by rw [List.length_set]; exact k16
    obtain ⟨r, hal⟩ : ∃ r, aloneF (n.kids.set i q) none = r := ⟨_, rfl⟩
    cases r with
    | none =>
      refine (put_branch n.key _ rfl hn.k32 b n.arr (n.f : Nat) (sharedF n.l n.f : Nat) _ d 0 sx dig _ rfl n.kids k16 _ rfl i hi q w hN hr.row hal).mono ?_
      rintro x w' ⟨g2, gA, hg2, hgA, rfl, hA2, hAA, hbl⟩
      exact ⟨g2, hg2, rfl, ⟨_, _, _, _, _, _, _, _, _, _, _, hn.k32, hA2⟩, hbl⟩
    | some a =>
      obtain ⟨j, hj, hoth⟩ := aloneF_some _ _ hal
      have hj16 : j < 16 := by
        have := (List.getElem?_eq_some_iff.1 hj).1
        omega
      obtain ⟨c, rfl, hc⟩ : ∃ c, a = ⟨c, 0, none⟩ ∧ NodeS w c := by
        by_cases e : j = i
        · subst e
          rw [List.getElem?_set_self (by omega)] at hj
          injection hj with hj
          rcases hq with h | ⟨g, h, hs⟩
          · rw [h] at hj; cases hj
          · rw [h] at hj; injection hj with hj; exact ⟨g, hj.symm, hs⟩
        · rw [List.getElem?_set_ne (fun h => e h.symm)] at hj
          by_cases h : subF n.l (sharedF n.l n.f) j = []
          · rw [hr.off j hj16 h] at hj; cases hj
          · obtain ⟨c, n', k1, k2, _⟩ := hr.on j hj16 h
            rw [k1] at hj
            injection hj with hj
            injection hj with hj
            exact ⟨c, hj.symm, (hS c n' k2).shape⟩
      obtain ⟨key', f', t', A, nn, cc, np, d', m', s', dig', hk', hN2⟩ := hc
      refine (put_alone n.key _ rfl hn.k32 b n.arr (n.f : Nat) (sharedF n.l n.f : Nat) _ d 0 sx dig _ rfl n.kids k16 _ rfl i hi q w hN hr.row c hal key' _ rfl hk' f' t' A nn cc np d' m' s' dig' _ rfl _ rfl hN2).mono ?_
      rintro x w' ⟨g2, hg2, rfl, hA2, hbl⟩
      exact ⟨g2, hg2, rfl, ⟨_, _, _, _, _, _, _, _, _, _, _, hk', hA2⟩, hbl⟩

end Go.Proofs.YtblgmnjegkfoaaaGreat

namespace Go.Proofs.YtblgmnjegkfoaaaGreat
open Go.RowKit
set_option linter.unusedVariables false
set_option linter.unusedSimpArgs false

theorem byteCells_injT {a b : List UInt8} (h : Lib.byteCells a = Lib.byteCells b) : a = b := by
  have hl : a.length = b.length := by have := congrArg List.length h; simpa [Lib.byteCells_length] using this
  refine List.ext_getElem hl fun j h1 h2 => ?_
  have e1 := byteCells_get h1
  have e2 := byteCells_get h2
  rw [h, e2] at e1
  simp only [Option.some.injEq, Value.int.injEq, true_and] at e1
  have e3 : (b.getD j 0).toNat = (a.getD j 0).toNat := by omega
  have e4 := UInt8.toNat_inj.1 e3
  simp only [List.getD, List.getElem?_eq_getElem h1, List.getElem?_eq_getElem h2, Option.getD_some] at e4
  exact e4.symm
theorem nodeC_key {key key' : List UInt8} (hk : key.length = 32) (hk' : key'.length = 32) {f t f' t' : Int} {vv nn vv' nn' : Value} {d m s d' m' s' : Int} {dig dig' : List UInt8} (h : nodeC key f t vv nn d m s dig = nodeC key' f' t' vv' nn' d' m' s' dig') : key = key' ∧ f = f' := by
  unfold nodeC at h
  have hl : (Lib.byteCells key).length = (Lib.byteCells key').length := by rw [Lib.byteCells_length, Lib.byteCells_length, hk, hk']
  obtain ⟨h1, h2⟩ := List.append_inj h hl
  refine ⟨byteCells_injT h1, ?_⟩
  injection h2 with h2
  injection h2
theorem Arr.same {w : World} {g : Nat} {T : TypeId} {cs cs' : List Value} (h : Arr w g T cs) (h' : Arr w g T cs') : cs = cs' := by
  have q : some _ = some _ := h.symm.trans h'
  injection q with q
  injection q with q
  have := congrArg Array.toList q
  simpa using this

/-- The node of the same items, begun elsewhere, anew: a leaf. -/
theorem NdAt.againLeaf {M : Wood} {w w' : World} {b g : Nat} {n : Nd} (hn : NdAt M w b n) (hl : LeafAt w n) (hbl : Below w.heap.size w w') {f' : Nat} (hf : f' ≤ 64) (hA : Arr w' g 87 (nodeC n.key (f' : Nat) 64 (.slice n.adr n.len n.cap) (.pointer none) 0 0 0 z32)) : NdAt M w' g { n with f := f' } := by
  refine ⟨hn.k32, hn.rise, hn.l32, hn.vals, hf, fun i _ => ?_, 0, 0, z32, rfl, .inl rfl, .inl ⟨hA, (hl.keep (R := fun _ => False) (Only.of_below hbl) (fun _ _ _ h => h)).one, hl.le, hl.lim⟩⟩
  obtain ⟨val, e, _⟩ := hl.one
  show agreeF n.l i = true
  rw [e]
  exact agreeF_iff.2 fun x hx y hy => by
    rw [List.mem_singleton] at hx hy
    rw [hx, hy]
theorem NdAt.againBranch {M : Wood} {w w' : World} {b g : Nat} {n : Nd} (hn : NdAt M w b n) (hr : BranchAt M w b n) (hbl : Below w.heap.size w w') (hg : w.heap.size ≤ g) {f' : Nat} (hf : f' ≤ 64) (hag : ∀ i, i < f' → agreeF n.l i = true) (e : sharedF n.l f' = sharedF n.l n.f)
    (hA : Arr w' g 87 (nodeC n.key (f' : Nat) (sharedF n.l n.f : Nat) (.slice none 0 0) (.pointer (some ⟨n.arr, 0, none⟩)) 0 0 0 z32)) : NdAt M w' g { n with f := f' } := by
  have hlt := hr.row.lt
  refine ⟨hn.k32, hn.rise, hn.l32, hn.vals, hf, hag, 0, 0, z32, rfl, .inl rfl, .inr ⟨?_, ?_⟩⟩
  · show Arr w' g _ (nodeC n.key (f' : Nat) (sharedF n.l f' : Nat) _ _ 0 0 0 z32)
    rw [e]
    exact hA
  · have hb2 := hr.keep (R := fun _ => False) (Only.of_below hbl) (fun h => h)
    refine ⟨hb2.two, ?_, fun e2 => by simp only at e2; omega, hb2.k16, hb2.row, ?_, ?_⟩
    · show ∀ x ∈ n.l, ∀ k, k < sharedF n.l f' → _
      rw [e]; exact hb2.way
    · show ∀ k, k < 16 → subF n.l (sharedF n.l f') k = [] → _
      rw [e]; exact hb2.off
    · show ∀ k, k < 16 → subF n.l (sharedF n.l f') k ≠ [] → ∃ b' m, n.kids[k]? = some (some ⟨b', 0, none⟩) ∧ M b' = some m ∧ m.l = subF n.l (sharedF n.l f') k ∧ m.f = sharedF n.l f' + 1
      rw [e]; exact hb2.on

/-- What a new value is: where it lies, and that it is no node. -/
structure ValNew (M : Wood) (w : World) (A : Option Addr) (n c : Nat) (val : List UInt8) : Prop where
  len : val.length = n
  le : n ≤ c
  lim : c ≤ maxLen
  small : val.length ≤ 1000
  bs : Bs w w.heap.size A val
  off : ∀ a : Addr, A = some a → 0 < n → M a.block = none

/-- Above a node: a branch with it and a new leaf. -/
theorem above_wood (M : Wood) (b : Nat) (n : Nd) (w w' : World) (hS : Stand M w) (hsep : M.Sep) (hb : M b = some n) (hbl : Below w.heap.size w w') (key val : List UInt8) (hk : key.length = 32) (A2 : Option Addr) (n2 c2 : Nat) (hv : ValNew M w A2 n2 c2 val)
    (e : Nat) (he : e < 64) (hne : n.f ≤ e) (hKA : ∀ x ∈ n.l, ∀ i, i ≤ e → nibF x.1 i = nibF n.key i) (hkk : ∀ i, i < e → nibF n.key i = nibF key i) (hkd : nibF n.key e ≠ nibF key e)
    (g2 gA gB gL : Nat) (h2 : w.heap.size ≤ g2) (hA : w.heap.size ≤ gA) (hB : w.heap.size ≤ gB) (hL : w.heap.size ≤ gL)
    (a2 : Arr w' g2 87 (nodeC n.key (n.f : Nat) (e : Nat) (.slice none 0 0) (.pointer (some ⟨gA, 0, none⟩)) 0 0 0 z32)) (aA : Arr w' gA 132 (kidsC ((noKids.set (nibF n.key e) (some ⟨gB, 0, none⟩)).set (nibF key e) (some ⟨gL, 0, none⟩))))
    (vv nn : Value) (t : Int) (aB : Arr w' gB 87 (nodeC n.key ((e : Int) + 1) t vv nn 0 0 0 z32)) (nB : NdAt M w' gB { n with f := e + 1 }) (aL : Arr w' gL 87 (nodeC key ((e : Int) + 1) 64 (.slice A2 n2 c2) (.pointer none) 0 0 0 z32)) (B0 : Nat) (hB0 : B0 ≤ w.heap.size) (hA0 : ∀ ad : Addr, A2 = some ad → 0 < n2 → B0 ≤ ad.block) :
    ∃ m M2, M.le M2 ∧ M2 g2 = some m ∧ m.l = putF key val n.l ∧ m.f = n.f ∧ Stand M2 w' ∧ M2.Sep ∧ M.Up M2 B0 := by
  have hn := hS b n hb
  have hS' := hS.up hbl
  have hsz := hbl.size
  have fr : ∀ k, w.heap.size ≤ k → M k = none := fun k hk => hS.fresh hk
  have cast : ((e + 1 : Nat) : Int) = (e : Int) + 1 := by omega
  have d1 : g2 ≠ gB := fun q => by
    rw [q] at a2
    have := (nodeC_key hn.k32 hn.k32 (a2.same aB)).2
    omega
  have d2 : g2 ≠ gL := fun q => by
    rw [q] at a2
    have := (nodeC_key hn.k32 hk (a2.same aL)).2
    omega
  have d3 : gB ≠ gL := fun q => by
    rw [q] at aB
    exact hkd (by rw [(nodeC_key hn.k32 hk (aB.same aL)).1])
  have d4 : gA ≠ g2 := fun q => by
    rw [q] at aA
    have q : some _ = some _ := aA.symm.trans a2
    injection q with q
    injection q with q1 q2
    exact absurd q2 (by decide)
  have hx0 := hn.pos
  have hl0 : n.l ≠ [] := List.length_pos_iff.1 hx0
  have hag : ∀ i, n.f ≤ i → i ≤ e → agreeF n.l i = true := fun i _ hi => agreeF_iff.2 fun x hx y hy => by rw [hKA x hx i hi, hKA y hy i hi]
  obtain ⟨s1, s2, s3, s4⟩ := shared_off (val := val) hk hn.l32 hn.rise hne he hl0 hag (fun x hx i _ hi => by rw [hKA x hx i (by omega), hkk i hi]) (fun x hx q => hkd (by rw [← hKA x hx e (Nat.le_refl _), q]))
  have s3' : subF (putF key val n.l) e (nibF n.key e) = n.l := by
    obtain ⟨x, hx⟩ := List.exists_mem_of_ne_nil _ hl0
    rw [← hKA x hx e (Nat.le_refl _)]
    exact s3 x hx
  -- the three nodes
  have nL : NdAt M w' gL ⟨[(key, val)], e + 1, key, A2, n2, c2, gL, []⟩ := NdAt.leaf M hk (by omega) hv.len hv.le hv.lim hv.small (fun hp => by
    obtain ⟨blk, off, q, hlt, hc⟩ := hv.bs hp
    refine ⟨blk, off, q, by omega, fun j hj => ?_⟩
    rw [← hc j hj]
    exact World.cell?_of_block (hbl.block blk hlt)) (by rw [cast]; exact aL)
  obtain ⟨mB, hmB⟩ : ∃ m : Nd, m = { n with f := e + 1 } := ⟨_, rfl⟩
  obtain ⟨mL, hmL⟩ : ∃ m : Nd, m = ⟨[(key, val)], e + 1, key, A2, n2, c2, gL, []⟩ := ⟨_, rfl⟩
  obtain ⟨m2, hm2⟩ : ∃ m : Nd, m = ⟨putF key val n.l, n.f, n.key, none, 0, 0, gA, (noKids.set (nibF n.key e) (some ⟨gB, 0, none⟩)).set (nibF key e) (some ⟨gL, 0, none⟩)⟩ := ⟨_, rfl⟩
  rw [← hmB] at nB
  rw [← hmL] at nL
  have f1 : (M.set gB mB) gL = none := by unfold Wood.set; rw [if_neg (fun q => d3 q.symm)]; exact fr gL hL
  have f2 : ((M.set gB mB).set gL mL) g2 = none := by unfold Wood.set; rw [if_neg d2, if_neg d1]; exact fr g2 h2
  have l1 := Wood.set_le mB (fr gB hB)
  have l2 := Wood.set_le mL f1
  have l3 := Wood.set_le m2 f2
  have S1 : Stand (M.set gB mB) w' := hS'.add (fr gB hB) nB
  have S2 : Stand ((M.set gB mB).set gL mL) w' := S1.add f1 (nL.more l1)
  have at1 : ((M.set gB mB).set gL mL) gB = some mB := l2 _ _ (Wood.set_at _ _ _)
  have at2 : ((M.set gB mB).set gL mL) gL = some mL := Wood.set_at _ _ _
  have v32 := putF_32 (val := val) hk hn.l32
  have hvals : ∀ x ∈ putF key val n.l, x.2.length ≤ 1000 := fun x hx => by
    rcases (mem_putF hk hn.l32 x).1 hx with rfl | ⟨h, _⟩
    · exact hv.small
    · exact hn.vals x h
  have hkey : ∀ x ∈ putF key val n.l, ∀ i, i < e → nibF x.1 i = nibF n.key i := fun x hx i hi => by
    rcases (mem_putF hk hn.l32 x).1 hx with rfl | ⟨h, _⟩
    · exact (hkk i hi).symm
    · exact hKA x h i (by omega)
  have h16a := nibF_lt n.key e
  have h16b := nibF_lt key e
  have hP2 : 2 ≤ (putF key val n.l).length := by
    obtain ⟨x, hx⟩ := List.exists_mem_of_ne_nil _ hl0
    have hxk : x.1 ≠ key := fun q => hkd (by rw [← hKA x hx e (Nat.le_refl _), q])
    have p1 : x ∈ putF key val n.l := (mem_putF hk hn.l32 x).2 (.inr ⟨hx, hxk⟩)
    have p2 : ((key, val) : It) ∈ putF key val n.l := (mem_putF hk hn.l32 _).2 (.inl rfl)
    match putF key val n.l, p1, p2 with
    | [z], p1, p2 =>
      rw [List.mem_singleton] at p1 p2
      rw [p1, ← p2] at hxk
      exact absurd rfl hxk
    | z :: z2 :: r, _, _ => simp
  have n2' : NdAt ((M.set gB mB).set gL mL) w' g2 m2 := by
    subst hm2
    refine ⟨hn.k32, hn.rise.put _ _, v32, hvals, hn.f64, fun i hi => agreeF_iff.2 fun x hx y hy => by rw [hkey x hx i (by simp only at hi; omega), hkey y hy i (by simp only at hi; omega)], 0, 0, z32, rfl, .inl rfl, .inr ⟨?_, ?_⟩⟩
    · show Arr w' g2 _ (nodeC n.key (n.f : Nat) (sharedF (putF key val n.l) n.f : Nat) _ _ 0 0 0 z32)
      rw [s1]; exact a2
    · refine ⟨hP2, ?_, d4, by simp [noKids], aA, ?_, ?_⟩
      · show ∀ x ∈ putF key val n.l, ∀ k, k < sharedF (putF key val n.l) n.f → _
        rw [s1]; exact hkey
      · show ∀ i, i < 16 → subF (putF key val n.l) (sharedF (putF key val n.l) n.f) i = [] → _
        rw [s1]
        intro i hi h0
        have e1 : i ≠ nibF key e := fun q => by rw [q, s2] at h0; cases h0
        have e2 : i ≠ nibF n.key e := fun q => by rw [q, s3'] at h0; exact hl0 h0
        show ((noKids.set _ _).set _ _)[i]? = _
        rw [List.getElem?_set_ne (fun q => e1 q.symm), List.getElem?_set_ne (fun q => e2 q.symm)]
        unfold noKids
        rw [List.getElem?_replicate, if_pos hi]
      · show ∀ i, i < 16 → subF (putF key val n.l) (sharedF (putF key val n.l) n.f) i ≠ [] → ∃ b' m, ((noKids.set _ _).set _ _)[i]? = some (some ⟨b', 0, none⟩) ∧ ((M.set gB mB).set gL mL) b' = some m ∧ m.l = subF (putF key val n.l) (sharedF (putF key val n.l) n.f) i ∧ m.f = sharedF (putF key val n.l) n.f + 1
        rw [s1]
        intro i hi h0
        by_cases e1 : i = nibF key e
        · refine ⟨gL, mL, ?_, at2, ?_, ?_⟩
          · rw [e1, List.getElem?_set_self (by simp [noKids]; omega)]
          · rw [e1, s2, hmL]
          · rw [hmL]
        · by_cases e2 : i = nibF n.key e
          · refine ⟨gB, mB, ?_, at1, ?_, ?_⟩
            · rw [List.getElem?_set_ne (fun q => e1 q.symm), e2, List.getElem?_set_self (by simp [noKids]; omega)]
            · rw [e2, s3', hmB]
            · rw [hmB]
          · refine absurd (s4 i e1 (fun x hx q => e2 (by rw [q, hKA x hx e (Nat.le_refl _)]))) h0
  refine ⟨m2, _, Wood.le_trans l1 (Wood.le_trans l2 l3), Wood.set_at _ _ _, by rw [hm2], by rw [hm2], S2.add f2 n2', ?_, Wood.up_set (Wood.up_set (Wood.up_set (Wood.up_refl M _) (Nat.le_trans hB0 hB) (fun h1 a ha hp => .inl ⟨b, n, hb, by rw [hmB] at h1; exact h1, by rw [hmB] at ha; exact ha, by rw [hmB] at hp; exact hp⟩)) (Nat.le_trans hB0 hL) (fun _ a ha hp => .inr (hA0 a (by rw [hmL] at ha; exact ha) (by rw [hmL] at hp; exact hp)))) (Nat.le_trans hB0 h2) (ValsUp.bare (by rw [hm2]))⟩
  have q1 : (M.set gB mB).Sep := hsep.set hS hB fun h1 a ha hl => by
    rw [hmB] at h1 ha hl
    exact ⟨hsep b n a hb h1 ha hl, (hn.valOf h1 a ha hl)⟩
  intro bb m a hbb h1 ha hl
  have key1 : ∀ k, k < w.heap.size → M k = none → (((M.set gB mB).set gL mL).set g2 m2) k = none := fun k hk hM => by
    unfold Wood.set
    rw [if_neg (by omega), if_neg (by omega), if_neg (by omega)]
    exact hM
  unfold Wood.set at hbb
  split at hbb
  · injection hbb with hbb
    subst hbb
    rw [hm2] at ha
    cases ha
  · split at hbb
    · injection hbb with hbb
      subst hbb
      rw [hmL] at ha hl
      simp only at ha hl
      obtain ⟨blk, off, q, hlt, _⟩ := hv.bs (by rw [hv.len]; exact hl)
      rw [ha] at q
      injection q with q
      exact key1 _ (by rw [q]; exact hlt) (hv.off a ha hl)
    · split at hbb
      · injection hbb with hbb
        subst hbb
        rw [hmB] at h1 ha hl
        exact key1 _ (hn.valOf h1 a ha hl) (hsep b n a hb h1 ha hl)
      · exact key1 _ ((hS bb m hbb).valOf h1 a ha hl) (hsep bb m a hbb h1 ha hl)

theorem ValNew.at {M : Wood} {w : World} {A : Option Addr} {n c : Nat} {val : List UInt8} (h : ValNew M w A n c val) (a : Addr) (ha : A = some a) (hn : 0 < n) : M a.block = none ∧ a.block < w.heap.size := by
  refine ⟨h.off a ha hn, ?_⟩
  obtain ⟨blk, off, q, hlt, _⟩ := h.bs (by rw [h.len]; exact hn)
  rw [ha] at q
  injection q with q
  rw [q]; exact hlt
theorem ValNew.newBs {M : Wood} {w w' : World} {A : Option Addr} {n c : Nat} {val : List UInt8} (h : ValNew M w A n c val) (hbl : Below w.heap.size w w') : Bs w' w'.heap.size A val := fun hp => by
  obtain ⟨blk, off, q, hlt, hc⟩ := h.bs hp
  have := hbl.size
  refine ⟨blk, off, q, by omega, fun j hj => ?_⟩
  rw [← hc j hj]
  exact World.cell?_of_block (hbl.block blk hlt)

set_option maxHeartbeats 4000000 in
theorem with_wood (M : Wood) (b : Nat) (n : Nd) (hb : M b = some n) (key val : List UInt8) (KL : List Value) (hKL : KL = Lib.byteCells key) (hk : key.length = 32) (A2 : Option Addr) (n2 c2 : Nat) (w : World) (hv : ValNew M w A2 n2 c2 val) (hS : Stand M w) (hsep : M.Sep)
    (hkey : ∀ x ∈ n.l, ∀ i, i < n.f → nibF x.1 i = nibF key i) (hnext : nextP n key = none) (B0 : Nat) (hB0 : B0 ≤ w.heap.size) (hA0 : ∀ ad : Addr, A2 = some ad → 0 < n2 → B0 ≤ ad.block) :
    Calls Tryz.prog 42 #[.pointer (some ⟨b, 0, none⟩), .agg KL.toArray, .slice A2 n2 c2] w fun x w' => ∃ g2 m M2, x = .returned (.pointer (some ⟨g2, 0, none⟩)) ∧ M.le M2 ∧ M2 g2 = some m ∧ m.l = putF key val n.l ∧ m.f = n.f ∧ Stand M2 w' ∧ M2.Sep ∧ M.Up M2 B0 ∧ Below w.heap.size w w' := by
  have hn := hS b n hb
  obtain ⟨e, he⟩ : ∃ e, commF n.key key = e := ⟨_, rfl⟩
  have he64 : e ≤ 64 := by rw [← he]; exact commF_le _ _
  have hin : ∀ i, i < e → nibF n.key i = nibF key i := fun i hi => commF_in (by rw [he]; exact hi)
  have hend : e < 64 → nibF n.key e ≠ nibF key e := fun h => by have := commF_end (a := n.key) (b := key) (by rw [he]; exact h); rwa [he] at this
  obtain ⟨x0, hx0⟩ := List.exists_mem_of_length_pos hn.pos
  obtain ⟨d, sx, dig, hdl, hd, hc⟩ := hn.cells
  rcases hc with ⟨hN, hl⟩ | ⟨hN, hr⟩
  · obtain ⟨v0, hl1, _⟩ := hl.one
    have hall : ∀ x ∈ n.l, x.1 = n.key := fun x hx => by rw [hl1, List.mem_singleton] at hx; rw [hx]
    by_cases hkk : n.key = key
    · refine (with_same n.key key _ KL rfl hKL hn.k32 hk b (n.f : Nat) 64 n.adr n.len n.cap none d 0 sx dig _ rfl A2 n2 c2 w hN hkk.symm rfl).mono ?_
      rintro x w' ⟨g2, hg2, rfl, hA, hbl⟩
      have hS' := hS.up hbl
      have f0 := hS.fresh hg2
      have nL : NdAt M w' g2 ⟨[(key, val)], n.f, key, A2, n2, c2, g2, []⟩ := NdAt.leaf M hk hn.f64 hv.len hv.le hv.lim hv.small (hv.newBs hbl) hA
      obtain ⟨mL, hmL⟩ : ∃ m : Nd, m = ⟨[(key, val)], n.f, key, A2, n2, c2, g2, []⟩ := ⟨_, rfl⟩
      rw [← hmL] at nL
      refine ⟨g2, mL, M.set g2 mL, rfl, Wood.set_le mL f0, Wood.set_at _ _ _, ?_, by rw [hmL], hS'.add f0 nL, hsep.set hS hg2 (fun _ a ha hl => by rw [hmL] at ha hl; exact hv.at a ha hl), Wood.up_set (Wood.up_refl M _) (Nat.le_trans hB0 hg2) (fun _ a ha hp => .inr (hA0 a (by rw [hmL] at ha; exact ha) (by rw [hmL] at hp; exact hp))), hbl⟩
      rw [hmL, hl1, hkk, putF_one]
    · have hlt : e < 64 := by
        rcases Nat.lt_or_ge e 64 with h | h
        · exact h
        · exact absurd ((commF_all hn.k32 hk).1 (by omega)) hkk
      have hne : n.f ≤ e := by
        rcases Nat.lt_or_ge e n.f with h | h
        · exact absurd (by rw [← hall x0 hx0]; exact hkey x0 hx0 e h) (hend hlt)
        · exact h
      refine (with_above n.key key _ KL rfl hKL hn.k32 hk b (n.f : Nat) 64 n.adr n.len n.cap none d 0 sx dig _ rfl A2 n2 c2 w hN (fun p h => by cases h) (fun _ => hkk) e he (by omega) hlt _ _ rfl rfl (hend hlt) _ rfl).mono ?_
      rintro x w' ⟨g2, gA, gB, gL, h2, hA, hB, hL, rfl, a2, aA, aB, aL, hbl⟩
      obtain ⟨m, M2, k1, k2, k3, k4, k5, k6, k7⟩ := above_wood M b n w w' hS hsep hb hbl key val hk A2 n2 c2 hv e hlt hne (fun x hx i _ => by rw [hall x hx]) hin (hend hlt) g2 gA gB gL h2 hA hB hL a2 aA _ _ _ aB (hn.againLeaf hl hbl (by omega) (by
          have c : ((e + 1 : Nat) : Int) = (e : Int) + 1 := by omega
          rw [c]; exact aB)) aL B0 hB0 hA0
      exact ⟨g2, m, M2, rfl, k1, k2, k3, k4, k5, k6, k7, hbl⟩
  · have h22 := hr.two
    have hs := (hn.rise.good hn.l32).split h22 hn.f64 hn.agree
    have hge := sharedF_ge n.l n.f
    obtain ⟨s, hse⟩ : ∃ s, sharedF n.l n.f = s := ⟨_, rfl⟩
    have hway := hr.way
    have hoff := hr.off
    have hon := hr.on
    rw [hse] at hs hge hway hoff hon
    have hN0 := hN
    rw [hse] at hN
    have hag : ∀ i, i < s → agreeF n.l i = true := fun i hi => agreeF_iff.2 fun x hx y hy => by rw [hway x hx i hi, hway y hy i hi]
    by_cases hlt : e < s
    · have hne : n.f ≤ e := by
        rcases Nat.lt_or_ge e n.f with h | h
        · exact absurd (by rw [← hway x0 hx0 e hlt]; exact hkey x0 hx0 e h) (hend (by omega))
        · exact h
      refine (with_above n.key key _ KL rfl hKL hn.k32 hk b (n.f : Nat) (s : Nat) none 0 0 (some ⟨n.arr, 0, none⟩) d 0 sx dig _ rfl A2 n2 c2 w hN (fun p h => by injection h with h; exact ⟨n.arr, h.symm⟩) (fun h => by cases h) e he (by omega) (by omega) _ _ rfl rfl (hend (by omega)) _ rfl).mono ?_
      rintro x w' ⟨g2, gA, gB, gL, h2, hA, hB, hL, rfl, a2, aA, aB, aL, hbl⟩
      have esh : sharedF n.l (e + 1) = sharedF n.l n.f := (sharedF_from (by omega) (by omega) (fun i _ hi => hag i (by omega))).symm
      obtain ⟨m, M2, k1, k2, k3, k4, k5, k6, k7⟩ := above_wood M b n w w' hS hsep hb hbl key val hk A2 n2 c2 hv e (by omega) hne (fun x hx i hi => hway x hx i (by omega)) hin (hend (by omega)) g2 gA gB gL h2 hA hB hL a2 aA _ _ _ aB
        (hn.againBranch hr hbl hB (by omega) (fun i hi => hag i (by omega)) esh (by
          have c : ((e + 1 : Nat) : Int) = (e : Int) + 1 := by omega
          rw [c, hse]; exact aB)) aL B0 hB0 hA0
      exact ⟨g2, m, M2, rfl, k1, k2, k3, k4, k5, k6, k7, hbl⟩
    · have hkid : n.kids.getD (nibF key s) none = none := by
        unfold nextP at hnext
        rw [if_neg (by omega), he, hse, if_neg hlt] at hnext
        exact hnext
      obtain ⟨i2, hi2⟩ : ∃ i2, nibF key s = i2 := ⟨_, rfl⟩
      rw [hi2] at hkid
      have hi16 : i2 < 16 := by rw [← hi2]; exact nibF_lt _ _
      have hemp : subF n.l s i2 = [] := by
        by_cases h : subF n.l s i2 = []
        · exact h
        · obtain ⟨b', n', q, _⟩ := hon i2 hi16 h
          simp [List.getD, q] at hkid
      have hkon : ∀ x ∈ n.l, nibF x.1 s ≠ i2 ∧ ∃ c, n.kids[nibF x.1 s]? = some (some c) := fun x hx => by
        have hx2 : x ∈ subF n.l s (nibF x.1 s) := mem_subF.2 ⟨hx, rfl⟩
        refine ⟨fun q => ?_, ?_⟩
        · rw [q, hemp] at hx2; cases hx2
        · obtain ⟨b', n', q, _⟩ := hon _ (nibF_lt x.1 s) (List.ne_nil_of_mem hx2)
          exact ⟨_, q⟩
      have hal : ∀ p, aloneF (n.kids.set i2 (some p)) none = none := fun p => by
        cases hq : aloneF (n.kids.set i2 (some p)) none with
        | none => rfl
        | some a =>
          exfalso
          obtain ⟨j, _, hoth⟩ := aloneF_some _ _ hq
          obtain ⟨x, hx⟩ := List.exists_mem_of_length_pos hn.pos
          obtain ⟨h1, c, h2⟩ := hkon x hx
          have k16 := hr.k16
          have p1 : (n.kids.set i2 (some p))[i2]? = some (some p) := List.getElem?_set_self (by omega)
          have p2 : (n.kids.set i2 (some p))[nibF x.1 s]? = some (some c) := by rw [List.getElem?_set_ne (fun q => h1 q.symm)]; exact h2
          by_cases q1 : i2 = j
          · exact hoth _ _ (by omega) p2
          · exact hoth _ _ q1 p1
      refine (with_on n.key key _ KL rfl hKL hn.k32 hk b (n.f : Nat) (s : Nat) none 0 0 (some ⟨n.arr, 0, none⟩) d 0 sx dig _ rfl A2 n2 c2 w hN n.arr rfl e he s rfl (by omega) (by omega) he64 i2 hi2 n.kids hr.k16 _ rfl hr.row hal).mono ?_
      rintro x w' ⟨g2, gA, gL, h2, hA, hL, rfl, a2, aA, aL, hbl⟩
      have hS' := hS.up hbl
      have f0 := hS.fresh hL
      have d2 : g2 ≠ gL := fun q => by
        rw [q] at a2
        have := (nodeC_key hn.k32 hk (a2.same aL)).2
        omega
      have d4 : gA ≠ g2 := fun q => by
        rw [q] at aA
        have q : some _ = some _ := aA.symm.trans a2
        injection q with q
        injection q with q1 q2
        exact absurd q2 (by decide)
      obtain ⟨mL, hmL⟩ : ∃ m : Nd, m = ⟨[(key, val)], s + 1, key, A2, n2, c2, gL, []⟩ := ⟨_, rfl⟩
      have nL : NdAt M w' gL mL := by
        rw [hmL]
        exact NdAt.leaf M hk (by omega) hv.len hv.le hv.lim hv.small (hv.newBs hbl) (by
          have c : ((s + 1 : Nat) : Int) = (s : Int) + 1 := by omega
          rw [c]; exact aL)
      have l1 := Wood.set_le mL f0
      have S1 : Stand (M.set gL mL) w' := hS'.add f0 nL
      have f1 : (M.set gL mL) g2 = none := by unfold Wood.set; rw [if_neg d2]; exact hS.fresh h2
      have hkey' : ∀ x ∈ putF key val n.l, ∀ i, i < s → nibF x.1 i = nibF n.key i := fun x hx i hi => by
        rcases (mem_putF hk hn.l32 x).1 hx with rfl | ⟨h, _⟩
        · exact (hin i (by omega)).symm
        · exact hway x h i hi
      have hsh : sharedF (putF key val n.l) n.f = s := by
        rw [← hse]
        refine shared_put hk hn.l32 (by rw [hse]; exact hs) (fun x hx i _ hi => ?_)
        rw [hse] at hi
        rw [hway x hx i hi, hin i (by omega)]
      have hvals : ∀ x ∈ putF key val n.l, x.2.length ≤ 1000 := fun x hx => by
        rcases (mem_putF hk hn.l32 x).1 hx with rfl | ⟨h, _⟩
        · exact hv.small
        · exact hn.vals x h
      have hsub : subF (putF key val n.l) s i2 = [(key, val)] := by rw [subF_put hk hn.rise hn.l32, if_pos hi2, hemp]; rfl
      have hP2 : 2 ≤ (putF key val n.l).length := by
        obtain ⟨h1, _⟩ := hkon x0 hx0
        have hxk : x0.1 ≠ key := fun q => h1 (by rw [q]; exact hi2)
        have p1 : x0 ∈ putF key val n.l := (mem_putF hk hn.l32 x0).2 (.inr ⟨hx0, hxk⟩)
        have p2 : ((key, val) : It) ∈ putF key val n.l := (mem_putF hk hn.l32 _).2 (.inl rfl)
        match putF key val n.l, p1, p2 with
        | [z], p1, p2 =>
          rw [List.mem_singleton] at p1 p2
          rw [p1, ← p2] at hxk
          exact absurd rfl hxk
        | z :: z2 :: r, _, _ => simp
      have n2' := ((hn.keep (R := fun _ => False) (Only.of_below hbl) (fun h => h) (fun _ h => h) (fun _ _ _ _ h => h)).more l1).put h22 (hn.rise.put key val) (putF_32 hk hn.l32) hvals (fun i hi => agreeF_iff.2 fun x hx y hy => by rw [hkey' x hx i (by omega), hkey' y hy i (by omega)]) hP2 hse hsh hi16 hkey'
        (fun i hi hne => by rw [subF_put hk hn.rise hn.l32, if_neg (fun q => hne (by rw [← q, hi2]))]) (some ⟨gL, 0, none⟩) (.inr ⟨by rw [hsub]; simp, gL, mL, rfl, Wood.set_at _ _ _, by rw [hsub, hmL], by rw [hmL]⟩) d4 a2 aA
      have hsep1 : (M.set gL mL).Sep := hsep.set hS hL (fun _ a ha hl => by rw [hmL] at ha hl; exact hv.at a ha hl)
      obtain ⟨m2, hm2⟩ : ∃ m : Nd, m = ⟨putF key val n.l, n.f, n.key, none, 0, 0, gA, n.kids.set i2 (some ⟨gL, 0, none⟩)⟩ := ⟨_, rfl⟩
      rw [← hm2] at n2'
      refine ⟨g2, m2, (M.set gL mL).set g2 m2, rfl, Wood.le_trans l1 (Wood.set_le m2 f1), Wood.set_at _ _ _, by rw [hm2], by rw [hm2], S1.add f1 n2', ?_, Wood.up_set (Wood.up_set (Wood.up_refl M _) (Nat.le_trans hB0 hL) (fun _ a ha hp => .inr (hA0 a (by rw [hmL] at ha; exact ha) (by rw [hmL] at hp; exact hp)))) (Nat.le_trans hB0 h2) (ValsUp.bare (by rw [hm2])), hbl⟩
      intro bb m a hbb h1 ha hl
      have key1 : (M.set gL mL) a.block = none → a.block < w.heap.size → ((M.set gL mL).set g2 m2) a.block = none := fun hM hk => by
        unfold Wood.set at hM ⊢
        rw [if_neg (by omega)]
        exact hM
      unfold Wood.set at hbb
      split at hbb
      · injection hbb with hbb
        subst hbb
        rw [hm2] at ha
        cases ha
      · refine key1 (hsep1 bb m a hbb h1 ha hl) ?_
        split at hbb
        · injection hbb with hbb
          subst hbb
          rw [hmL] at ha hl
          exact (hv.at a ha hl).2
        · exact (hS bb m hbb).valOf h1 a ha hl

end Go.Proofs.YtblgmnjegkfoaaaGreat

namespace Go.Proofs.YtblgmnjegkfoaaaGreat
set_option linter.unusedVariables false

/-- What waits waits for what stands ahead of it. -/
def fwdB (ops : Array Oper) : Bool := (List.range ops.size).all fun i => ((ops[i]?).map (·.after.all fun e => !Region.binds .any e || decide (e.on < i))).getD true

theorem all_listed {ops : Array Oper} {listed : Array Bool} (hf : fwdB ops = true) (hsz : listed.size = ops.size) (hr : Region.ready .any ops listed = []) : ∀ i, i < ops.size → listed.getD i false = true := by
  intro i
  induction i using Nat.strongRecOn with
  | ind i ih =>
    intro hi
    cases hl : listed.getD i false with
    | true => rfl
    | false =>
      exfalso
      have h1 : i ∈ Region.ready .any ops listed := by
        unfold Region.ready
        rw [List.mem_filter]
        refine ⟨List.mem_range.2 hi, ?_⟩
        have hg : listed.getD i true = false := by
          rw [Array.getD_eq_getD_getElem?, Array.getElem?_eq_getElem (by omega)] at hl ⊢
          exact hl
        have ho : ops[i]? = some ops[i] := Array.getElem?_eq_getElem hi
        rw [hg, ho]
        simp only [Option.map_some, Option.getD_some, Bool.not_false, Bool.true_and]
        have hfi := (List.all_eq_true.1 hf) i (List.mem_range.2 hi)
        rw [ho] at hfi
        simp only [Option.map_some, Option.getD_some] at hfi
        rw [Array.all_eq_true_iff_forall_mem] at hfi ⊢
        intro e he
        have h2 := hfi e he
        cases hb : Region.binds .any e with
        | false => rfl
        | true =>
          rw [hb] at h2
          have hlt : e.on < i := by simpa using h2
          simp [ih e.on hlt (by omega)]
      rw [hr] at h1
      cases h1

theorem wpAny_inv {P : Program} {ops : Array Oper} {Q : Exit → Act → World → Prop} (I : (Nat → Prop) → Act → World → Prop) (hf : fwdB ops = true)
    (hstep : ∀ (D : Nat → Prop) (a : Act) (w : World) (i : Nat) (o : Oper), I D a w → ops[i]? = some o → ¬ D i → (∀ e ∈ o.after, Region.binds .any e = true → D e.on) →
      ∀ K : Act → World → Prop, (∀ a' w', I (fun j => D j ∨ j = i) a' w' → K a' w') → if Region.wanted o (yielded ops a.tmps) = true then Oper.wp P o a w K Q else K (a.put o.dst undef) w)
    (hdone : ∀ (D : Nat → Prop) (a : Act) (w : World), I D a w → (∀ i, i < ops.size → D i) → Q .normal a w)
    (hext : ∀ (D D' : Nat → Prop) (a : Act) (w : World), I D a w → (∀ i, D i ↔ D' i) → I D' a w) :
    ∀ (fuel : Nat) (R : List Nat) (listed : Array Bool) (a : Act) (w : World), listed.size = ops.size → R.length ≤ fuel → (∀ i, i < ops.size → listed.getD i false = false → i ∈ R) → I (fun i => listed.getD i false = true) a w → wpAny P .any ops Q fuel listed a w
  | 0, R, listed, a, w, hsz, hR, hun, hI => by
    obtain rfl : R = [] := List.eq_nil_of_length_eq_zero (by omega)
    have hall : ∀ i, i < ops.size → listed.getD i false = true := fun i hi => by
      cases hl : listed.getD i false with
      | true => rfl
      | false => exact absurd (hun i hi hl) (by simp)
    refine ⟨?_, hdone _ a w hI hall⟩
    unfold Region.ready
    rw [List.filter_eq_nil_iff]
    intro i hi
    have h1 := hall i (List.mem_range.1 hi)
    have h2 : listed.getD i true = true := by
      rw [Array.getD_eq_getD_getElem?, Array.getElem?_eq_getElem (by have := List.mem_range.1 hi; omega)] at h1 ⊢
      exact h1
    rw [h2]
    simp
  | fuel + 1, R, listed, a, w, hsz, hR, hun, hI => by
    refine ⟨fun hr => hdone _ a w hI (all_listed hf hsz hr), fun i hi => ?_⟩
    have hi' := hi
    unfold Region.ready at hi'
    rw [List.mem_filter] at hi'
    obtain ⟨hlt, hcond⟩ := hi'
    have hlt := List.mem_range.1 hlt
    have ho : ops[i]? = some ops[i] := Array.getElem?_eq_getElem hlt
    rw [ho] at hcond
    simp only [Option.map_some, Option.getD_some, Bool.and_eq_true, Bool.not_eq_true'] at hcond
    have hli : listed.getD i false = false := by
      rw [Array.getD_eq_getD_getElem?, Array.getElem?_eq_getElem (by omega)]
      have := hcond.1
      rw [Array.getD_eq_getD_getElem?, Array.getElem?_eq_getElem (by omega)] at this
      exact this
    have hset : ∀ j, (listed.setIfInBounds i true).getD j false = true ↔ (listed.getD j false = true ∨ j = i) := fun j => by
      rw [Array.getD_eq_getD_getElem?, Array.getD_eq_getD_getElem?, Array.getElem?_setIfInBounds]
      by_cases hj : i = j
      · subst hj
        simp [hsz, hlt]
      · rw [if_neg hj]
        simp [Ne.symm hj]
    refine wpOp_step ho fun K hK => ?_
    refine hstep _ a w i _ hI ho (by rw [hli]; simp) (fun e he hb => ?_) K (fun a' w' hI' => hK _ _ ?_)
    · have := (Array.all_eq_true_iff_forall_mem.1 hcond.2) e he
      rw [hb] at this
      simpa using this
    · refine wpAny_inv I hf hstep hdone hext fuel (R.erase i) _ a' w' (by simpa using hsz) ?_ ?_ (hext _ _ _ _ hI' fun j => (hset j).symm)
      · rw [List.length_erase_of_mem (hun i hlt hli)]; omega
      · intro j hj hlj
        have hne : j ≠ i := by
          rintro rfl
          have := (hset j).2 (.inr rfl)
          rw [this] at hlj; cases hlj
        refine (List.mem_erase_of_ne hne).2 (hun j hj ?_)
        cases hl : listed.getD j false with
        | false => rfl
        | true =>
          have := (hset j).2 (.inl hl)
          rw [this] at hlj; cases hlj

theorem wp_region_inv {P : Program} {id : Nat} {ops : Array Oper} {Q : Exit → Act → World → Prop} {a : Act} {w : World} (I : (Nat → Prop) → Act → World → Prop) (hm : P.follows .mixedOrders = true) (hf : fwdB ops = true)
    (h0 : I (fun _ => False) a w.drew)
    (hstep : ∀ (D : Nat → Prop) (a : Act) (w : World) (i : Nat) (o : Oper), I D a w → ops[i]? = some o → ¬ D i → (∀ e ∈ o.after, Region.binds .any e = true → D e.on) →
      ∀ K : Act → World → Prop, (∀ a' w', I (fun j => D j ∨ j = i) a' w' → K a' w') → if Region.wanted o (yielded ops a.tmps) = true then Oper.wp P o a w K Q else K (a.put o.dst undef) w)
    (hdone : ∀ (D : Nat → Prop) (a : Act) (w : World), I D a w → (∀ i, i < ops.size → D i) → Q .normal a w)
    (hext : ∀ (D D' : Nat → Prop) (a : Act) (w : World), I D a w → (∀ i, D i ↔ D' i) → I D' a w) : (Code.region id ops true).wp P Q a w := by
  refine wp_region_any hm ?_
  refine wpAny_inv I hf hstep hdone hext ops.size (List.range ops.size) (Array.replicate ops.size false) a w.drew (by simp) (by simp) (fun i hi _ => List.mem_range.2 hi) (hext _ _ _ _ h0 fun i => ?_)
  rw [Array.getD_eq_getD_getElem?, Array.getElem?_replicate]
  split <;> simp

end Go.Proofs.YtblgmnjegkfoaaaGreat

namespace Go.Proofs.YtblgmnjegkfoaaaGreat
set_option linter.unusedVariables false

theorem wpAnyIn_inv {F : Fence} {n : Nat} {P : Program} {ops : Array Oper} {Q : Exit → Act → World → Prop} (I : (Nat → Prop) → Act → World → Prop) (hf : fwdB ops = true)
    (hstep : ∀ (D : Nat → Prop) (a : Act) (w : World) (i : Nat) (o : Oper), I D a w → ops[i]? = some o → ¬ D i → (∀ e ∈ o.after, Region.binds .any e = true → D e.on) →
      ∀ K : Act → World → Prop, (∀ a' w', I (fun j => D j ∨ j = i) a' w' → K a' w') → if Region.wanted o (yielded ops a.tmps) = true then Oper.wpIn F n P o a w K Q else (∀ f, o.about P w a.eval = some f → F.fn f) ∧ K (a.put o.dst undef) w)
    (hdone : ∀ (D : Nat → Prop) (a : Act) (w : World), I D a w → (∀ i, i < ops.size → D i) → Q .normal a w)
    (hext : ∀ (D D' : Nat → Prop) (a : Act) (w : World), I D a w → (∀ i, D i ↔ D' i) → I D' a w) :
    ∀ (fuel : Nat) (R : List Nat) (listed : Array Bool) (a : Act) (w : World), listed.size = ops.size → R.length ≤ fuel → (∀ i, i < ops.size → listed.getD i false = false → i ∈ R) → I (fun i => listed.getD i false = true) a w → wpAnyIn F n P .any ops Q fuel listed a w
  | 0, R, listed, a, w, hsz, hR, hun, hI => by
    obtain rfl : R = [] := List.eq_nil_of_length_eq_zero (by omega)
    have hall : ∀ i, i < ops.size → listed.getD i false = true := fun i hi => by
      cases hl : listed.getD i false with
      | true => rfl
      | false => exact absurd (hun i hi hl) (by simp)
    refine ⟨?_, hdone _ a w hI hall⟩
    unfold Region.ready
    rw [List.filter_eq_nil_iff]
    intro i hi
    have h1 := hall i (List.mem_range.1 hi)
    have h2 : listed.getD i true = true := by
      rw [Array.getD_eq_getD_getElem?, Array.getElem?_eq_getElem (by have := List.mem_range.1 hi; omega)] at h1 ⊢
      exact h1
    rw [h2]
    simp
  | fuel + 1, R, listed, a, w, hsz, hR, hun, hI => by
    refine ⟨fun hr => hdone _ a w hI (all_listed hf hsz hr), fun i hi => ?_⟩
    have hi' := hi
    unfold Region.ready at hi'
    rw [List.mem_filter] at hi'
    obtain ⟨hlt, hcond⟩ := hi'
    have hlt := List.mem_range.1 hlt
    have ho : ops[i]? = some ops[i] := Array.getElem?_eq_getElem hlt
    rw [ho] at hcond
    simp only [Option.map_some, Option.getD_some, Bool.and_eq_true, Bool.not_eq_true'] at hcond
    have hli : listed.getD i false = false := by
      rw [Array.getD_eq_getD_getElem?, Array.getElem?_eq_getElem (by omega)]
      have := hcond.1
      rw [Array.getD_eq_getD_getElem?, Array.getElem?_eq_getElem (by omega)] at this
      exact this
    have hset : ∀ j, (listed.setIfInBounds i true).getD j false = true ↔ (listed.getD j false = true ∨ j = i) := fun j => by
      rw [Array.getD_eq_getD_getElem?, Array.getD_eq_getD_getElem?, Array.getElem?_setIfInBounds]
      by_cases hj : i = j
      · subst hj
        simp [hsz, hlt]
      · rw [if_neg hj]
        simp [Ne.symm hj]
    unfold wpOpIn
    simp only [ho]
    refine hstep _ a w i _ hI ho (by rw [hli]; simp) (fun e he hb => ?_) _ (fun a' w' hI' => ?_)
    · have := (Array.all_eq_true_iff_forall_mem.1 hcond.2) e he
      rw [hb] at this
      simpa using this
    · refine wpAnyIn_inv I hf hstep hdone hext fuel (R.erase i) _ a' w' (by simpa using hsz) ?_ ?_ (hext _ _ _ _ hI' fun j => (hset j).symm)
      · rw [List.length_erase_of_mem (hun i hlt hli)]; omega
      · intro j hj hlj
        have hne : j ≠ i := by
          rintro rfl
          have := (hset j).2 (.inr rfl)
          rw [this] at hlj; cases hlj
        refine (List.mem_erase_of_ne hne).2 (hun j hj ?_)
        cases hl : listed.getD j false with
        | false => rfl
        | true =>
          have := (hset j).2 (.inl hl)
          rw [this] at hlj; cases hlj

theorem wpIn_region_inv {F : Fence} {n : Nat} {P : Program} {id : Nat} {ops : Array Oper} {Q : Exit → Act → World → Prop} {a : Act} {w : World} (I : (Nat → Prop) → Act → World → Prop) (hm : P.follows .mixedOrders = true) (hf : fwdB ops = true)
    (h0 : I (fun _ => False) a w.drew)
    (hstep : ∀ (D : Nat → Prop) (a : Act) (w : World) (i : Nat) (o : Oper), I D a w → ops[i]? = some o → ¬ D i → (∀ e ∈ o.after, Region.binds .any e = true → D e.on) →
      ∀ K : Act → World → Prop, (∀ a' w', I (fun j => D j ∨ j = i) a' w' → K a' w') → if Region.wanted o (yielded ops a.tmps) = true then Oper.wpIn F n P o a w K Q else (∀ f, o.about P w a.eval = some f → F.fn f) ∧ K (a.put o.dst undef) w)
    (hdone : ∀ (D : Nat → Prop) (a : Act) (w : World), I D a w → (∀ i, i < ops.size → D i) → Q .normal a w)
    (hext : ∀ (D D' : Nat → Prop) (a : Act) (w : World), I D a w → (∀ i, D i ↔ D' i) → I D' a w) : (Code.region id ops true).wpIn F n P Q a w := by
  refine wpIn_region_any hm ?_
  refine wpAnyIn_inv I hf hstep hdone hext ops.size (List.range ops.size) (Array.replicate ops.size false) a w.drew (by simp) (by simp) (fun i hi _ => List.mem_range.2 hi) (hext _ _ _ _ h0 fun i => ?_)
  rw [Array.getD_eq_getD_getElem?, Array.getElem?_replicate]
  split <;> simp

end Go.Proofs.YtblgmnjegkfoaaaGreat

/-
  audit.Check, at any counter.
-/
import Derived.Test.YtlfddijmanlneaaAuComAll
import Derived.RangeFuncNested
import Derived.RangeFuncBound
import Derived.RangeFuncCalls
import Derived.RangeFuncLeaves
import Derived.RangeFuncBox
import Derived.Shelf.Abstract
import Derived.Shelf.RegionOpen
import Derived.WalkKit
import Derived.OwnWalkIn
import Derived.TacticsInMore
import Derived.LoopNIn
import Derived.LoopIn
import Derived.Test.YtlfddijmanlneaaGen
import Derived.Test.YtlfddijmanlneaaShaMath
import Derived.Test.YtlfddijmanlneaaComRef
import Derived.Deep.DeepCutAuto
import Derived.Deep.CutBlock
import Derived.Test.YtlfddijmanlneaaMem
import Derived.Test.YtlfddijmanlneaaDigRow
import Derived.Test.YtlfddijmanlneaaTagged
import Derived.Maps.AppendAt
namespace Go.Proofs.Ytlfddijmanlneaa
open Go.RowKit
set_option linter.unusedVariables false
set_option linter.unusedSimpArgs false

/-- Bytes are the commit that is wanted. -/
def LinkP (ep : Nat) (dg b : List UInt8) (c : Com) : Prop := IsDec b c ∧ Good b ∧ c.ep = ep ∧ blobDig b = dg
theorem LinkP.one {ep : Nat} {dg b : List UInt8} {c c' : Com} (h : LinkP ep dg b c) (h' : LinkP ep dg b c') : c = c' := dec_one h.1 h'.1
/-- Each is the one that the one ahead of it wants. -/
def ChainP : Nat → List UInt8 → List (List UInt8) → List Com → Prop
  | _, _, [], [] => True
  | ep, dg, b :: bs, c :: cs => LinkP ep dg b c ∧ ChainP (ep - 1) c.r1.d bs cs
  | _, _, [], _ :: _ => False
  | _, _, _ :: _, [] => False
/-- What is wanted behind commits: a digest, a Ref. -/
def endD (dg : List UInt8) (cs : List Com) : List UInt8 := match cs.getLast? with | none => dg | some c => c.r1.d
def endR (dg : List UInt8) (cs : List Com) : RefF := match cs.getLast? with | none => ⟨dg, 0, 0⟩ | some c => c.r1
theorem endD_nil (dg : List UInt8) : endD dg [] = dg := rfl
theorem endR_nil (dg : List UInt8) : endR dg [] = ⟨dg, 0, 0⟩ := rfl
theorem endD_snoc (dg : List UInt8) (cs : List Com) (c : Com) : endD dg (cs ++ [c]) = c.r1.d := by unfold endD; rw [List.getLast?_append]; rfl
theorem endR_snoc (dg : List UInt8) (cs : List Com) (c : Com) : endR dg (cs ++ [c]) = c.r1 := by unfold endR; rw [List.getLast?_append]; rfl
theorem endD_cons (dg : List UInt8) (c : Com) (cs : List Com) : endD dg (c :: cs) = endD c.r1.d cs := by
  unfold endD
  cases cs with
  | nil => rfl
  | cons d cs => simp [List.getLast?_cons]
theorem endR_cons (dg : List UInt8) (c d : Com) (cs : List Com) : endR dg (c :: d :: cs) = endR c.r1.d (d :: cs) := by
  unfold endR
  simp [List.getLast?_cons]
theorem ChainP.length : ∀ {ep : Nat} {dg : List UInt8} {bs : List (List UInt8)} {cs : List Com}, ChainP ep dg bs cs → cs.length = bs.length
  | _, _, [], [], _ => rfl
  | ep, dg, b :: bs, c :: cs, h => by rw [List.length_cons, List.length_cons, ChainP.length h.2]
theorem chain_snoc : ∀ {ep : Nat} {dg : List UInt8} {bs : List (List UInt8)} {cs : List Com} {b : List UInt8} {c : Com}, ChainP ep dg bs cs → LinkP (ep - bs.length) (endD dg cs) b c → ChainP ep dg (bs ++ [b]) (cs ++ [c])
  | ep, dg, [], [], b, c, _, h => ⟨by simpa [endD_nil] using h, trivial⟩
  | ep, dg, x :: bs, y :: cs, b, c, ⟨h1, h2⟩, h => by
    refine ⟨h1, chain_snoc h2 ?_⟩
    rw [endD_cons] at h
    rw [show ep - 1 - bs.length = ep - (x :: bs).length by simp; omega]
    exact h
theorem ChainP.one : ∀ {bs : List (List UInt8)} {ep : Nat} {dg : List UInt8} {cs ds : List Com}, ChainP ep dg bs cs → ChainP ep dg bs ds → cs = ds := by
  intro bs
  induction bs with
  | nil =>
    intro ep dg cs ds h k
    cases cs with
    | cons => exact h.elim
    | nil => cases ds with
      | cons => exact k.elim
      | nil => rfl
  | cons b bs ih =>
    intro ep dg cs ds h k
    cases cs with
    | nil => exact h.elim
    | cons c cs => cases ds with
      | nil => exact k.elim
      | cons d ds =>
        have e := h.1.one k.1
        subst e
        rw [ih h.2 k.2]
/-- Where one isn't wanted, nothing is told of all. -/
theorem chain_cut : ∀ {bs : List (List UInt8)} {ep : Nat} {dg : List UInt8} {cs : List Com} (pre : List Com) (b : List UInt8) (k : Nat), ChainP ep dg bs cs → k < bs.length → bs.getD k [] = b → ChainP ep dg (bs.take k) pre → ∃ c, LinkP (ep - k) (endD dg pre) b c := by
  intro bs
  induction bs with
  | nil => intro ep dg cs pre b k _ hk; exact absurd hk (by simp)
  | cons x bs ih =>
    intro ep dg cs pre b k h hk hb hp
    cases cs with
    | nil => exact h.elim
    | cons y cs =>
      cases k with
      | zero =>
        have e : pre = [] := by
          cases pre with
          | nil => rfl
          | cons p ps => exact hp.elim
        subst e
        have hx : x = b := by simpa using hb
        subst hx
        exact ⟨y, by rw [endD_nil]; exact h.1⟩
      | succ k =>
        cases pre with
        | nil => exact hp.elim
        | cons p ps =>
          have e := h.1.one hp.1
          subst e
          obtain ⟨c, hc⟩ := ih ps b k h.2 (by simpa using hk) (by simpa using hb) hp.2
          refine ⟨c, ?_⟩
          rw [endD_cons, show ep - (k + 1) = ep - 1 - k by omega]
          exact hc
/-- There is a story. -/
def ToldP (n : Nat) (root : List UInt8) (bs : List (List UInt8)) (cs : List Com) : Prop := bs.length = n ∧ ChainP n root bs cs ∧ endR root cs = zR
theorem ToldP.one {n : Nat} {root : List UInt8} {bs : List (List UInt8)} {cs ds : List Com} (h : ToldP n root bs cs) (k : ToldP n root bs ds) : cs = ds := h.2.1.one k.2.1
/-- Two rows of commits under one counter and root are one, or at the first place where they aren't both have one digest. -/
theorem chain_fork : ∀ {xs : List (List UInt8)} {ys : List (List UInt8)} {ep : Nat} {dg : List UInt8} {cs ds : List Com} (i : Nat), ChainP ep dg xs cs → ChainP ep dg ys ds → i < xs.length → i < ys.length → (∀ j, j < i → xs.getD j [] = ys.getD j []) → blobDig (xs.getD i []) = blobDig (ys.getD i []) := by
  intro xs
  induction xs with
  | nil => intro ys ep dg cs ds i _ _ h; exact absurd h (by simp)
  | cons x xs ih =>
    intro ys ep dg cs ds i h k hi hj he
    cases ys with
    | nil => exact absurd hj (by simp)
    | cons y ys =>
      cases cs with
      | nil => exact h.elim
      | cons c cs => cases ds with
        | nil => exact k.elim
        | cons d ds =>
          cases i with
          | zero =>
            show blobDig x = blobDig y
            rw [h.1.2.2.2, k.1.2.2.2]
          | succ i =>
            have e : x = y := he 0 (by omega)
            subst e
            have e := h.1.one k.1
            subst e
            exact ih i h.2 k.2 (by simpa using hi) (by simpa using hj) (fun j hj => he (j + 1) (by omega))

end Go.Proofs.Ytlfddijmanlneaa

namespace Go.Proofs.Ytlfddijmanlneaa
open Go.RowKit Go.Shelf
set_option linter.unusedVariables false
set_option linter.unusedSimpArgs false

attribute [local go_sem] Oper.semAt_some

theorem wpListIn_load_rowA {F : Fence} {n' : Nat} {P : Program} {ops : Array Oper} {rest : List Oper} {o : Oper} {a : Act} {w : World} {Q : Exit → Act → World → Prop} (hgd : o.guard = none) (ty : TypeId) (x : Operand) (ho : o.op = .load ty x)
    (g : Nat) (hx : a.eval x = .pointer (some ⟨g, 0, none⟩)) (t : TypeId) (cs : Array Value) (fr : Nat × Nat) (d : TypeDesc) (hg : w.heap[g]? = some (.cells cs t fr))
    (hu : P.underlying ty = some d) (hd : (match d with | .struct _ | .array _ _ => true | _ => false) = true) (hi : (P.info? ty).map (·.size) = some cs.size)
    (h : wpListIn F n' P ops Q rest (a.put o.dst (.agg cs)) w) : wpListIn F n' P ops Q (o :: rest) a w := by
  refine wpListIn_plain hgd fun K hK => ?_
  unfold Oper.wpIn
  refine ⟨?_, ?_⟩
  · simp [Oper.about, ho, resolve, Target.leads, Sem.run_pure]
  · rw [Oper.semAt_plain F _ _ (by rw [ho]; intro c hc'; cases hc')]
    simp only [execOp, ho, hx, Instr.loadAt, Instr.sureAddr, Sem.run_bind, Sem.run_pure, Result.andThen_ok, run_loadVar_row w g t ty cs fr d hg hu hd hi]
    exact hK _ _ h
theorem boxed_grownA {W W' : World} {row : Option Nat} {B : Nat} {T : TypeId} {v : Value} (h : Boxed W B T v) (hg : W.grownBy W' row) (hr : ∀ r, row = some r → ∃ o : Obj, W.heap[r]? = some o ∧ o.isCells = false) : Boxed W' B T v :=
  h.kept hg (fun e => by
    obtain ⟨o, ho, hc⟩ := hr B e.symm
    rw [show W.heap[B]? = some _ from h] at ho
    cases ho
    cases hc)
theorem Arr.grownA {W W' : World} {row : Option Nat} {g : Nat} {T : TypeId} {cs : List Value} (h : Arr W g T cs) (hg : W.grownBy W' row) (hr : ∀ r, row = some r → ∃ o : Obj, W.heap[r]? = some o ∧ o.isCells = false) : Arr W' g T cs := by
  refine (hg.block g h.lt fun e => ?_).trans h
  obtain ⟨o, ho, hc⟩ := hr g e.symm
  rw [show W.heap[g]? = some _ from h] at ho
  cases ho
  cases hc

theorem abides_belowA {β : Type} {B : Nat} {J : β → World → Prop} (h : AbidesFrom B J) {s : β} {w w' : World} (hs : J s w) (hb : Below w.heap.size w w') : J s w' :=
  h s w w' none hs ⟨hb.os, hb.tape, hb.output, hb.size, fun k hk _ => hb.block k hk⟩ (fun _ e => by cases e)

/-- An array, put into a block of its own. -/
theorem put_arrA {w : World} {g : Nat} {T : TypeId} {Z JL : List Value} (h : Arr w g T Z) (hl : Z.length = JL.length) :
    w.there g 0 JL.length ∧ Arr (w.setCells g 0 JL) g T JL ∧ Only (fun k => k = g) w (w.setCells g 0 JL) := by
  refine ⟨fun j hj => ?_, ?_, Only.setCells (R := fun k => k = g) rfl JL 0 _ (Only.refl _ w)⟩
  · rw [h.cell, h.frozen, Nat.zero_add, List.getElem?_eq_getElem (by omega)]
    exact ⟨rfl, rfl⟩
  · have h1 := Arr.setCells JL 0 _ w h (by omega)
    simpa using h1

/-- What linked gives: its closure; what it needs lies in boxes. -/
theorem linked_run (n : Nat) (RL : List Value) (A : Option Addr) (k c : Nat) (w : World) :
    Calls Try.prog 55 #[.int .u64 n, .agg RL.toArray, .slice A k c] w fun e w' => e = .returned (.func (.func 72) #[] #[.pointer (some ⟨w.heap.size, 0, none⟩), .pointer (some ⟨w.heap.size + 1, 0, none⟩), .pointer (some ⟨w.heap.size + 1 + 1, 0, none⟩)]) ∧
      Boxed w' w.heap.size 22 (.int .u64 n) ∧ Arr w' (w.heap.size + 1) 24 RL ∧ Boxed w' (w.heap.size + 1 + 1) 28 (.slice A k c) ∧ Below w.heap.size w w' := by
  have hmf : ∀ (fn : Fn) (first cap : Array Value) (w : World), (Instr.makeFunc fn first cap).run Try.prog w = .ok (.func fn first cap) w := fun _ _ _ _ => rfl
  obtain ⟨w1, hw1⟩ : ∃ z, z = w.alloc (.cells #[.int .u64 n] 22) := ⟨_, rfl⟩
  obtain ⟨w2, hw2⟩ : ∃ z, z = w1.alloc (.cells RL.toArray 24) := ⟨_, rfl⟩
  obtain ⟨w3, hw3⟩ : ∃ z, z = w2.alloc (.cells #[.slice A k c] 28) := ⟨_, rfl⟩
  have s1 : w1.heap.size = w.heap.size + 1 := by rw [hw1]; simp
  have s2 : w2.heap.size = w.heap.size + 1 + 1 := by rw [hw2]; simp [s1]
  have b1 : Boxed w3 w.heap.size 22 (.int .u64 n) := by
    rw [hw3, hw2, hw1]; exact ((Boxed.new w _ _).alloc _).alloc _
  have b2 : Arr w3 (w.heap.size + 1) 24 RL := by
    rw [hw3, hw2, ← s1]; exact (Arr.new w1 _ _).alloc _
  have b3 : Boxed w3 (w.heap.size + 1 + 1) 28 (.slice A k c) := by
    rw [hw3, ← s2]; exact Boxed.new w2 _ _
  have hb : Below w.heap.size w w3 := by
    rw [hw3, hw2, hw1]; exact (((Below.refl _ w).alloc (Nat.le_refl _) _).alloc (by simp) _).alloc (by simp; omega) _
  have HW := Lib.hid (show w3 = ((w.alloc (.cells #[.int .u64 n] 22)).alloc (.cells RL.toArray 24)).alloc (.cells #[.slice A k c] 28) by rw [hw3, hw2, hw1])
  clear hw1 hw2 hw3 s1 s2
  go_enter Try.func55, Try.ntmps55
  go_wp2
  go_ret
  rw [← HW.out]
  exact ⟨rfl, b1, b2, b3, hb⟩

set_option maxRecDepth 100000 in
set_option maxHeartbeats 4000000 in
/-- Of no commits nothing comes. -/
theorem linked0_stops (n : Nat) (hn : 1 ≤ n) (encs : Empty → Array Value) (Kp : World → World → Prop) (ep : Nat) (RL : List Value) (hRL : RL.length = 32) (hR1 : ∀ v ∈ RL, v.oneCell' = true) (A : Option Addr) (c : Nat) (w : World) (B1 B2 B3 : Nat)
    (h1 : Boxed w B1 22 (.int .u64 ep)) (h2 : Arr w B2 24 RL) (h3 : Boxed w B3 28 (.slice A 0 c)) :
    SeqStopsK Fence.wide n Try.prog 72 #[.pointer (some ⟨B1, 0, none⟩), .pointer (some ⟨B2, 0, none⟩), .pointer (some ⟨B3, 0, none⟩)] encs Kp (fun _ => True) (fun _ => False) 0 w := by
  intro l J Jx W hW hJ hJx hY h0
  have HJ := Lib.hid hJ
  have k1 : Boxed W B1 22 (.int .u64 ep) := (hW.block _ h1.lt).trans h1
  have k2 : W.heap[B2]? = some (.cells RL.toArray 24 (0, 0)) := h2.below hW h2.lt
  have k3 : Boxed W B3 28 (.slice A 0 c) := (hW.block _ h3.lt).trans h3
  have Hki := Lib.hid (show (Try.prog.info? 24).map (·.size) = some RL.length by rw [hRL]; kernel_rfl)
  have HR1 := Lib.hid (show RL.toArray.all (·.oneCell') = true by rw [List.all_toArray, List.all_eq_true]; exact hR1)
  clear hY hJ hJx h1 h2 h3 hR1
  refine callsIn_of_wp Try.func72 rfl trivial ?_ rfl
  simp only [Try.ntmps72, List.size_toArray, List.length_cons, List.length_nil, Nat.reduceAdd, Nat.reduceSub, Array.replicate_succ, Array.replicate_zero, List.push_toArray, List.append_toArray, List.nil_append, List.cons_append]
  refine wpIn_seq (wpIn_wide.2 ?_)
  refine wp_region_held_drew (S := fun w' => Boxed w' B1 22 (.int .u64 ep) ∧ Arr w' B2 24 RL) (by kernel_rfl) ⟨k1, k2⟩ (fun hHeld => ?_)
  refine anyH_take (i := 0) (v := .int .u64 ep) (some 12) rfl rfl (by kernel_rfl) (by kernel_rfl) (by kernel_rfl) (fun _ _ _ h => h) (Or.inl ⟨by rfl, fun w' hw => by (have hc := hw.1.cell; go_simp)⟩) (by assumption) ?_
  simp only [Act.put, List.setIfInBounds_toArray, List.set_cons_zero, List.set_cons_succ]
  refine anyH_take (i := 1) (v := .agg RL.toArray) (some 13) rfl rfl (by kernel_rfl) (by kernel_rfl) (by kernel_rfl) (fun _ _ _ h => h) (yieldsIf_load_mid (by rfl) 24 (.tmp 2) rfl B2 0 rfl RL _ (fun w' h => Arr.range h.2) Try.underlying24 rfl Hki.out) (by assumption) ?_
  simp only [Act.put, List.setIfInBounds_toArray, List.set_cons_zero, List.set_cons_succ]
  refine wpAnyH_ready (rs := [2]) (by kernel_rfl) (by simp) ?_
  refine AllReadyH.cons rfl (fun K hK => ?_) AllReadyH.nil
  go_simp
  change K _ ((W.alloc (.cells (Lib.byteCells zeros).toArray 24)).drew)
  obtain ⟨V, hV⟩ : ∃ z, z = (W.alloc (.cells (Lib.byteCells zeros).toArray 24)).drew := ⟨_, rfl⟩
  have hN0 : Arr V W.heap.size 24 (Lib.byteCells zeros) := by rw [hV]; exact Arr.new W _ _
  have hbV : Below W.heap.size W V := by rw [hV]; exact ((Below.refl _ W).alloc (Nat.le_refl _) _).drew
  rw [← hV]
  refine hK.out _ _ ⟨(hbV.block _ k1.lt).trans k1, (hbV.block _ (Arr.lt (w := W) k2)).trans k2⟩ (fun hHeldx => ?_)
  clear hK K hHeld hV
  try simp only [Act.put, List.setIfInBounds_toArray, List.set_cons_zero, List.set_cons_succ]
  refine anyH_take (i := 3) (v := .int .u64 ep) (some 5) rfl rfl (by kernel_rfl) (by kernel_rfl) (by kernel_rfl) (fun _ _ _ h => h) (Or.inl ⟨by rfl, fun w' hw => by rfl⟩) (by assumption) ?_
  simp only [Act.put, List.setIfInBounds_toArray, List.set_cons_zero, List.set_cons_succ]
  refine wpAnyH_ready (rs := [4]) (by kernel_rfl) (by simp) ?_
  refine AllReadyH.cons rfl (fun K hK => ?_) AllReadyH.nil
  rw [if_pos (by rfl)]
  obtain ⟨hth, hN, hO⟩ := put_arrA hN0 (show (Lib.byteCells zeros).length = RL.length by rw [hRL]; rfl)
  refine wp_store_mid 24 _ _ rfl W.heap.size 0 RL.toArray rfl rfl (by rw [List.size_toArray]; exact hth) (by rw [List.size_toArray]; exact Hki.out) HR1.out ?_
  obtain ⟨V2, hV2⟩ : ∃ z, z = V.setCells W.heap.size 0 RL := ⟨_, rfl⟩
  rw [show RL.toArray.toList = RL from rfl, ← hV2]
  rw [← hV2] at hN hO
  have hbW : Below W.heap.size W V2 := hbV.trans (hO.below hbV.size (by rintro j rfl; exact Nat.le_refl _))
  have q1 : Boxed V2 B1 22 (.int .u64 ep) := (hbW.block _ k1.lt).trans k1
  have q2 : Arr V2 B2 24 RL := (hbW.block _ (Arr.lt (w := W) k2)).trans k2
  have q3 := (hbW.block _ k3.lt).trans k3
  refine hK.out _ _ ⟨q1, q2⟩ (fun hHeldy => ?_)
  clear hK K hHeldx hHeldy hV2 hO hth hN0 hbV q1 q2
  try simp only [Act.put, List.setIfInBounds_toArray, List.set_cons_zero, List.set_cons_succ]
  refine wpAnyH_done (by kernel_rfl) ?_ _
  have hc3 := Boxed.cell q3
  have hJ2 : J [] V2 := abides_belowA HJ.out h0 hbW
  gi_wp2
  gi_loopw [16] (fun p wr => p = .int .i64 0 ∧ J [] wr) (fun _ _ => 0)
  case atStart => exact ⟨rfl, hJ2⟩
  case round =>
    obtain ⟨rfl, hJr⟩ := hrel
    gi_wp2
    go_end0
    exact ⟨⟨_, rfl⟩, .inl ⟨[], trivial, hJr⟩⟩


theorem backward0_run (A : Option Addr) (k c : Nat) (w : World) :
    Calls Try.prog 73 #[.slice A k c] w fun e w' => e = .returned (.func (.func 79) #[] #[.pointer (some ⟨w.heap.size, 0, none⟩)]) ∧
      Boxed w' w.heap.size 87 (.slice A k c) ∧ Below w.heap.size w w' := by
  have hmf : ∀ (fn : Fn) (first cap : Array Value) (w : World), (Instr.makeFunc fn first cap).run Try.prog w = .ok (.func fn first cap) w := fun _ _ _ _ => rfl
  have hb : Below w.heap.size w (w.alloc (.cells #[.slice A k c] 87)) := (Below.refl _ w).alloc (Nat.le_refl _) _
  have hx := Boxed.new w 87 (.slice A k c)
  go_enter Try.func73, Try.ntmps73
  go_wp2
  go_ret
  exact ⟨rfl, hx, hb⟩

set_option maxRecDepth 100000 in
set_option maxHeartbeats 4000000 in
theorem backward0_stops (n : Nat) (hn : 1 ≤ n) (encs : Empty → Array Value) (Kp : World → World → Prop) (A : Option Addr) (c : Nat) (w : World) (B1 : Nat)
    (h1 : Boxed w B1 87 (.slice A 0 c)) :
    SeqStopsK Fence.wide n Try.prog 79 #[.pointer (some ⟨B1, 0, none⟩)] encs Kp (fun _ => True) (fun _ => False) 0 w := by
  intro l J Jx W hW hJ hJx hY h0
  have k1 : Boxed W B1 87 (.slice A 0 c) := (hW.block _ h1.lt).trans h1
  have hc1 := k1.cell
  have hk63 : IntKind.i64.wrap (0 - 1) = -1 := by rfl
  clear hY hJ hJx h1
  refine callsIn_of_wp Try.func79 rfl trivial ?_ rfl
  simp only [Try.ntmps79, List.size_toArray, List.length_cons, List.length_nil, Nat.reduceAdd, Nat.reduceSub, Array.replicate_succ, Array.replicate_zero, List.push_toArray, List.append_toArray, List.nil_append, List.cons_append]
  gi_wp2
  gi_loopw [3] (fun p wr => p = .int .i64 (-1) ∧ J [] wr) (fun _ _ => 0)
  case atStart => exact ⟨rfl, h0⟩
  case round =>
    obtain ⟨rfl, hJr⟩ := hrel
    gi_wp2
    go_end0
    exact ⟨⟨_, rfl⟩, .inl ⟨[], trivial, hJr⟩⟩

def stZ : List Value := [.int .u64 0, .slice none 0 0, .slice none 0 0]
set_option maxRecDepth 100000 in
set_option maxHeartbeats 4000000 in
theorem story0_in (w : World) :
    CallsIn Fence.wide 5 Try.prog 56 #[.slice none 0 0] w fun e W' => e = .returned (.agg stZ.toArray) ∧ Below w.heap.size w W' := by
  have h15 : 1 ≤ 5 := by omega
  refine callsIn_of_wp_marks Try.func56 rfl trivial ?_ rfl
  simp only [Try.ntmps56, List.size_toArray, List.length_cons, List.length_nil, Nat.reduceAdd, Nat.reduceSub, Array.replicate_succ, Array.replicate_zero, List.push_toArray, List.append_toArray, List.nil_append, List.cons_append]
  gi_wp2_with (refine ⟨trivial, ?_⟩; gi_at_call 73; refine (callsIn_wide.2 (backward0_run none 0 0 _)).mono ?_; rintro e w3 ⟨rfl, hBx, hb33⟩)
  rename_i Q1 K1 hK1
  obtain ⟨W0, hW0⟩ : ∃ z, z = (w.alloc (.cells #[.int .u64 0, .slice none 0 0, .slice none 0 0] 50)).alloc (.cells #[.int .u64 0, .slice none 0 0, .slice none 0 0] 50) := ⟨_, rfl⟩
  have hs0 : W0.heap.size = w.heap.size + 2 := by rw [hW0]; simp
  have r1 : Arr W0 w.heap.size 50 stZ := by rw [hW0]; exact (Arr.new w _ stZ).alloc _
  have r2 : Arr W0 (w.heap.size + 1) 50 stZ := by
    rw [hW0]
    have h := Arr.new (w.alloc (.cells #[.int .u64 0, .slice none 0 0, .slice none 0 0] 50)) 50 stZ
    rw [World.size_alloc] at h
    exact h
  have hB0 : Below w.heap.size w W0 := by rw [hW0]; exact ((Below.refl _ w).alloc (Nat.le_refl _) _).alloc (by simp) _
  rw [← hW0] at hBx hb33
  rw [hs0] at hBx
  have hB3 : Below w.heap.size w w3 := hB0.trans (hb33.mono hB0.size)
  have p1 := r1.up hb33
  have p2 := r2.up hb33
  clear r1 r2 hB0 hb33 hW0 hs0
  refine wpIn_rangeFunc_ownG (α := Empty) rfl h15 (gf := 79) (lb := #[.pointer (some ⟨w.heap.size + 1 + 1, 0, none⟩)]) rfl trivial (enters_of Try.func79 (by kernel_rfl) rfl)
    (backward0_stops (5 - 1) (by omega) (fun x => x.elim) (fun _ _ => True) none 0 w3 (w.heap.size + 1 + 1) hBx) (fun _ _ => trivial) (fun _ _ _ _ _ _ _ _ => trivial) (Below.refl _ _) (fun x => x.elim)
    (fun _ W => (Arr W w.heap.size 50 stZ ∧ Arr W (w.heap.size + 1) 50 stZ) ∧ Below w.heap.size w W) (fun _ _ _ => False)
    (OwnFrom.and (Own.from (fun s X Y row h hg hr => ⟨h.1.grownA hg hr, h.2.grownA hg hr⟩) _) (ownFrom_below (Nat.le_refl _) hB3.size)) (fun _ _ _ _ _ hs _ _ => hs)
    ⟨⟨p1, p2⟩, hB3⟩ (fun x => x.elim) (fun _ x => x.elim) (fun _ _ x => x.elim) ?done (fun _ _ _ _ _ h => h.elim)
  case done =>
    rintro D ys W hD - ⟨⟨h1, h2⟩, hB⟩ hK
    have hx2 : W.heap[w.heap.size + 1]? = some (.cells stZ.toArray 50 (0, 0)) := h2
    have hx1 : W.heap[w.heap.size]? = some (.cells stZ.toArray 50 (0, 0)) := h1
    have hSi : (Try.prog.info? 50).map (·.size) = some stZ.toArray.size := by kernel_rfl
    have hS1 : stZ.toArray.all (·.oneCell') = true := by rw [List.all_toArray, List.all_eq_true]; intro v hv; simp only [stZ, List.mem_cons, List.not_mem_nil, or_false] at hv; rcases hv with rfl | rfl | rfl <;> rfl
    have hS2 : stZ.toArray.size = stZ.toArray.size := rfl
    have hg7 := h1.setRow stZ
    have ho7 : Only (fun k => k = w.heap.size) W (W.setRow w.heap.size stZ.toArray) := (Only.refl (fun k => k = w.heap.size) W).setRow (.inl rfl) _
    have hK7 : (W.setRow w.heap.size stZ.toArray).heap[D]? = some (.deferred (some [])) := (ho7.block D (Array.getElem?_eq_some_iff.1 hK).1 (by have := hB3.size; have := Arr.lt p2; omega)).trans hK
    have hB7 : Below w.heap.size w (W.setRow w.heap.size stZ.toArray) := hB.trans (ho7.below hB.size (by rintro k rfl; exact Nat.le_refl _))
    obtain ⟨W7, hW7⟩ : ∃ z, z = W.setRow w.heap.size stZ.toArray := ⟨_, rfl⟩
    rw [← hW7] at hg7 hK7 hB7
    have HW7 := Lib.hid hW7
    clear hW7 ho7
    refine hK1 _ _ (wpIn_wide.2 ?_)
    go_wp2_with (first | (refine wpList_load_row rfl _ _ rfl (w.heap.size + 1) rfl 50 stZ.toArray (0, 0) _ hx2 Try.underlying50 rfl hSi ?_) | (refine wpList_store_row rfl _ _ _ rfl w.heap.size stZ.toArray rfl rfl 50 stZ.toArray hx1 hSi hS2 hS1 ?_; rw [← HW7.out]))
    refine ⟨by simp, .inl ⟨_, _, rfl, run_takeDeferred hK7, ?_⟩⟩
    have hg8 : Arr (W7.putObj D (.deferred none)) w.heap.size 50 stZ := hg7.grownA (grownBy_putObj' W7 D (.deferred none)) (fun r e => by injection e with e; subst e; exact ⟨_, hK7, rfl⟩)
    exact ⟨_, results_cell_row (by rfl) _ _ w.heap.size 50 stZ.toArray (0, 0) _ (by rfl) hg8 Try.underlying50 rfl hSi, rfl, hB7.trans (belowK_b (w := w) (Nat.le_refl _) W7 D _ _ (by have := hB3.size; omega) hK7 rfl rfl)⟩

theorem results_cellsA {P : Program} {fn : Func} {p u : Tmp} {t1 t2 : TypeId} (h : fn.results = #[.cell p t1, .cell u t2]) (tmps : Array Value) (w : World) (a b : Addr) (x y : Value) (hp : tmps.getD p undef = .pointer (some a)) (hu : tmps.getD u undef = .pointer (some b)) (hx : (loadVar t1 a).run P w = .ok x w) (hy : (loadVar t2 b).run P w = .ok y w) :
    (results fn tmps).run P w = .ok (.tuple #[x, y]) w := by
  have hp' : tmps[p]?.getD undef = .pointer (some a) := by simpa using hp
  have hu' : tmps[u]?.getD undef = .pointer (some b) := by simpa using hu
  simp [results, h, hp', hu', asAddr, Sem.run_bind, Result.andThen, hx, hy]
theorem wpList_allocZA {P : Program} {ops : Array Oper} {rest : List Oper} {o : Oper} {a : Act} {w : World} {Q : Exit → Act → World → Prop} (hg : o.guard = none) (t : TypeId) (ho : o.op = .alloc t) (Z : Array Value) (hz : (zeroValue t).run P w = .ok (.agg Z) w)
    (h : wpList P ops Q rest (a.put o.dst (.pointer (some ⟨w.heap.size, 0, none⟩))) (w.alloc (.cells Z t))) : wpList P ops Q (o :: rest) a w := by
  refine wpList_plain hg fun K hK => ?_
  unfold Oper.wp execOp
  simp only [ho, Instr.alloc, Sem.run_bind, hz, Result.andThen_ok]
  exact hK _ _ h
/-- A Check's variables, as they are laid. -/
theorem check_laid (w : World) (RL : List Value) : ∃ W, W = (((w.alloc (.cells RL.toArray 24)).alloc (.cells #[.int .u64 0, .slice none 0 0, .slice none 0 0] 50)).alloc (.cells #[.int .i64 0] 34)).alloc (.cells #[.slice none 0 0] 87) ∧
    W.heap.size = w.heap.size + 4 ∧ Arr W w.heap.size 24 RL ∧ Arr W (w.heap.size + 1) 50 stZ ∧ Boxed W (w.heap.size + 2) 34 (.int .i64 0) ∧ Boxed W (w.heap.size + 3) 87 (.slice none 0 0) ∧ Below w.heap.size w W := by
  obtain ⟨w1, hw1⟩ : ∃ z, z = w.alloc (.cells RL.toArray 24) := ⟨_, rfl⟩
  obtain ⟨w2, hw2⟩ : ∃ z, z = w1.alloc (.cells #[.int .u64 0, .slice none 0 0, .slice none 0 0] 50) := ⟨_, rfl⟩
  obtain ⟨w3, hw3⟩ : ∃ z, z = w2.alloc (.cells #[.int .i64 0] 34) := ⟨_, rfl⟩
  obtain ⟨w4, hw4⟩ : ∃ z, z = w3.alloc (.cells #[.slice none 0 0] 87) := ⟨_, rfl⟩
  have s1 : w1.heap.size = w.heap.size + 1 := by rw [hw1]; simp
  have s2 : w2.heap.size = w.heap.size + 2 := by rw [hw2]; simp [s1]
  have s3 : w3.heap.size = w.heap.size + 3 := by rw [hw3]; simp [s2]
  have s4 : w4.heap.size = w.heap.size + 4 := by rw [hw4]; simp [s3]
  refine ⟨w4, by rw [hw4, hw3, hw2, hw1], s4, ?_, ?_, ?_, ?_, ?_⟩
  · rw [hw4, hw3, hw2, hw1]; exact (((Arr.new w _ _).alloc _).alloc _).alloc _
  · rw [hw4, hw3, ← s1, hw2]; exact ((Arr.new w1 _ stZ).alloc _).alloc _
  · rw [hw4, ← s2, hw3]; exact (Boxed.new w2 _ _).alloc _
  · rw [← s3, hw4]; exact Boxed.new w3 _ _
  · rw [hw4, hw3, hw2, hw1]; exact ((((Below.refl _ w).alloc (Nat.le_refl _) _).alloc (by simp) _).alloc (by simp; omega) _).alloc (by simp; omega) _
theorem wpList_atA {P : Program} {ops : Array Oper} {rest : List Oper} {o : Oper} {a : Act} {w : World} {Q : Exit → Act → World → Prop} (n : Nat) (hd : o.dst = some n) (h : wpList P ops Q (o :: rest) a w) : wpList P ops Q (o :: rest) a w := h
theorem wpList_neqA {P : Program} {ops : Array Oper} {rest : List Oper} {o : Oper} {a : Act} {w : World} {Q : Exit → Act → World → Prop} (hw : Region.wanted o (yielded ops a.tmps) = true) (ty ty2 : TypeId) (x y : Operand) (ho : o.op = .binOp .neq ty x y ty2)
    (X Y : List Value) (hx : a.eval x = .agg X.toArray) (hy : a.eval y = .agg Y.toArray) (b : Bool) (he : ∀ w, (Op.equalIn 10000 ty (.agg X.toArray) (.agg Y.toArray)).run P w = .ok b w) (hm : P.eqGuardType P.depth ty = false)
    (h : wpList P ops Q rest (a.put o.dst (.bool (!b))) w) : wpList P ops Q (o :: rest) a w :=
  wpList_step fun K hK => by
    rw [if_pos hw]
    unfold Oper.wp execOp
    simp only [ho, hx, hy, Sem.run_bind, Sem.run_pure, Result.andThen_ok, run_eqGuard_agg, run_neq_struct, he, hm]
    exact hK _ _ h

/-- What a Check answers, stored. -/
theorem check_stored (w W : World) (D : Nat) (SL XL : List Value) (k0 k : Value) (hS : Arr W (w.heap.size + 1) 50 SL) (hE : Boxed W (w.heap.size + 2) 34 k0) (hK : W.heap[D]? = some (.deferred (some []))) (hD : w.heap.size + 2 < D) (hB : Below w.heap.size w W) :
    ∃ V1 V, V1 = W.setRow (w.heap.size + 1) XL.toArray ∧ V = V1.setCell ⟨w.heap.size + 2, 0, none⟩ k ∧ V1.cell? ⟨w.heap.size + 2, 0, none⟩ = some k0 ∧ V1.frozen? ⟨w.heap.size + 2, 0, none⟩ = false ∧ Arr V (w.heap.size + 1) 50 XL ∧ Boxed V (w.heap.size + 2) 34 k ∧ V.heap[D]? = some (.deferred (some [])) ∧ Below w.heap.size w V := by
  obtain ⟨V1, hV1⟩ : ∃ z, z = W.setRow (w.heap.size + 1) XL.toArray := ⟨_, rfl⟩
  obtain ⟨V, hV⟩ : ∃ z, z = V1.setCell ⟨w.heap.size + 2, 0, none⟩ k := ⟨_, rfl⟩
  have o1 : Only (fun k => k = w.heap.size + 1) W V1 := by rw [hV1]; exact (Only.refl (fun k => k = w.heap.size + 1) W).setRow (.inl rfl) _
  have o2 : Only (fun k => k = w.heap.size + 2) V1 V := by rw [hV]; exact (Only.refl (fun k => k = w.heap.size + 2) V1).setCell (p := ⟨w.heap.size + 2, 0, none⟩) (.inl rfl) _
  have s1 : Arr V1 (w.heap.size + 1) 50 XL := by rw [hV1]; exact hS.setRow XL
  have e1 : Boxed V1 (w.heap.size + 2) 34 k0 := (o1.block _ hE.lt (by omega)).trans hE
  have hKl := (Array.getElem?_eq_some_iff.1 hK).1
  have k1 : V1.heap[D]? = some (.deferred (some [])) := (o1.block D hKl (by omega)).trans hK
  have b1 : Below w.heap.size w V1 := hB.trans (o1.below hB.size (by rintro k rfl; omega))
  refine ⟨V1, V, hV1, hV, e1.cell, e1.frozen, s1.only o2 (by omega), ?_, (o2.block D (Array.getElem?_eq_some_iff.1 k1).1 (by omega)).trans k1, b1.trans (o2.below b1.size (by rintro k rfl; omega))⟩
  rw [hV]; exact Boxed.set k e1

set_option maxRecDepth 100000 in
set_option maxHeartbeats 4000000 in
/-- The story of no commits: empty, under a zero root alone. -/
theorem check0_in (root : List UInt8) (hr : root.length = 32) (RL : List Value) (hRL : RL = Lib.byteCells root) (w : World) :
    CallsIn Fence.wide 6 Try.prog 20 #[.int .u64 0, .agg RL.toArray, .slice none 0 0] w fun e W' => e = .returned (.tuple #[.agg stZ.toArray, .int .i64 (if root = List.replicate 32 0 then 0 else 3)]) ∧ Below w.heap.size w W' := by
  have h15 : 1 ≤ 6 := by omega
  have hRl : RL.length = 32 := by rw [hRL, Lib.byteCells_length, hr]
  have hR1 : ∀ v ∈ RL, v.oneCell' = true := by rw [hRL]; exact byteCells_one _
  have Hki := Lib.hid (show (Try.prog.info? 24).map (·.size) = some RL.toArray.size by rw [List.size_toArray, hRl]; exact digInfo)
  obtain ⟨PL, hPL⟩ : ∃ z, z = refC root 0 0 := ⟨_, rfl⟩
  have hPl : PL.length = 34 := by rw [hPL]; exact refC_length hr _ _
  have HPb := Lib.hid (show Try.prog.built 26 [(0, .agg RL.toArray)] = some PL.toArray by rw [hPL]; exact ref_built1 root RL hRL hr)
  have HPi := Lib.hid (show (Try.prog.info? 26).map (·.size) = some PL.toArray.size by rw [List.size_toArray, hPl]; exact refSize)
  have HP1 := Lib.hid (show PL.toArray.all (·.oneCell') = true by rw [List.all_toArray, List.all_eq_true, hPL]; exact refC_cell _ _ _)
  obtain ⟨ZL, hZL⟩ : ∃ z, z = refZ := ⟨_, rfl⟩
  have HZ := Lib.hid (fun w : World => show (zeroValue 26).run Try.prog w = .ok (.agg ZL.toArray) w by rw [hZL]; kernel_rfl)
  have HZb := Lib.hid (show Try.prog.built 26 [] = some ZL.toArray by rw [hZL]; kernel_rfl)
  have HZs := Lib.hid (show ZL.toArray.size = PL.toArray.size by rw [List.size_toArray, List.size_toArray, hPl, hZL]; rfl)
  obtain ⟨rz, hrz⟩ : ∃ z, z = decide (root = List.replicate 32 0) := ⟨_, rfl⟩
  have Heq := Lib.hid (fun w : World => show (Op.equalIn 10000 26 (.agg PL.toArray) (.agg ZL.toArray)).run Try.prog w = .ok rz w by
    rw [ref_eqv root (List.replicate 32 0) hr rfl 0 0 0 0 PL ZL hPL hZL w, hrz]; simp)
  have Hans := Lib.hid (show (if root = List.replicate 32 0 then (0 : Int) else 3) = if rz = true then 0 else 3 by rw [hrz]; simp)
  rw [Hans.out]
  have HRl := Lib.hid hRl
  have HR1 := Lib.hid hR1
  clear hRL hRl hR1 hPL hPl hZL hrz Hans
  refine callsIn_of_wp_marks Try.func20 rfl trivial ?_ rfl
  simp only [Try.ntmps20, List.size_toArray, List.length_cons, List.length_nil, Nat.reduceAdd, Nat.reduceSub, Array.replicate_succ, Array.replicate_zero, List.push_toArray, List.append_toArray, List.nil_append, List.cons_append]
  obtain ⟨W4, hW4, hs4, hA, hS, hE, hT, hB4⟩ := check_laid w RL
  obtain ⟨W5, hW5⟩ : ∃ z, z = (W4.alloc (.cells ZL.toArray 26)).setRow W4.heap.size PL.toArray := ⟨_, rfl⟩
  obtain ⟨hP5, hb5⟩ := alloc_row W4 26 ZL.toArray PL
  rw [← hW5] at hP5 hb5
  rw [hs4] at hP5
  have hB5 := hB4.trans (hb5.mono hB4.size)
  have hA5 := hA.up hb5
  have hS5 := hS.up hb5
  have hE5 : Boxed W5 (w.heap.size + 2) 34 (.int .i64 0) := (hb5.block _ hE.lt).trans hE
  have hT5 : Boxed W5 (w.heap.size + 3) 87 (.slice none 0 0) := (hb5.block _ hT.lt).trans hT
  have hA' : W4.heap[w.heap.size]? = some (.cells RL.toArray 24 (0, 0)) := hA
  have hA5' : W5.heap[w.heap.size]? = some (.cells RL.toArray 24 (0, 0)) := hA5
  have HW4 := Lib.hid hW4
  have HW5 := Lib.hid hW5
  clear hW4 hW5 hA hS hE hT hb5
  refine wpIn_wide.2 ?_
  go_upto_region 4 with fail
  change Code.wp _ _ _ _ ((((w.alloc (.cells RL.toArray 24)).alloc (.cells #[.int .u64 0, .slice none 0 0, .slice none 0 0] 50)).alloc (.cells #[.int .i64 0] 34)).alloc (.cells #[.slice none 0 0] 87))
  rw [← HW4.out]
  go_wp2_with (first
    | ((with_reducible refine wpList_atA 18 (by rfl) ?_); refine wpList_load_row rfl _ _ rfl w.heap.size rfl 24 RL.toArray (0, 0) _ hA' Try.underlying24 rfl Hki.out ?_)
    | ((with_reducible refine wpList_atA 19 (by rfl) ?_); refine wpList_builtD rfl _ _ rfl _ rfl PL.toArray HPb.out ?_)
    | ((with_reducible refine wpList_atA 9 (by rfl) ?_); refine wpList_allocZA rfl 26 rfl ZL.toArray (HZ.out _) ?_)
    | (refine wpList_store_row rfl _ _ _ rfl W4.heap.size PL.toArray rfl rfl 26 ZL.toArray (heap_alloc_new W4 _) HPi.out HZs.out HP1.out ?_; rw [← HW5.out])
    | ((with_reducible refine wpList_atA 21 (by rfl) ?_); refine wpList_load_row rfl _ _ rfl w.heap.size rfl 24 RL.toArray (0, 0) _ hA5' Try.underlying24 rfl Hki.out ?_))
  refine Calls.mono (linked_run 0 RL none 0 0 W5) ?_
  rintro e w6 ⟨rfl, b1, b2, b3, hb6⟩
  have hB6 := hB5.trans (hb6.mono hB5.size)
  have hP6 := hP5.up hb6
  have hS6 := hS5.up hb6
  have hE6 : Boxed w6 (w.heap.size + 2) 34 (.int .i64 0) := (hb6.block _ hE5.lt).trans hE5
  have hT6 : Boxed w6 (w.heap.size + 3) 87 (.slice none 0 0) := (hb6.block _ hT5.lt).trans hT5
  have hl6 := linked0_stops (6 - 1) (by omega) (fun x => x.elim) (fun _ _ => True) 0 RL HRl.out HR1.out none 0 w6 W5.heap.size (W5.heap.size + 1) (W5.heap.size + 1 + 1) b1 b2 b3
  clear hP5 hS5 hE5 hT5 hA5 hA5' hA' hb6 b1 b2 b3
  go_wp2_with fail
  rename_i Q1 K1 hK1
  have hSi : (Try.prog.info? 50).map (·.size) = some stZ.toArray.size := by kernel_rfl
  have hS1 : stZ.toArray.all (·.oneCell') = true := by rw [List.all_toArray, List.all_eq_true]; intro v hv; simp only [stZ, List.mem_cons, List.not_mem_nil, or_false] at hv; rcases hv with rfl | rfl | rfl <;> rfl
  have hSb : Try.prog.built 50 [] = some stZ.toArray := by kernel_rfl
  refine (wpIn_wide (n := 6)).1 ?_
  refine wpIn_rangeFunc_ownG (α := Empty) rfl h15 (gf := 72) (lb := #[.pointer (some ⟨W5.heap.size, 0, none⟩), .pointer (some ⟨W5.heap.size + 1, 0, none⟩), .pointer (some ⟨W5.heap.size + 1 + 1, 0, none⟩)]) rfl trivial (enters_of Try.func72 (by kernel_rfl) rfl)
    hl6 (fun _ _ => trivial) (fun _ _ _ _ _ _ _ _ => trivial) (Below.refl _ _) (fun x => x.elim)
    (fun _ W => (Arr W (w.heap.size + 4) 26 PL ∧ Arr W (w.heap.size + 1) 50 stZ ∧ Boxed W (w.heap.size + 2) 34 (.int .i64 0) ∧ Boxed W (w.heap.size + 3) 87 (.slice none 0 0)) ∧ Below w.heap.size w W) (fun _ _ _ => False)
    (OwnFrom.and (Own.from (fun s X Y row h hg hr => ⟨h.1.grownA hg hr, h.2.1.grownA hg hr, boxed_grownA h.2.2.1 hg hr, boxed_grownA h.2.2.2 hg hr⟩) _) (ownFrom_below (Nat.le_refl _) hB6.size)) (fun _ _ _ _ _ hs _ _ => hs)
    ⟨⟨hP6, hS6, hE6, hT6⟩, hB6⟩ (fun x => x.elim) (fun _ x => x.elim) (fun _ _ x => x.elim) ?done (fun _ _ _ _ _ h => h.elim)
  case done =>
    have h56 := hB6.size
    have hTl := hT6.lt
    have hPl6 := Arr.lt hP6
    rintro D ys W hD - ⟨⟨hP, hS, hE, hT⟩, hB⟩ hK
    clear hP6 hS6 hE6 hT6 hl6 hB6 hB5 HW4 HW5 hB4 hs4
    refine hK1 _ _ ?_
    clear hK1
    have hP' : W.heap[w.heap.size + 4]? = some (.cells PL.toArray 26 (0, 0)) := hP
    have hE' := hE.cell
    have hEf := hE.frozen
    have hT' := hT.cell
    go_upto_if 37 with (first
      | ((with_reducible refine wpList_atA 35 (by rfl) ?_); refine wpList_load_row rfl _ _ rfl (w.heap.size + 4) rfl 26 PL.toArray (0, 0) _ hP' Try.underlying26 rfl HPi.out ?_)
      | ((with_reducible refine wpList_atA 36 (by rfl) ?_); refine wpList_builtD rfl _ _ rfl _ rfl ZL.toArray HZb.out ?_)
      | ((with_reducible refine wpList_atA 37 (by rfl) ?_); refine wpList_neqA (by rfl) _ _ _ _ rfl PL ZL rfl rfl _ Heq.out gtR ?_))
    cases rz with
    | false =>
      obtain ⟨V1, V, e1, e2, k2, k3, k4, k5, k6, k7⟩ := check_stored w W D stZ stZ (.int .i64 0) (.int .i64 3) hS hE hK (by omega) hB
      have E1 := Lib.hid e1
      have E2 := Lib.hid e2
      have hS' : W.heap[w.heap.size + 1]? = some (.cells stZ.toArray 50 (0, 0)) := hS
      clear e1 e2 hS hE hT hP hP'
      go_wp2_with (first
        | ((with_reducible refine wpList_atA 38 (by rfl) ?_); refine wpList_builtD rfl _ _ rfl _ rfl stZ.toArray hSb ?_)
        | (refine wpList_store_row rfl _ _ _ rfl (w.heap.size + 1) stZ.toArray rfl rfl 50 stZ.toArray hS' hSi (Eq.refl _) hS1 ?_; rw [← E1.out]))
      (try rw [← E2.out])
      refine ⟨by simp, .inl ⟨_, _, rfl, run_takeDeferred k6, ?_⟩⟩
      have hg := grownBy_putObj' V D (.deferred none)
      have hr : ∀ r, some D = some r → ∃ o : Obj, V.heap[r]? = some o ∧ o.isCells = false := fun r e => by injection e with e; subst e; exact ⟨_, k6, rfl⟩
      have s7 : (V.putObj D (.deferred none)).heap[w.heap.size + 1]? = some (.cells stZ.toArray 50 (0, 0)) := k4.grownA hg hr
      have e7 := (boxed_grownA k5 hg hr).cell
      exact ⟨_, results_cellsA rfl _ _ ⟨w.heap.size + 1, 0, none⟩ ⟨w.heap.size + 2, 0, none⟩ _ _ rfl rfl (run_loadVar_row _ _ _ _ _ _ _ s7 Try.underlying50 rfl hSi) (by go_simp), rfl, k7.trans (belowK_b (w := w) (Nat.le_refl _) V D _ _ (by omega) k6 rfl rfl)⟩
    | true =>
      go_wp2_with fail
      refine Calls.mono (callsIn_wide.1 (story0_in W)) ?_
      rintro e wx ⟨rfl, hbx⟩
      have hSx := hS.up hbx
      have hEx : Boxed wx (w.heap.size + 2) 34 (.int .i64 0) := (hbx.block _ hE.lt).trans hE
      have hKx : wx.heap[D]? = some (.deferred (some [])) := (hbx.block D (Array.getElem?_eq_some_iff.1 hK).1).trans hK
      obtain ⟨V1, V, e1, e2, k2, k3, k4, k5, k6, k7⟩ := check_stored w wx D stZ stZ (.int .i64 0) (.int .i64 0) hSx hEx hKx (by omega) (hB.trans (hbx.mono hB.size))
      have E1 := Lib.hid e1
      have E2 := Lib.hid e2
      have hS' : wx.heap[w.heap.size + 1]? = some (.cells stZ.toArray 50 (0, 0)) := hSx
      clear e1 e2 hS hE hT hP hP' hSx hEx hKx hbx hE' hEf hT'
      go_wp2_with (refine wpList_store_row rfl _ _ _ rfl (w.heap.size + 1) stZ.toArray rfl rfl 50 stZ.toArray hS' hSi (Eq.refl _) hS1 ?_; rw [← E1.out])
      (try rw [← E2.out])
      refine ⟨by simp, .inl ⟨_, _, rfl, run_takeDeferred k6, ?_⟩⟩
      have hg := grownBy_putObj' V D (.deferred none)
      have hr : ∀ r, some D = some r → ∃ o : Obj, V.heap[r]? = some o ∧ o.isCells = false := fun r e => by injection e with e; subst e; exact ⟨_, k6, rfl⟩
      have s7 : (V.putObj D (.deferred none)).heap[w.heap.size + 1]? = some (.cells stZ.toArray 50 (0, 0)) := k4.grownA hg hr
      have e7 := (boxed_grownA k5 hg hr).cell
      exact ⟨_, results_cellsA rfl _ _ ⟨w.heap.size + 1, 0, none⟩ ⟨w.heap.size + 2, 0, none⟩ _ _ rfl rfl (run_loadVar_row _ _ _ _ _ _ _ s7 Try.underlying50 rfl hSi) (by go_simp), rfl, k7.trans (belowK_b (w := w) (Nat.le_refl _) V D _ _ (by omega) k6 rfl rfl)⟩

theorem zeros_cells : Lib.byteCells (List.replicate 32 0) = List.replicate 32 (Value.int .u8 0) := by rfl
theorem dig_b1 : Try.prog.built 24 [(0, .int .u8 1)] = some (Lib.byteCells (1 :: List.replicate 31 0)).toArray := by kernel_rfl
theorem dig_b0 : Try.prog.built 24 [] = some (Lib.byteCells (List.replicate 32 0)).toArray := by kernel_rfl

set_option maxHeartbeats 4000000 in
set_option maxRecDepth 100000 in
/-- The law's example. -/
theorem speaks17_any (w : World) : Calls Try.prog 18 #[] w fun e w' => e = .returned (.bool true) ∧ Below w.heap.size w w' := by
  obtain ⟨OL, hOL⟩ : ∃ z, z = Lib.byteCells (1 :: List.replicate 31 0) := ⟨_, rfl⟩
  obtain ⟨ZL, hZL⟩ : ∃ z, z = Lib.byteCells (List.replicate 32 0) := ⟨_, rfl⟩
  have HOb := Lib.hid (show Try.prog.built 24 [(0, .int .u8 1)] = some OL.toArray by rw [hOL]; exact dig_b1)
  have HZb := Lib.hid (show Try.prog.built 24 [] = some ZL.toArray by rw [hZL]; exact dig_b0)
  have H0 := Lib.hid (fun w : World => show Calls Try.prog 20 #[.int .u64 0, .agg ZL.toArray, .slice none 0 0] w fun e W' => e = .returned (.tuple #[.agg stZ.toArray, .int .i64 0]) ∧ Below w.heap.size w W' by
    have h := callsIn_wide.1 (check0_in (List.replicate 32 0) rfl ZL hZL w)
    rwa [if_pos rfl] at h)
  have H1 := Lib.hid (fun w : World => show Calls Try.prog 20 #[.int .u64 0, .agg OL.toArray, .slice none 0 0] w fun e W' => e = .returned (.tuple #[.agg stZ.toArray, .int .i64 3]) ∧ Below w.heap.size w W' by
    have h := callsIn_wide.1 (check0_in (1 :: List.replicate 31 0) rfl OL hOL w)
    rwa [if_neg (by decide)] at h)
  clear hOL hZL
  go_enter Try.func18, Try.ntmps18
  go_wp2_with (first | ((with_reducible refine wpList_atA 6 (by rfl) ?_); refine wpList_builtD rfl _ _ rfl _ rfl ZL.toArray HZb.out ?_))
  refine Calls.mono (H0.out _) ?_
  rintro e w1 ⟨rfl, hb1⟩
  have hSi : (Try.prog.info? 50).map (·.size) = some stZ.toArray.size := by kernel_rfl
  have hS1 : stZ.toArray.all (·.oneCell') = true := by rw [List.all_toArray, List.all_eq_true]; intro v hv; simp only [stZ, List.mem_cons, List.not_mem_nil, or_false] at hv; rcases hv with rfl | rfl | rfl <;> rfl
  obtain ⟨w2, hw2⟩ : ∃ z, z = (w1.alloc (.cells stZ.toArray 50)).setRow w1.heap.size stZ.toArray := ⟨_, rfl⟩
  obtain ⟨hR2, hb2⟩ := alloc_row w1 50 stZ.toArray stZ
  rw [← hw2] at hR2 hb2
  have HW2 := Lib.hid hw2
  clear hw2
  go_upto_region 2 with (change wpList _ _ _ _ _ (w1.alloc (.cells stZ.toArray 50)); refine wpList_store_row rfl _ _ _ rfl w1.heap.size stZ.toArray rfl rfl 50 stZ.toArray (heap_alloc_new w1 _) hSi (Eq.refl _) hS1 ?_; rw [← HW2.out])
  go_wp2_with (first | ((with_reducible refine wpList_atA 11 (by rfl) ?_); refine wpList_builtD rfl _ _ rfl _ rfl OL.toArray HOb.out ?_))
  refine Calls.mono (H1.out _) ?_
  rintro e w3 ⟨rfl, hb3⟩
  obtain ⟨w4, hw4⟩ : ∃ z, z = (w3.alloc (.cells stZ.toArray 50)).setRow w3.heap.size stZ.toArray := ⟨_, rfl⟩
  obtain ⟨hR4, hb4⟩ := alloc_row w3 50 stZ.toArray stZ
  rw [← hw4] at hR4 hb4
  have HW4 := Lib.hid hw4
  clear hw4
  have hR4' := (hR2.up hb3).up hb4
  have hc0 : w4.cell? ⟨w1.heap.size, 0, none⟩ = some (.int .u64 0) := hR4'.cell 0
  have hc1 : w4.cell? ⟨w1.heap.size, 1, none⟩ = some (.slice none 0 0) := hR4'.cell 1
  have Hb := Lib.hid (show Below w.heap.size w w4 from ((hb1.trans (hb2.mono hb1.size)).trans (hb3.mono (Nat.le_trans hb1.size hb2.size))).trans (hb4.mono (Nat.le_trans (Nat.le_trans hb1.size hb2.size) hb3.size)))
  clear hR2 hb2 hb1 hb3 hR4 hb4 hR4'
  go_upto_region 3 with (change wpList _ _ _ _ _ (w3.alloc (.cells stZ.toArray 50)); refine wpList_store_row rfl _ _ _ rfl w3.heap.size stZ.toArray rfl rfl 50 stZ.toArray (heap_alloc_new w3 _) hSi (Eq.refl _) hS1 ?_; rw [← HW4.out])
  go_wp2_with fail
  go_ret
  exact ⟨rfl, Hb.out⟩

end Go.Proofs.Ytlfddijmanlneaa

namespace Go.Proofs.Ytlfddijmanlneaa
open Go.RowKit Go.Shelf
set_option linter.unusedVariables false
set_option linter.unusedSimpArgs false

/-- What a function value gives to a loop, where each round may be told `G`: what came ahead, what comes, and the world that it comes in. The function value may keep one variable of its own, in the first block that it lays. -/
def SeqG {α : Type} (F : Fence) (n : Nat) (P : Program) (g : Nat) (lb : Array Value) (encs : α → Array Value) (G : List α → α → World → Prop) (Kp : World → World → Prop) (S Sp : List α → Prop) (w : World) : Prop :=
  ∀ (l : Nat) (J Jx : List α → World → Prop) (W : World), Below w.heap.size w W → W.heap.size = w.heap.size + 2 → AbidesFrom W.heap.size J → AbidesFrom W.heap.size Jx →
    (∀ s X Y, J s X → X.grownBy Y (some (w.heap.size + 2)) → J s Y) →
    (∀ pre x V, J pre V → G pre x V → YieldAt F (n - 1) P l (encs x) V fun e V' =>
      (e = .returned (.bool true) ∧ J (pre ++ [x]) V' ∧ Kp V V') ∨ (e = .returned (.bool false) ∧ Jx (pre ++ [x]) V')) →
    J [] W → CallsIn F n P g (#[.func (.yield l) #[] #[]] ++ lb) W fun e V => (∃ v, e = .returned v) ∧ ((∃ xs, S xs ∧ J xs V) ∨ (∃ pre, Sp pre ∧ Jx pre V))

/-- How a round may end: it goes on, or the function returns. -/
def gPost {α : Type} (B : Nat) (K : World → Prop) (I Ix : List α → World → Prop) (xs : List α) (W : World) : Exit → Act → World → Prop
  | .normal, _, V => KeepsFrom B W V ∧ K V ∧ I xs V
  | .ret, _, V => KeepsFrom B W V ∧ Ix xs V
  | .exit _, _, _ => False
  | .goto _, _, _ => False
  | .panic _, _, _ => False
  | .outgrown, _, _ => False

/-- The loop's record and the block for deferred calls, as they stand. -/
def RecAt (b : Nat) (r : Loop) (W : World) : Prop := W.heap[b + 1]? = some (.loop r) ∧ W.heap[b]? = some (.deferred (some []))
theorem RecAt.kept {b : Nat} {r : Loop} {W V : World} (h : RecAt b r W) (k : KeepsFrom b W V) : RecAt b r V := ⟨k.same _ _ (by omega) h.1 rfl, k.same _ _ (Nat.le_refl _) h.2 rfl⟩
theorem RecAt.put {b : Nat} {r : Loop} {W : World} (h : RecAt b r W) (r' : Loop) : RecAt b r' (W.putObj (b + 1) (.loop r')) :=
  ⟨World.putObj_heap_same (Array.getElem?_eq_some_iff.1 h.1).1, (World.putObj_heap_other (by omega)).trans h.2⟩
theorem RecAt.past {b : Nat} {r : Loop} {W V : World} (h : RecAt b r W) (hg : W.grownBy V (some (b + 2))) : RecAt b r V :=
  ⟨(hg.block _ (Array.getElem?_eq_some_iff.1 h.1).1 (fun e => by injection e; omega)).trans h.1, (hg.block _ (Array.getElem?_eq_some_iff.1 h.2).1 (fun e => by injection e; omega)).trans h.2⟩
theorem RecAt.abides {b : Nat} {r : Loop} {W V : World} {row : Option Nat} (h : RecAt b r W) (hg : W.grownBy V row) (hr : ∀ i, row = some i → ∃ o : Obj, W.heap[i]? = some o ∧ o.isWalk = true) : RecAt b r V :=
  ⟨(grownBy_keeps hg hr h.1 rfl).trans h.1, (grownBy_keeps hg hr h.2 rfl).trans h.2⟩

theorem wpIn_rangeG {F : Fence} {n : Nat} {P : Program} {α : Type} {g : Operand} {ps : Array Tmp} {assign body : Code} {Q : Exit → Act → World → Prop} {a : Act} {w : World}
    (hro : F.round = none) (h1 : 1 ≤ n) {gf : Nat} {lb : Array Value} (hg : a.eval g = .func (.func gf) #[] lb) (hFg : F.fn gf) (eg : ∀ args w, (callFunc gf args).run P w = .ok (.enter gf args) w)
    {encs : α → Array Value} {G : List α → α → World → Prop} {Kp : World → World → Prop} {S Sp : List α → Prop} (hseq : SeqG F (n - 1) P gf lb encs G Kp S Sp w) (hps : ∀ x, (encs x).size = ps.size)
    (hKr : ∀ (W V : World) (l : Nat) (o o' : Obj), w.heap.size ≤ l → V.heap[l]? = some o → o.isCells = false → Kp W V → Kp W (V.putObj l o'))
    (I Ix : List α → World → Prop) (hI : OwnFrom w.heap.size I) (hIx : OwnFrom w.heap.size Ix) (hIz : ∀ s X Y, I s X → X.grownBy Y (some (w.heap.size + 2)) → I s Y) (h0 : I [] w)
    (Ax : List α → α → World → Act → World → Prop) (hAx : ∀ pre x W a', OwnFrom w.heap.size (fun (_ : Unit) V => Ax pre x W a' V))
    (hassign : ∀ (l : Nat) (pre : List α) (x : α) (W : World) (K : Act → World → Prop), I pre W → G pre x W → (∀ a' V, KeepsFrom w.heap.size W V → Ax pre x W a' V → K a' V) →
      assign.wpIn (F.inRound l) (n - 1 - 1) P (Exit.then K (fun _ _ _ => False)) { tmps := (ps.zip (encs x)).foldl (fun t (p, v) => t.setIfInBounds p v) a.tmps, defers := [] } W)
    (hbody : ∀ (l : Nat) (pre : List α) (x : α) (W0 : World) (a' : Act) (W : World), Ax pre x W0 a' W → body.wpIn (F.inRound l) (n - 1 - 1) P (gPost w.heap.size (Kp W0) I Ix (pre ++ [x]) W) a' W)
    (hdone : ∀ (D : Nat) (xs : List α) (W : World), w.heap.size ≤ D → S xs → I xs W → W.heap[D]? = some (.deferred (some [])) → Q .normal { a with defers := { target := .collected D, args := #[] } :: a.defers } W)
    (hstop : ∀ (D : Nat) (pre : List α) (W : World), w.heap.size ≤ D → Sp pre → Ix pre W → W.heap[D]? = some (.deferred (some [])) → Code.ret.wpIn F n P Q { a with defers := { target := .collected D, args := #[] } :: a.defers } W) :
    (Code.rangeFunc g ps assign body).wpIn F n P Q a w := by
  refine wpIn_rangeFunc fun fn hfn => ?_
  rw [hro]
  obtain ⟨b, hb⟩ : ∃ b, b = w.heap.size := ⟨_, rfl⟩
  obtain ⟨R, hR⟩ : ∃ R : LoopState → Option Code → Loop, R = fun st pe => { state := st, pending := pe, fn, tmps := a.tmps, params := ps, assign, body, defers := b } := ⟨_, rfl⟩
  have hlaid := run_enterLoop_outer (P := P) (w := w) fn a.tmps ps assign body
  rw [← hb] at hlaid hI hIx hAx hassign hbody hdone hstop hKr
  rw [show ({ state := .ready, pending := none, fn, tmps := a.tmps, params := ps, assign, body, defers := b } : Loop) = R .ready none from by rw [hR]] at hlaid
  obtain ⟨w1, hw1⟩ : ∃ z, z = w.alloc (.deferred (some [])) := ⟨_, rfl⟩
  obtain ⟨w2, hw2⟩ : ∃ z, z = w1.alloc (.loop (R .ready none)) := ⟨_, rfl⟩
  rw [← hw1, ← hw2] at hlaid
  have hs1 : w1.heap.size = b + 1 := by rw [hw1, hb]; simp
  have hs2 : w2.heap.size = b + 2 := by rw [hw2]; simp [hs1]
  have hB : Below w.heap.size w w2 := by rw [hw2, hw1]; exact ((Below.refl _ w).alloc (Nat.le_refl _) _).alloc (by simp) _
  have hrec0 : RecAt b (R .ready none) w2 := by
    constructor
    · rw [hw2, ← hs1]; exact World.alloc_heap_new w1 _
    · rw [hw2]
      refine (Below.heap_alloc w1 _ b (by omega)).trans ?_
      rw [hw1, hb]; exact World.alloc_heap_new w _
  have hI2 : I [] w2 := by rw [hw2]; exact hI.alloc _ (by rw [hw1]; exact hI.alloc _ h0)
  -- a walk's own blocks lie behind all that the loop has laid
  have far : ∀ {V : World} {row : Option Nat}, (∀ r, row = some r → w2.heap.size ≤ r ∧ ∃ o : Obj, V.heap[r]? = some o ∧ o.isWalk = true) → (∀ r, row = some r → b ≤ r ∧ ∃ o : Obj, V.heap[r]? = some o ∧ o.isCells = false) := fun h r e => by
    obtain ⟨k1, o, k2, k3⟩ := h r e
    exact ⟨by omega, o, k2, Obj.not_cells_of_walk k3⟩
  have turned : ∀ {X : List α → World → Prop}, OwnFrom b X → ∀ {r : Loop} (r' : Loop) (s : List α) (V : World), X s V → RecAt b r V → X s (V.putObj (b + 1) (.loop r')) := fun hX _ _ s V hs hr => hX.putObj _ hs (by omega) hr.1 rfl
  have hends : ∀ (V : World) (st : LoopState) (j : Option Code), st ≠ .busy → RecAt b (R st j) V → (Instr.endLoop (b + 1)).run P V = .ok j (V.putObj (b + 1) (.loop { R st j with state := .exhausted })) := fun V st j hst hr => by
    have h := run_endLoop (P := P) hr.1 (by rw [hR]; exact hst)
    refine h.trans ?_
    rw [hR]
  refine ⟨b + 1, _, w2, { target := .fn (.func gf) lb, args := #[.func (.yield (b + 1)) #[] #[]] }, w2, gf, #[.func (.yield (b + 1)) #[] #[]] ++ lb, w2, hlaid, by simp only [resolve, hg]; simp [go_sem], fun f' hf' => by simp [Target.leads] at hf'; subst hf'; exact hFg, by simp [invoke, go_sem, eg], fun _ => h1, ?_⟩
  refine (hseq (b + 1) (fun pre V => I pre V ∧ RecAt b (R .ready none) V) (fun pre V => Ix pre V ∧ RecAt b (R .done (some .ret)) V) w2 hB (by rw [hs2, hb])
    (fun s V V' row hs hg' hr => ⟨hI s V V' row hs.1 hg' (far hr), hs.2.abides hg' fun i e => (hr i e).2⟩)
    (fun s V V' row hs hg' hr => ⟨hIx s V V' row hs.1 hg' (far hr), hs.2.abides hg' fun i e => (hr i e).2⟩)
    (fun s X Y hs hg' => ⟨hIz s X Y hs.1 hg', hs.2.past (by rw [hb]; exact hg')⟩) ?_ ⟨hI2, hrec0⟩).mono ?_
  · rintro pre x V ⟨hi, hr⟩ hG
    have hy := run_yield (P := P) (args := encs x) hr.1 (by rw [hR]; exact hps x)
    rw [show (R .ready none).fn = fn from by rw [hR], show (R .ready none).params = ps from by rw [hR], show (R .ready none).tmps = a.tmps from by rw [hR], show (R .ready none).assign = assign from by rw [hR], show (R .ready none).body = body from by rw [hR]] at hy
    refine ⟨fn, _, assign, body, hy, roundIn_of_wpIn hfn (hassign _ pre x V _ hi hG fun a' V1 hk1 hax => ?_)⟩
    have hr1 := hr.kept hk1
    refine ⟨_, run_beginRound hr1.1 (by rw [hR]), wpIn_mono (hbody (b + 1) pre x V a' _ ((hAx pre x V a').putObj (s := ()) _ hax (by omega) hr1.1 rfl)) ?_⟩
    have hr2 := hr1.put { R .ready none with state := .busy }
    have ends : ∀ (j : Option Code) (V3 : World), KeepsFrom b (V1.putObj (b + 1) (.loop { R .ready none with state := .busy })) V3 → RecAt b { R .ready none with state := .busy } V3 ∧
        (Instr.endRound (b + 1) j).run P V3 = .ok (.bool j.isNone) (V3.putObj (b + 1) (.loop (R (if j.isNone then .ready else .done) j))) := fun j V3 hk => by
      have hr3 := hr2.kept hk
      have h := run_endRound (P := P) j hr3.1
      refine ⟨hr3, h.trans ?_⟩
      rw [hR]
    intro e a3 V3 hp
    cases e with
    | normal =>
      obtain ⟨hk3, hK3, hi3⟩ := hp
      obtain ⟨hr3, hend⟩ := ends none V3 hk3
      exact ⟨_, _, hend, .inl ⟨rfl, ⟨turned hI _ _ _ hi3 hr3, hr3.put _⟩, hKr _ _ _ _ _ (by omega) hr3.1 rfl hK3⟩⟩
    | ret =>
      obtain ⟨hk3, hi3⟩ := hp
      obtain ⟨hr3, hend⟩ := ends (some .ret) V3 hk3
      exact ⟨_, _, hend, .inr ⟨rfl, turned hIx _ _ _ hi3 hr3, hr3.put _⟩⟩
    | exit _ => exact hp.elim
    | goto _ => exact hp.elim
    | panic _ => exact hp.elim
    | outgrown => exact hp.elim
  · rintro e V ⟨⟨v, rfl⟩, (⟨xs, hS, hi, hr⟩ | ⟨pre, hS, hi, hr⟩)⟩
    · exact ⟨none, _, hends V .ready none (by simp) hr, hdone b xs _ (Nat.le_refl _) hS (turned hI _ _ _ hi hr) (hr.put _).2⟩
    · exact ⟨some .ret, _, hends V .done (some .ret) (by simp) hr, hstop b pre _ (Nat.le_refl _) hS (turned hIx _ _ _ hi hr) (hr.put _).2⟩

/-! ### within a round: what a plain walk says of a region that draws nothing -/
theorem rows_inRound {r n : Nat} {P : Program} {row : String} {args : Array Value} {w : World} {R : Value → World → Prop} (h : Rows P row args w R) : RowsIn (Fence.wide.inRound r) n P row args w R := fun c cs _ => by
  obtain ⟨v, w', hr, hs⟩ := h c cs
  exact ⟨v, w', hr, stepsIn_wide.2 hs⟩
theorem operIn_of {r n : Nat} {P : Program} {o : Oper} {a : Act} {w : World} {K : Act → World → Prop} {Q : Exit → Act → World → Prop} (hd : ∀ c, o.op ≠ .defer c) (h : o.wp P a w K Q) : o.wpIn (Fence.wide.inRound r) n P a w K Q := by
  refine ⟨fun _ _ => trivial, ?_⟩
  rw [show o.semAt (Fence.wide.inRound r).round a.eval = execOp a.eval o from Oper.semAt_eq _ _ _ hd]
  unfold Oper.wp at h
  revert h
  generalize (execOp a.eval o).run P w = res
  intro h
  cases res with
  | ok nx w' =>
    cases nx
    case enter f args => exact ⟨(fun k => by cases k), CallsIn.inRound r (callsIn_wide.2 h)⟩
    case row x args => exact ⟨(fun k => by cases k), rows_inRound h⟩
    all_goals first | exact h | exact h.elim
  | halt x w' => cases x <;> first | exact h | exact h.elim
/-- No operation of a list defers a call. -/
def noDefer (l : List Oper) : Bool := l.all fun o => match o.op with | .defer _ => false | _ => true
theorem listIn_of {r n : Nat} {P : Program} {ops : Array Oper} {Q : Exit → Act → World → Prop} (hL : ¬ LetsOut Q) : ∀ (l : List Oper) (a : Act) (w : World), noDefer l = true → wpList P ops Q l a w → wpListIn (Fence.wide.inRound r) n P ops Q l a w
  | [], _, _, _, h => h
  | o :: rest, a, w, hd, h => by
    have hd' : (match o.op with | .defer _ => false | _ => true) = true ∧ noDefer rest = true := by
      unfold noDefer at hd ⊢
      rw [List.all_cons, Bool.and_eq_true] at hd
      exact hd
    have ho : ∀ c, o.op ≠ .defer c := fun c e => by have := hd'.1; rw [e] at this; cases this
    unfold wpList at h
    unfold wpListIn
    split at h
    · rename_i hw
      rw [if_pos hw]
      rcases h with h | h
      · exact operIn_of ho (Oper.wp_mono (fun a w hk => listIn_of hL rest a w hd'.2 hk) h)
      · exact absurd h.2 hL
    · rename_i hw
      rw [if_neg hw]
      exact ⟨fun _ _ => trivial, listIn_of hL rest _ w hd'.2 h⟩
/-- A region that draws nothing, within a round, by its plain walk. -/
theorem regionIn_of {r n id : Nat} {P : Program} {l : List Oper} {Q : Exit → Act → World → Prop} {a : Act} {w : World} (hL : ¬ LetsOut Q) (hd : noDefer l = true) (h : wpList P l.toArray Q l a w) : (Code.region id l.toArray false).wpIn (Fence.wide.inRound r) n P Q a w :=
  wpIn_region_lit (listIn_of hL l a w hd h)

end Go.Proofs.Ytlfddijmanlneaa

namespace Go.Proofs.Ytlfddijmanlneaa
open Go.RowKit Go.Shelf
set_option linter.unusedVariables false
set_option linter.unusedSimpArgs false

def zCx : Cx := ⟨zC, none, 0, none, 0⟩
theorem comZ_zCx : comZ = comC zCx := rfl
theorem zRefW : RefW zR := ⟨rfl, by unfold I64; show -9223372036854775808 ≤ (0 : Int) ∧ (0 : Int) ≤ _; omega, by unfold I64; show -9223372036854775808 ≤ (0 : Int) ∧ (0 : Int) ≤ _; omega⟩
theorem zCx_w : CxW zCx := ⟨by show (0 : Nat) < _; omega, zRefW, zRefW, zRefW, (fun b hb => by cases hb), rfl, Nat.le_refl _, by unfold maxLen; exact Nat.zero_le _, Nat.le_refl _, by unfold maxLen; exact Nat.zero_le _⟩
theorem CxOk.w {w : World} {B : Nat} {x : Cx} (h : CxOk w B x) : CxW x := ⟨h.ep, h.r1, h.r2, h.r3, h.bw, h.st, h.lb, h.mb, h.le, h.me⟩

/-- A commit, and whether it is the one that is wanted. -/
abbrev CxB := { x : Cx × Bool // CxW x.1 }
def encB (x : CxB) : Array Value := #[.agg (comC x.1.1).toArray, .bool x.1.2]
def coms (pre : List CxB) : List Com := pre.map fun x => x.1.1.c
theorem coms_snoc (pre : List CxB) (x : CxB) : coms (pre ++ [x]) = coms pre ++ [x.1.1.c] := by unfold coms; simp

/-- The block of the row that stands in box T. -/
def ownT (T : Nat) (V : World) : Option Nat := (V.cell? ⟨T, 0, none⟩).bind Value.ownBlock
/-- What isn't the loop's own. -/
def FreeB (T P Z : Nat) (V : World) (k : Nat) : Prop := k < V.heap.size ∧ k ≠ T ∧ k ≠ P ∧ k ≠ Z ∧ ownT T V ≠ some k
def TBok (T n1 : Nat) (V : World) : Prop := ∀ k, ownT T V = some k → n1 ≤ k ∧ k < V.heap.size
/-- What a round that goes on leaves. -/
structure KpT (T P : Nat) (W V : World) : Prop where
  size : W.heap.size ≤ V.heap.size
  own : ownT T V = ownT T W ∨ ∃ k, ownT T V = some k ∧ W.heap.size ≤ k ∧ k < V.heap.size
  kept : ∀ k o, W.heap[k]? = some o → o.isCells = true → k ≠ T → k ≠ P → ownT T W ≠ some k → V.heap[k]? = some o
theorem KpT.cell {T P : Nat} {W V : World} (h : KpT T P W V) {k o : Nat} {v : Value} (hc : W.cell? ⟨k, o, none⟩ = some v) (h1 : k ≠ T) (h2 : k ≠ P) (h3 : ownT T W ≠ some k) : V.cell? ⟨k, o, none⟩ = some v := by
  obtain ⟨ob, e1, e2⟩ := cells_of_cell hc
  have e3 := h.kept k ob e1 e2 h1 h2 h3
  rw [← hc]
  exact World.cell?_of_block (e3.trans e1.symm)
theorem KpT.arr {T P : Nat} {W V : World} (h : KpT T P W V) {g : Nat} {ty : TypeId} {cs : List Value} (hc : Arr W g ty cs) (h1 : g ≠ T) (h2 : g ≠ P) (h3 : ownT T W ≠ some g) : Arr V g ty cs := h.kept g _ hc rfl h1 h2 h3
theorem KpT.rows {T P : Nat} {W V : World} (h : KpT T P W V) {B : Nat} {A : Option Addr} {rs : List (List UInt8)} (hr : RowsAt W B A rs) (hT : B ≤ T) (hP : B ≤ P) (ho : ∀ k, ownT T W = some k → B ≤ k) : RowsAt V B A rs := fun hp => by
  have ap : ∀ k, k < B → k ≠ T ∧ k ≠ P ∧ ownT T W ≠ some k := fun k hk => ⟨by omega, by omega, fun e => by have := ho k e; omega⟩
  obtain ⟨blk, off, e, hlt, hc⟩ := hr hp
  obtain ⟨a1, a2, a3⟩ := ap blk hlt
  refine ⟨blk, off, e, hlt, fun i hi => ?_⟩
  obtain ⟨A', c, q1, q2, q3, q4⟩ := hc i hi
  refine ⟨A', c, h.cell q1 a1 a2 a3, q2, q3, fun hq => ?_⟩
  obtain ⟨b, o, e', hb, hj⟩ := q4 hq
  obtain ⟨b1, b2, b3⟩ := ap b hb
  exact ⟨b, o, e', hb, fun j hjl => h.cell (hj j hjl) b1 b2 b3⟩
theorem BsIn.mono {w : World} {S S' : Nat → Prop} {A : Option Addr} {l : List UInt8} (h : BsIn w S A l) (hS : ∀ k, S k → S' k) : BsIn w S' A l := fun hp => by
  obtain ⟨b, o, e, hb, hc⟩ := h hp
  exact ⟨b, o, e, hS b hb, hc⟩
theorem EvIn.mono {w : World} {S S' : Nat → Prop} {A : Option Addr} {rs : List (List UInt8)} (h : EvIn w S A rs) (hS : ∀ k, S k → S' k) : EvIn w S' A rs := fun hp => by
  obtain ⟨b, o, e, hb, hc⟩ := h hp
  refine ⟨b, o, e, hS b hb, fun i hi => ?_⟩
  obtain ⟨A', c, q1, q2, q3, q4⟩ := hc i hi
  exact ⟨A', c, q1, q2, q3, q4.mono hS⟩
theorem EvIn.move {w w' : World} {S : Nat → Prop} {A : Option Addr} {rs : List (List UInt8)} (h : EvIn w S A rs) (hk : ∀ k o v, S k → w.cell? ⟨k, o, none⟩ = some v → w'.cell? ⟨k, o, none⟩ = some v) : EvIn w' S A rs := fun hp => by
  obtain ⟨b, o, e, hb, hc⟩ := h hp
  refine ⟨b, o, e, hb, fun i hi => ?_⟩
  obtain ⟨A', c, q1, q2, q3, q4⟩ := hc i hi
  refine ⟨A', c, hk _ _ _ hb q1, q2, q3, fun hq => ?_⟩
  obtain ⟨b2, o2, e2, hb2, hc2⟩ := q4 hq
  exact ⟨b2, o2, e2, hb2, fun j hj => hk _ _ _ hb2 (hc2 j hj)⟩
theorem EvIn.below {w w' : World} {S : Nat → Prop} {A : Option Addr} {rs : List (List UInt8)} (h : EvIn w S A rs) (hb : Below w.heap.size w w') (hS : ∀ k, S k → k < w.heap.size) : EvIn w' S A rs := h.move fun k o v hk hc => (hb.cell (p := ⟨k, o, none⟩) (hS k hk)).trans hc
theorem EvIn.rows {w : World} {S : Nat → Prop} {A : Option Addr} {rs : List (List UInt8)} (h : EvIn w S A rs) (B : Nat) (hS : ∀ k, S k → k < B) : RowsAt w B A rs := fun hp => by
  obtain ⟨b, o, e, hb, hc⟩ := h hp
  refine ⟨b, o, e, hS b hb, fun i hi => ?_⟩
  obtain ⟨A', c, q1, q2, q3, q4⟩ := hc i hi
  refine ⟨A', c, q1, q2, q3, fun hq => ?_⟩
  obtain ⟨b2, o2, e2, hb2, hc2⟩ := q4 hq
  exact ⟨b2, o2, e2, hS b2 hb2, hc2⟩
theorem ownT_below {T : Nat} {W V : World} (hb : Below W.heap.size W V) (hT : T < W.heap.size) : ownT T V = ownT T W := by
  unfold ownT
  rw [hb.cell (p := ⟨T, 0, none⟩) hT]
theorem TBok.below {T n1 : Nat} {W V : World} (h : TBok T n1 W) (hb : Below W.heap.size W V) (hT : T < W.heap.size) : TBok T n1 V := fun k hk => by
  rw [ownT_below hb hT] at hk
  have := h k hk
  have := hb.size
  exact ⟨by omega, by omega⟩
theorem TBok.kp {T P n1 : Nat} {W V : World} (h : TBok T n1 W) (k : KpT T P W V) (hn : n1 ≤ W.heap.size) : TBok T n1 V := fun i hi => by
  rcases k.own with e | ⟨j, e, h1, h2⟩
  · rw [e] at hi
    have := h i hi
    have := k.size
    exact ⟨by omega, by omega⟩
  · rw [e] at hi
    injection hi with hi
    subst hi
    exact ⟨by omega, h2⟩
/-- What a round is told of what comes. -/
def GT (T P Z n : Nat) (root : List UInt8) (bs : List (List UInt8)) (pre : List CxB) (x : CxB) (V : World) : Prop :=
  (pre.length < bs.length ∧ Z < V.heap.size) ∧ (x.1.2 = true → LinkP (n - pre.length) (endD root (coms pre)) (bs.getD pre.length []) x.1.1.c ∧ EvIn V (FreeB T P Z V) x.1.1.Ae x.1.1.c.evs) ∧ (x.1.2 = false → ∀ c, ¬ LinkP (n - pre.length) (endD root (coms pre)) (bs.getD pre.length []) c)
theorem KpT.trans {T P : Nat} {U V W : World} (h : KpT T P U V) (k : KpT T P V W) : KpT T P U W := by
  refine ⟨Nat.le_trans h.size k.size, ?_, fun i o e1 e2 e3 e4 e5 => ?_⟩
  · rcases k.own with e | ⟨j, e, h1, h2⟩
    · rcases h.own with f | ⟨j, f, g1, g2⟩
      · exact .inl (e.trans f)
      · exact .inr ⟨j, e.trans f, g1, Nat.lt_of_lt_of_le g2 k.size⟩
    · exact .inr ⟨j, e, Nat.le_trans h.size h1, h2⟩
  · have hi := (Array.getElem?_eq_some_iff.1 e1).1
    refine k.kept i o (h.kept i o e1 e2 e3 e4 e5) e2 e3 e4 fun e => ?_
    rcases h.own with f | ⟨j, f, g1, g2⟩
    · exact e5 (f ▸ e)
    · rw [f] at e
      injection e with e
      omega

end Go.Proofs.Ytlfddijmanlneaa

namespace Go.Proofs.Ytlfddijmanlneaa
open Go.RowKit Go.Shelf
set_option linter.unusedVariables false
set_option linter.unusedSimpArgs false

attribute [local go_sem] Oper.semAt_some

theorem wp_store_toA {P : Program} {op : Oper} {a : Act} {w : World} {K : Act → World → Prop} {Q : Exit → Act → World → Prop} (hd : op.dst = none) (ty : TypeId) (x y : Operand) (ho : op.op = .store ty x y)
    (b o : Nat) (cells : Array Value) (hx : a.eval x = .pointer (some ⟨b, o, none⟩)) (hy : a.eval y = .agg cells)
    (ht : w.there b o cells.size) (hi : (P.info? ty).map (·.size) = some cells.size) (h1 : cells.all (·.oneCell') = true)
    (h : K a (w.setCells b o cells.toList)) : op.wp P a w K Q :=
  wp_store_mid ty x y ho b o cells hx hy ht hi h1 (by rw [hd]; exact h)

set_option maxRecDepth 100000 in
set_option maxHeartbeats 16000000 in
theorem linked_seq (m : Nat) (hm1 : 1 ≤ m) (T P n0 n1 ep : Nat) (hep : ep < 18446744073709551616) (root RL : List Value) (rt : List UInt8) (hrt : rt.length = 32) (hRL0 : RL = Lib.byteCells rt) (bs : List (List UInt8)) (A : Option Addr) (c : Nat) (hn : bs.length = ep) (hc : ep ≤ c) (hcm : c ≤ maxLen) (h40 : ep ≤ 40) (h3000 : ∀ b ∈ bs, b.length ≤ 3000) (w : World) (B1 B2 B3 : Nat)
    (h1 : Boxed w B1 22 (.int .u64 ep)) (h2 : Arr w B2 24 RL) (h3 : Boxed w B3 28 (.slice A ep c)) (hrows : RowsAt w n0 A bs) (hnT : n0 ≤ T) (hnP : n0 ≤ P) (hTn : T < n1) (hPn : P < n1) (hn1 : n1 ≤ w.heap.size) (h01 : n0 ≤ n1) (hTB : TBok T n1 w) :
    SeqG Fence.wide m Try.prog 72 #[.pointer (some ⟨B1, 0, none⟩), .pointer (some ⟨B2, 0, none⟩), .pointer (some ⟨B3, 0, none⟩)] encB (GT T P (w.heap.size + 2) ep rt bs) (KpT T P) (fun xs => xs.length = bs.length ∨ ∃ x ∈ xs, x.1.2 = false) (fun _ => True) w := by
  intro l J Jx W hW hWz hJ hJx hJz hY h0
  rw [← hWz] at hJz hY
  have hRL : RL.length = 32 := by rw [hRL0, Lib.byteCells_length, hrt]
  have HJ := Lib.hid hJ
  have HJz := Lib.hid hJz
  have k1 : Boxed W B1 22 (.int .u64 ep) := (hW.block _ h1.lt).trans h1
  have k2 : W.heap[B2]? = some (.cells RL.toArray 24 (0, 0)) := h2.below hW h2.lt
  have k3 : Boxed W B3 28 (.slice A ep c) := (hW.block _ h3.lt).trans h3
  have Hki := Lib.hid (show (Try.prog.info? 24).map (·.size) = some RL.length by rw [hRL]; kernel_rfl)
  have HR1 := Lib.hid (show RL.toArray.all (·.oneCell') = true by rw [hRL0]; exact dig_one _)
  have HRL0 := Lib.hid hRL0
  have HY := Lib.hid hY
  have hTl : T < w.heap.size := by omega
  have HTB := Lib.hid (hTB.below hW hTl)
  have Hrows := Lib.hid (hrows.below hW (by omega))
  have Hsz := Lib.hid (show n1 ≤ W.heap.size ∧ T < n1 ∧ P < n1 ∧ n0 ≤ n1 ∧ n0 ≤ T ∧ n0 ≤ P ∧ ep ≤ 40 from ⟨by omega, hTn, hPn, h01, hnT, hnP, h40⟩)
  have Hbl := Lib.hid (show bs.length = ep ∧ ep ≤ c ∧ c ≤ maxLen from ⟨hn, hc, hcm⟩)
  have hcm' : c ≤ 9223372036854775807 := by unfold maxLen at hcm; exact hcm
  have H3 := Lib.hid h3000
  obtain ⟨ZL, hZL⟩ : ∃ z, z = comZ := ⟨_, rfl⟩
  have HZ := Lib.hid (fun w : World => show (zeroValue 30).run Try.prog w = .ok (.agg ZL.toArray) w by rw [hZL]; exact comZero w)
  have HZl := Lib.hid (show ZL.length = 137 by rw [hZL]; rfl)
  have HZL := Lib.hid hZL
  clear hY hJ hJx hJz h1 h2 h3 hrows hTB hW hWz hRL0 hn h3000 hZL hTl hcm
  refine callsIn_of_wp Try.func72 rfl trivial ?_ rfl
  simp only [Try.ntmps72, List.size_toArray, List.length_cons, List.length_nil, Nat.reduceAdd, Nat.reduceSub, Array.replicate_succ, Array.replicate_zero, List.push_toArray, List.append_toArray, List.nil_append, List.cons_append]
  refine wpIn_seq (wpIn_wide.2 ?_)
  refine wp_region_held_drew (S := fun w' => Boxed w' B1 22 (.int .u64 ep) ∧ Arr w' B2 24 RL) (by kernel_rfl) ⟨k1, k2⟩ (fun hHeld => ?_)
  refine anyH_take (i := 0) (v := .int .u64 ep) (some 12) rfl rfl (by kernel_rfl) (by kernel_rfl) (by kernel_rfl) (fun _ _ _ h => h) (Or.inl ⟨by rfl, fun w' hw => by (have hc := hw.1.cell; go_simp)⟩) (by assumption) ?_
  simp only [Act.put, List.setIfInBounds_toArray, List.set_cons_zero, List.set_cons_succ]
  refine anyH_take (i := 1) (v := .agg RL.toArray) (some 13) rfl rfl (by kernel_rfl) (by kernel_rfl) (by kernel_rfl) (fun _ _ _ h => h) (yieldsIf_load_mid (by rfl) 24 (.tmp 2) rfl B2 0 rfl RL _ (fun w' h => Arr.range h.2) Try.underlying24 rfl Hki.out) (by assumption) ?_
  simp only [Act.put, List.setIfInBounds_toArray, List.set_cons_zero, List.set_cons_succ]
  refine wpAnyH_ready (rs := [2]) (by kernel_rfl) (by simp) ?_
  refine AllReadyH.cons rfl (fun K hK => ?_) AllReadyH.nil
  go_simp
  change K _ ((W.alloc (.cells (Lib.byteCells zeros).toArray 24)).drew)
  obtain ⟨V, hV⟩ : ∃ z, z = (W.alloc (.cells (Lib.byteCells zeros).toArray 24)).drew := ⟨_, rfl⟩
  have hN0 : Arr V W.heap.size 24 (Lib.byteCells zeros) := by rw [hV]; exact Arr.new W _ _
  have hbV : Below W.heap.size W V := by rw [hV]; exact ((Below.refl _ W).alloc (Nat.le_refl _) _).drew
  rw [← hV]
  refine hK.out _ _ ⟨(hbV.block _ k1.lt).trans k1, (hbV.block _ (Arr.lt (w := W) k2)).trans k2⟩ (fun hHeldx => ?_)
  clear hK K hHeld hV
  try simp only [Act.put, List.setIfInBounds_toArray, List.set_cons_zero, List.set_cons_succ]
  refine anyH_take (i := 3) (v := .int .u64 ep) (some 5) rfl rfl (by kernel_rfl) (by kernel_rfl) (by kernel_rfl) (fun _ _ _ h => h) (Or.inl ⟨by rfl, fun w' hw => by rfl⟩) (by assumption) ?_
  simp only [Act.put, List.setIfInBounds_toArray, List.set_cons_zero, List.set_cons_succ]
  refine wpAnyH_ready (rs := [4]) (by kernel_rfl) (by simp) ?_
  refine AllReadyH.cons rfl (fun K hK => ?_) AllReadyH.nil
  rw [if_pos (by rfl)]
  obtain ⟨hth, hN, hO⟩ := put_arrA hN0 (show (Lib.byteCells zeros).length = RL.length by rw [hRL]; rfl)
  refine wp_store_mid 24 _ _ rfl W.heap.size 0 RL.toArray rfl rfl (by rw [List.size_toArray]; exact hth) (by rw [List.size_toArray]; exact Hki.out) HR1.out ?_
  obtain ⟨V2, hV2⟩ : ∃ z, z = V.setCells W.heap.size 0 RL := ⟨_, rfl⟩
  rw [show RL.toArray.toList = RL from rfl, ← hV2]
  rw [← hV2] at hN hO
  have hbW : Below W.heap.size W V2 := hbV.trans (hO.below hbV.size (by rintro j rfl; exact Nat.le_refl _))
  have q1 : Boxed V2 B1 22 (.int .u64 ep) := (hbW.block _ k1.lt).trans k1
  have q2 : Arr V2 B2 24 RL := (hbW.block _ (Arr.lt (w := W) k2)).trans k2
  have q3 := (hbW.block _ k3.lt).trans k3
  refine hK.out _ _ ⟨q1, q2⟩ (fun hHeldy => ?_)
  clear hK K hHeldx hHeldy hV2 hO hth hN0 hbV q1 q2
  try simp only [Act.put, List.setIfInBounds_toArray, List.set_cons_zero, List.set_cons_succ]
  refine wpAnyH_done (by kernel_rfl) ?_ _
  have hc3 := Boxed.cell q3
  have hJ2 : J [] V2 := abides_belowA HJ.out h0 hbW
  have hTB2 : TBok T n1 V2 := HTB.out.below hbW (by have := Hsz.out; omega)
  have hoT2 : ownT T V2 ≠ some W.heap.size := fun e => by
    rw [ownT_below hbW (by have := Hsz.out; omega)] at e
    have := HTB.out _ e
    omega
  have hrw2 := Hrows.out.below hbW (by have := Hsz.out; omega)
  have hs2 : W.heap.size < V2.heap.size := hN.lt
  gi_wp2
  gi_loopw [5, 16] (fun e i wr => ∃ (pre : List CxB), e = .int .u64 ((ep - pre.length : Nat) : Int) ∧ i = .int .i64 (pre.length : Nat) ∧ pre.length ≤ ep ∧ (∀ x ∈ pre, x.1.2 = true) ∧ J pre wr ∧ TBok T n1 wr ∧ ownT T wr ≠ some W.heap.size ∧ Arr wr W.heap.size 24 (Lib.byteCells (endD rt (coms pre))) ∧ RowsAt wr n0 A bs ∧ W.heap.size < wr.heap.size ∧ (endD rt (coms pre)).length = 32) (fun _ i _ => ep - (intOf i).toNat)
  case atStart => exact ⟨[], by simp, by simp, Nat.zero_le _, (fun x hx => by cases hx), hJ2, hTB2, hoT2, by rw [show endD rt (coms []) = rt from rfl, ← HRL0.out]; exact hN, hrw2, hs2, hrt⟩
  case round =>
    clear hJ2 hTB2 hoT2 hrw2 hs2 hN hbW q3 hc3 k1 k2 k3 h0 HTB Hrows
    obtain ⟨pre, rfl, rfl, hpl, hall, hJr, hTBr, hoTr, hgr, hrwr, hszr, hd32⟩ := hrel
    obtain ⟨k, hk⟩ : ∃ k, pre.length = k := ⟨_, rfl⟩
    rw [hk] at hpl ⊢
    by_cases hlt : k < ep
    · have hq1 : decide ((k : Int) < (ep : Int)) = true := decide_eq_true (by omega)
      have hq2 : decide (k < ep) = true := decide_eq_true hlt
      obtain ⟨rb, ro, rfl, hrb, hrc⟩ := hrwr (by have := Hbl.out; omega)
      obtain ⟨b, hb⟩ : ∃ b, bs.getD k [] = b := ⟨_, rfl⟩
      obtain ⟨Ab, cb, hcell, hbc, hbm, hbs⟩ := hrc k (by have := Hbl.out; omega)
      rw [hb] at hcell hbc hbs
      obtain ⟨bl, hbl⟩ : ∃ z, b.length = z := ⟨_, rfl⟩
      rw [hbl] at hcell hbc
      have hb3 : bl ≤ 3000 := by
        rw [← hbl, ← hb]
        have hkl : k < bs.length := by have := Hbl.out; omega
        have : bs.getD k [] = bs[k] := by simp [List.getD, hkl]
        rw [this]; exact H3.out _ (List.getElem_mem hkl)
      have Hb := Lib.hid hb
      have Hbl2 := Lib.hid hbl
      have Hbs := Lib.hid hbs
      refine wpIn_wide.2 ?_
      go_wp2_with fail
      refine Calls.mono (dec_low Ab bl cb b hbl hbc hbm wr (hbs.more (by have := Hsz.out; omega))) ?_
      rintro e w1 ⟨hb1, hres⟩
      obtain ⟨x, er, rfl, hxw, hx⟩ : ∃ x er, e = .returned (.tuple #[.agg (comC x).toArray, .int .i64 er]) ∧ CxW x ∧ ((er = 0 ∧ IsDec b x.c ∧ Good b ∧ EvIn w1 (fun k => wr.heap.size ≤ k ∧ k < w1.heap.size) x.Ae x.c.evs) ∨ (er = 3 ∧ ¬ Good b)) := by
        rcases hres with ⟨x, he, hok, hev, hd, hg⟩ | ⟨he, hg⟩
        · exact ⟨x, 0, he, hok.w, .inl ⟨rfl, hd, hg, hev⟩⟩
        · exact ⟨zCx, 3, by rw [he, comZ_zCx], zCx_w, .inr ⟨rfl, hg⟩⟩
      obtain ⟨XL, hXL⟩ : ∃ z, z = comC x := ⟨_, rfl⟩
      rw [← hXL]
      have hXl : XL.length = 137 := by rw [hXL]; exact hxw.length
      have HXi := Lib.hid (show (Try.prog.info? 30).map (·.size) = some XL.toArray.size by rw [List.size_toArray, hXl]; exact comSize)
      have HXs := Lib.hid (show ZL.toArray.size = XL.toArray.size by rw [List.size_toArray, List.size_toArray, hXl, HZl.out])
      have HX1 := Lib.hid (show XL.toArray.all (·.oneCell') = true by rw [hXL]; exact all_oneC (comC_one _))
      obtain ⟨x0, _, _, _, _, _, _⟩ := comV_parts (ep := x.c.ep) (R1 := rC x.c.r1) (R2 := rC x.c.r2) (R3 := rC x.c.r3) (SL := Lib.byteCells x.c.st) (bv := .slice x.Ab x.c.bins.length x.cb) (ev := .slice x.Ae x.c.evs.length x.ce) (rC_length hxw.r1) (rC_length hxw.r2) (rC_length hxw.r3) (by rw [Lib.byteCells_length, hxw.st])
      have HX0 := Lib.hid (show XL[0]? = some (.int .u64 (x.c.ep : Nat)) by rw [hXL]; exact x0)
      have HXL := Lib.hid hXL
      have Hxw := Lib.hid hxw
      have Hx := Lib.hid hx
      obtain ⟨w2, hw2⟩ : ∃ z, z = (w1.alloc (.cells ZL.toArray 30)).setRow w1.heap.size XL.toArray := ⟨_, rfl⟩
      obtain ⟨hX2, hb2⟩ := alloc_row w1 30 ZL.toArray XL
      rw [← hw2] at hX2 hb2
      obtain ⟨g9, hg9⟩ : ∃ z, z = w1.heap.size := ⟨_, rfl⟩
      rw [← hg9] at hX2
      have HW2 := Lib.hid hw2
      have Hg9 := Lib.hid hg9
      have Hb1 := Lib.hid hb1
      have Hb12 := Lib.hid hb2
      have Hb2 := Lib.hid (show Below wr.heap.size wr w2 from hb1.trans (hb2.mono hb1.size))
      have hgr2 : Arr w2 W.heap.size 24 (Lib.byteCells (endD rt (coms pre))) := hgr.up Hb2.out
      obtain ⟨GL, hGL⟩ : ∃ z, z = Lib.byteCells (endD rt (coms pre)) := ⟨_, rfl⟩
      rw [← hGL] at hgr2
      have HGi := Lib.hid (show (Try.prog.info? 24).map (·.size) = some GL.length by rw [hGL, Lib.byteCells_length, hd32]; exact digInfo)
      have HGL := Lib.hid hGL
      obtain ⟨ek, hek⟩ : ∃ z, z = ep - k := ⟨_, rfl⟩
      have Hek := Lib.hid hek
      obtain ⟨xe, hxe⟩ : ∃ z, z = x.c.ep := ⟨_, rfl⟩
      rw [← hxe] at HX0
      have Hxe := Lib.hid hxe
      have hbl' := hbl
      have hbm' := hbm
      clear hres hx hXL hXl hxw hb1 hb2 hw2 hg9 hGL hgr hrc hrb x0
      rw [← hek]
      clear hek hxe hbl hb
      go_upto_region 5 with (first | ((with_reducible refine wpList_atA 9 (by rfl) ?_); refine wpList_allocZA rfl 30 rfl ZL.toArray (HZ.out _) ?_) | (change wpList _ _ _ _ _ (w1.alloc (.cells ZL.toArray 30)); refine wpList_store_row rfl _ _ _ rfl w1.heap.size XL.toArray rfl rfl 30 ZL.toArray (heap_alloc_new w1 _) HXi.out HXs.out HX1.out ?_; rw [← HW2.out]))
      rw [← Hg9.out]
      rename_i K5 hK5
      have hg9s : wr.heap.size ≤ g9 := by have := Hb1.out.size; have := Hg9.out; omega
      by_cases he3 : er = 3
      · subst he3
        have hno := Lib.hid (show ∀ c, ¬ LinkP ek (endD rt (coms pre)) b c from fun c h => by
          rcases Hx.out with ⟨h3, _⟩ | ⟨_, h3⟩
          · cases h3
          · exact h3 h.2.1)
        refine wp_region_held_drew (S := fun w' => Arr w' g9 30 XL ∧ Arr w' W.heap.size 24 GL) (by kernel_rfl) ⟨hX2, hgr2⟩ (fun hHeld => ?_)
        refine anyH_take (i := 0) (v := .int .i64 3) (some 25) rfl rfl (by kernel_rfl) (by kernel_rfl) (by kernel_rfl) (fun _ _ _ h => h) (Or.inl ⟨by rfl, fun w' hw => by rfl⟩) (by assumption) ?_
        simp only [Act.put, List.setIfInBounds_toArray, List.set_cons_zero, List.set_cons_succ]
        refine anyH_take (i := 1) (v := .bool false) (some 26) rfl rfl (by kernel_rfl) (by kernel_rfl) (by kernel_rfl) (fun _ _ _ h => h) (Or.inl ⟨by rfl, fun w' hw => by go_simp⟩) (by assumption) ?_
        simp only [Act.put, List.setIfInBounds_toArray, List.set_cons_zero, List.set_cons_succ]
        refine anyH_take (i := 2) (v := .bool false) (some 27) rfl rfl (by kernel_rfl) (by kernel_rfl) (by kernel_rfl) (fun _ _ _ h => h) (Or.inl ⟨by rfl, fun w' hw => by rfl⟩) (by assumption) ?_
        simp only [Act.put, List.setIfInBounds_toArray, List.set_cons_zero, List.set_cons_succ]
        refine anyH_take (i := 3) (v := undef) (some 28) rfl rfl (by kernel_rfl) (by kernel_rfl) (by kernel_rfl) (fun _ _ _ h => h) (Or.inr ⟨by rfl, rfl⟩) (by assumption) ?_
        simp only [Act.put, List.setIfInBounds_toArray, List.set_cons_zero, List.set_cons_succ]
        refine anyH_take (i := 4) (v := undef) (some 29) rfl rfl (by kernel_rfl) (by kernel_rfl) (by kernel_rfl) (fun _ _ _ h => h) (Or.inr ⟨by rfl, rfl⟩) (by assumption) ?_
        simp only [Act.put, List.setIfInBounds_toArray, List.set_cons_zero, List.set_cons_succ]
        refine anyH_take (i := 5) (v := undef) (some 30) rfl rfl (by kernel_rfl) (by kernel_rfl) (by kernel_rfl) (fun _ _ _ h => h) (Or.inr ⟨by rfl, rfl⟩) (by assumption) ?_
        simp only [Act.put, List.setIfInBounds_toArray, List.set_cons_zero, List.set_cons_succ]
        refine anyH_take (i := 6) (v := undef) (some 31) rfl rfl (by kernel_rfl) (by kernel_rfl) (by kernel_rfl) (fun _ _ _ h => h) (Or.inr ⟨by rfl, rfl⟩) (by assumption) ?_
        simp only [Act.put, List.setIfInBounds_toArray, List.set_cons_zero, List.set_cons_succ]
        refine anyH_take (i := 7) (v := .bool false) (some 32) rfl rfl (by kernel_rfl) (by kernel_rfl) (by kernel_rfl) (fun _ _ _ h => h) (Or.inl ⟨by rfl, fun w' hw => by go_simp⟩) (by assumption) ?_
        simp only [Act.put, List.setIfInBounds_toArray, List.set_cons_zero, List.set_cons_succ]
        refine anyH_take (i := 8) (v := .bool false) (some 33) rfl rfl (by kernel_rfl) (by kernel_rfl) (by kernel_rfl) (fun _ _ _ h => h) (Or.inl ⟨by rfl, fun w' hw => by rfl⟩) (by assumption) ?_
        simp only [Act.put, List.setIfInBounds_toArray, List.set_cons_zero, List.set_cons_succ]
        refine anyH_take (i := 9) (v := undef) (some 34) rfl rfl (by kernel_rfl) (by kernel_rfl) (by kernel_rfl) (fun _ _ _ h => h) (Or.inr ⟨by rfl, rfl⟩) (by assumption) ?_
        simp only [Act.put, List.setIfInBounds_toArray, List.set_cons_zero, List.set_cons_succ]
        refine anyH_take (i := 10) (v := undef) (some 35) rfl rfl (by kernel_rfl) (by kernel_rfl) (by kernel_rfl) (fun _ _ _ h => h) (Or.inr ⟨by rfl, rfl⟩) (by assumption) ?_
        simp only [Act.put, List.setIfInBounds_toArray, List.set_cons_zero, List.set_cons_succ]
        refine anyH_take (i := 11) (v := undef) (some 36) rfl rfl (by kernel_rfl) (by kernel_rfl) (by kernel_rfl) (fun _ _ _ h => h) (Or.inr ⟨by rfl, rfl⟩) (by assumption) ?_
        simp only [Act.put, List.setIfInBounds_toArray, List.set_cons_zero, List.set_cons_succ]
        refine anyH_take (i := 12) (v := undef) (some 37) rfl rfl (by kernel_rfl) (by kernel_rfl) (by kernel_rfl) (fun _ _ _ h => h) (Or.inr ⟨by rfl, rfl⟩) (by assumption) ?_
        simp only [Act.put, List.setIfInBounds_toArray, List.set_cons_zero, List.set_cons_succ]
        refine anyH_take (i := 13) (v := .bool false) (some 38) rfl rfl (by kernel_rfl) (by kernel_rfl) (by kernel_rfl) (fun _ _ _ h => h) (Or.inl ⟨by rfl, fun w' hw => by go_simp⟩) (by assumption) ?_
        simp only [Act.put, List.setIfInBounds_toArray, List.set_cons_zero, List.set_cons_succ]
        refine anyH_take (i := 14) (v := .bool false) (some 11) rfl rfl (by kernel_rfl) (by kernel_rfl) (by kernel_rfl) (fun _ _ _ h => h) (Or.inl ⟨by rfl, fun w' hw => by rfl⟩) (by assumption) ?_
        simp only [Act.put, List.setIfInBounds_toArray, List.set_cons_zero, List.set_cons_succ]
        refine wpAnyH_done (by kernel_rfl) ?_ _
        obtain ⟨w5, hw5⟩ : ∃ z, z = w2.drew := ⟨_, rfl⟩
        have hX5 : Arr w5 g9 30 XL := by rw [hw5]; exact hX2
        have hG5 : Arr w5 W.heap.size 24 GL := by rw [hw5]; exact hgr2
        have Hb5 := Lib.hid (show Below wr.heap.size wr w5 by rw [hw5]; exact Hb2.out.drew)
        refine hK5 _ _ ?_
        change Code.wp _ _ _ _ w2.drew
        rw [← hw5]
        clear hw5 hHeld
        have hTwr : T < wr.heap.size := by have := Hsz.out; omega
        have hJ5 : J pre w5 := abides_belowA HJ.out hJr Hb5.out
        have hTB5 := hTBr.below Hb5.out hTwr
        have hoT5 : ownT T w5 = ownT T wr := ownT_below Hb5.out hTwr
        have hrw5 := hrwr.below Hb5.out (show n0 ≤ wr.heap.size by have := Hsz.out; omega)
        have hGT : GT T P W.heap.size ep rt bs pre ⟨(x, false), Hxw.out⟩ w5 := by
          refine ⟨⟨by have := Hbl.out; omega, by have := Hb5.out.size; omega⟩, ?g1, ?g2⟩
          case g1 =>
            exact fun h => by cases h
          case g2 =>
            intro _ c; rw [hk, Hb.out, ← Hek.out]; exact hno.out c
        obtain ⟨fn, tmps, assign, body, hy0, hR⟩ := HY.out pre ⟨(x, false), Hxw.out⟩ w5 hJ5 hGT
        have hy : (Instr.yield l #[.agg XL.toArray, .bool false]).run Try.prog w5 = .ok (.round l fn tmps assign body) w5 := by rw [HXL.out]; exact hy0
        have hX5' : w5.heap[g9]? = some (.cells XL.toArray 30 (0, 0)) := hX5
        clear hy0 hGT hJ5
        refine (wpIn_wide (n := m)).1 ?_
        gi_wp2_with (refine wpListIn_load_rowA rfl _ _ rfl g9 rfl 30 XL.toArray (0, 0) _ hX5' Try.underlying30 rfl HXi.out ?_)
        refine hR.mono ?_
        rintro e W3 (⟨rfl, hJ3, hk3⟩ | ⟨rfl, hJx3⟩)
        · gi_wp2
          refine bodyPost_ret (results_none rfl _ _ _) rfl ?_
          exact ⟨⟨_, rfl⟩, .inl ⟨_, .inr ⟨_, List.mem_append_right _ (List.mem_singleton.2 rfl), rfl⟩, hJ3⟩⟩
        · gi_wp2
          refine bodyPost_ret (results_none rfl _ _ _) rfl ?_
          exact ⟨⟨_, rfl⟩, .inr ⟨_, trivial, hJx3⟩⟩
      · have he0 : er = 0 := by rcases Hx.out with ⟨h, _⟩ | ⟨h, _⟩; exact h; exact absurd h he3
        subst he0
        obtain ⟨hdec, hgood, hev⟩ : IsDec b x.c ∧ Good b ∧ EvIn w1 (fun k => wr.heap.size ≤ k ∧ k < w1.heap.size) x.Ae x.c.evs := by
          rcases Hx.out with ⟨_, h⟩ | ⟨h, _⟩
          · exact h
          · cases h
        have Hdec := Lib.hid hdec
        have Hgood := Lib.hid hgood
        have Hev := Lib.hid hev
        clear hdec hgood hev he3 Hx
        by_cases hep1 : xe = ek
        · have q1 : decide ((xe : Int) = (ek : Int)) = true := decide_eq_true (by omega)
          have q2 : ((xe : Int) == (ek : Int)) = true := by rw [hep1]; simp
          have q3 : decide (xe = ek) = true := decide_eq_true hep1
          have q4 : (xe == ek) = true := by rw [hep1]; simp
          obtain ⟨SL, hSL⟩ : ∃ z, z = Lib.byteCells (blobDig b) := ⟨_, rfl⟩
          have Hcd := Lib.hid (fun (w' : World) (h : Below wr.heap.size wr w') => cdig_any b SL Ab bl cb w' hSL Hbl2.out (by omega) hbc hbm ((Hbs.out.below h (by have := Hsz.out; omega)).more (by have := Hsz.out; have := h.size; omega)))
          obtain ⟨r, hr⟩ : ∃ r, decide (blobDig b = endD rt (coms pre)) = r := ⟨_, rfl⟩
          have Hcmp := Lib.hid (fun w : World => show (Op.equalIn 10000 24 (.agg SL.toArray) (.agg GL.toArray)).run Try.prog w = .ok r w by
            rw [← hr]; exact eqv_at Try.underlying24 (blobDig b) (endD rt (coms pre)) (blobDig_length b) hd32 SL GL hSL HGL.out w)
          have Hr := Lib.hid hr
          clear hSL hr
          refine wp_region_held_drew (S := fun w' => Arr w' g9 30 XL ∧ Arr w' W.heap.size 24 GL) (by kernel_rfl) ⟨hX2, hgr2⟩ (fun hHeld => ?_)
          refine anyH_take (i := 0) (v := .int .i64 0) (some 25) rfl rfl (by kernel_rfl) (by kernel_rfl) (by kernel_rfl) (fun _ _ _ h => h) (Or.inl ⟨by rfl, fun w' hw => by rfl⟩) (by assumption) ?_
          simp only [Act.put, List.setIfInBounds_toArray, List.set_cons_zero, List.set_cons_succ]
          refine anyH_take (i := 1) (v := .bool true) (some 26) rfl rfl (by kernel_rfl) (by kernel_rfl) (by kernel_rfl) (fun _ _ _ h => h) (Or.inl ⟨by rfl, fun w' hw => by go_simp⟩) (by assumption) ?_
          simp only [Act.put, List.setIfInBounds_toArray, List.set_cons_zero, List.set_cons_succ]
          refine anyH_take (i := 2) (v := .bool true) (some 27) rfl rfl (by kernel_rfl) (by kernel_rfl) (by kernel_rfl) (fun _ _ _ h => h) (Or.inl ⟨by rfl, fun w' hw => by rfl⟩) (by assumption) ?_
          simp only [Act.put, List.setIfInBounds_toArray, List.set_cons_zero, List.set_cons_succ]
          refine anyH_take (i := 3) (v := .pointer (some ⟨g9, 0, none⟩)) (some 28) rfl rfl (by kernel_rfl) (by kernel_rfl) (by kernel_rfl) (fun _ _ _ h => h) (Or.inl ⟨by rfl, fun w' hw => by go_simp⟩) (by assumption) ?_
          simp only [Act.put, List.setIfInBounds_toArray, List.set_cons_zero, List.set_cons_succ]
          refine anyH_take (i := 4) (v := .int .u64 xe) (some 29) rfl rfl (by kernel_rfl) (by kernel_rfl) (by kernel_rfl) (fun _ _ _ h => h) (Or.inl ⟨by rfl, fun w' hw => by (have hc := (hw.1.cell 0).trans HX0.out; go_simp)⟩) (by assumption) ?_
          simp only [Act.put, List.setIfInBounds_toArray, List.set_cons_zero, List.set_cons_succ]
          refine anyH_take (i := 5) (v := .int .u64 ek) (some 30) rfl rfl (by kernel_rfl) (by kernel_rfl) (by kernel_rfl) (fun _ _ _ h => h) (Or.inl ⟨by rfl, fun w' hw => by rfl⟩) (by assumption) ?_
          simp only [Act.put, List.setIfInBounds_toArray, List.set_cons_zero, List.set_cons_succ]
          refine anyH_take (i := 6) (v := .bool true) (some 31) rfl rfl (by kernel_rfl) (by kernel_rfl) (by kernel_rfl) (fun _ _ _ h => h) (Or.inl ⟨by rfl, fun w' hw => by go_simp⟩) (by assumption) ?_
          simp only [Act.put, List.setIfInBounds_toArray, List.set_cons_zero, List.set_cons_succ]
          refine anyH_take (i := 7) (v := .bool true) (some 32) rfl rfl (by kernel_rfl) (by kernel_rfl) (by kernel_rfl) (fun _ _ _ h => h) (Or.inl ⟨by rfl, fun w' hw => by go_simp⟩) (by assumption) ?_
          simp only [Act.put, List.setIfInBounds_toArray, List.set_cons_zero, List.set_cons_succ]
          refine anyH_take (i := 8) (v := .bool true) (some 33) rfl rfl (by kernel_rfl) (by kernel_rfl) (by kernel_rfl) (fun _ _ _ h => h) (Or.inl ⟨by rfl, fun w' hw => by rfl⟩) (by assumption) ?_
          simp only [Act.put, List.setIfInBounds_toArray, List.set_cons_zero, List.set_cons_succ]
          refine anyH_take (i := 9) (v := .slice Ab bl cb) (some 34) rfl rfl (by kernel_rfl) (by kernel_rfl) (by kernel_rfl) (fun _ _ _ h => h) (Or.inl ⟨by rfl, fun w' hw => by rfl⟩) (by assumption) ?_
          simp only [Act.put, List.setIfInBounds_toArray, List.set_cons_zero, List.set_cons_succ]
          refine anyH_take (i := 11) (v := .agg GL.toArray) (some 36) rfl rfl (by kernel_rfl) (by kernel_rfl) (by kernel_rfl) (fun _ _ _ h => h) (yieldsIf_load_mid (by rfl) 24 (.tmp 6) rfl W.heap.size 0 rfl GL _ (fun w' h => Arr.range h.2) Try.underlying24 rfl HGi.out) (by assumption) ?_
          simp only [Act.put, List.setIfInBounds_toArray, List.set_cons_zero, List.set_cons_succ]
          refine wpAnyH_ready (rs := [10]) (by kernel_rfl) (by simp) ?_
          refine AllReadyH.cons rfl (fun K hK => ?_) AllReadyH.nil
          go_simp
          go_at_call 15
          refine Calls.mono (Hcd.out _ (Below.drew Hb2.out)) ?_
          rintro e w5 ⟨rfl, hb5⟩
          have HB25 := Lib.hid (show Below w2.heap.size w2 w5 from ⟨hb5.os, hb5.tape, hb5.output, hb5.size, hb5.block⟩)
          have Hb5 := Lib.hid (show Below wr.heap.size wr w5 from (Below.drew Hb2.out).trans (hb5.mono (Below.drew Hb2.out).size))
          have hX5 : Arr w5 g9 30 XL := Arr.up (show Arr w2.drew g9 30 XL from hX2) hb5
          have hG5 : Arr w5 W.heap.size 24 GL := Arr.up (show Arr w2.drew W.heap.size 24 GL from hgr2) hb5
          go_wp2_with fail
          refine hK.out _ _ ⟨hX5, hG5⟩ (fun hHeldx => ?_)
          clear hK K
          try simp only [Act.put, List.setIfInBounds_toArray, List.set_cons_zero, List.set_cons_succ]
          refine anyH_take (i := 12) (v := .bool r) (some 37) rfl rfl (by kernel_rfl) (by kernel_rfl) (by kernel_rfl) (fun _ _ _ h => h) (Or.inl ⟨by rfl, fun w' hw => by (have hc := Hcmp.out; have hg := gt32; go_simp)⟩) (by assumption) ?_
          simp only [Act.put, List.setIfInBounds_toArray, List.set_cons_zero, List.set_cons_succ]
          refine anyH_take (i := 13) (v := .bool r) (some 38) rfl rfl (by kernel_rfl) (by kernel_rfl) (by kernel_rfl) (fun _ _ _ h => h) (Or.inl ⟨by rfl, fun w' hw => by go_simp⟩) (by assumption) ?_
          simp only [Act.put, List.setIfInBounds_toArray, List.set_cons_zero, List.set_cons_succ]
          refine anyH_take (i := 14) (v := .bool r) (some 11) rfl rfl (by kernel_rfl) (by kernel_rfl) (by kernel_rfl) (fun _ _ _ h => h) (Or.inl ⟨by rfl, fun w' hw => by rfl⟩) (by assumption) ?_
          simp only [Act.put, List.setIfInBounds_toArray, List.set_cons_zero, List.set_cons_succ]
          refine wpAnyH_done (by kernel_rfl) ?_ _
          refine hK5 _ _ ?_
          clear hHeld hHeldx hb5
          clear q1 q2 q3 q4
          cases r with
          | false =>
            have hno := Lib.hid (show ∀ c, ¬ LinkP ek (endD rt (coms pre)) b c from fun c h => by have h2 := Hr.out; rw [decide_eq_false_iff_not] at h2; exact h2 h.2.2.2)
            have hTwr : T < wr.heap.size := by have := Hsz.out; omega
            have hJ5 : J pre w5 := abides_belowA HJ.out hJr Hb5.out
            have hTB5 := hTBr.below Hb5.out hTwr
            have hoT5 : ownT T w5 = ownT T wr := ownT_below Hb5.out hTwr
            have hrw5 := hrwr.below Hb5.out (show n0 ≤ wr.heap.size by have := Hsz.out; omega)
            have hGT : GT T P W.heap.size ep rt bs pre ⟨(x, false), Hxw.out⟩ w5 := by
              refine ⟨⟨by have := Hbl.out; omega, by have := Hb5.out.size; omega⟩, ?g1, ?g2⟩
              case g1 =>
                exact fun h => by cases h
              case g2 =>
                intro _ c; rw [hk, Hb.out, ← Hek.out]; exact hno.out c
            obtain ⟨fn, tmps, assign, body, hy0, hR⟩ := HY.out pre ⟨(x, false), Hxw.out⟩ w5 hJ5 hGT
            have hy : (Instr.yield l #[.agg XL.toArray, .bool false]).run Try.prog w5 = .ok (.round l fn tmps assign body) w5 := by rw [HXL.out]; exact hy0
            have hX5' : w5.heap[g9]? = some (.cells XL.toArray 30 (0, 0)) := hX5
            clear hy0 hGT hJ5
            refine (wpIn_wide (n := m)).1 ?_
            gi_wp2_with (refine wpListIn_load_rowA rfl _ _ rfl g9 rfl 30 XL.toArray (0, 0) _ hX5' Try.underlying30 rfl HXi.out ?_)
            refine hR.mono ?_
            rintro e W3 (⟨rfl, hJ3, hk3⟩ | ⟨rfl, hJx3⟩)
            · gi_wp2
              refine bodyPost_ret (results_none rfl _ _ _) rfl ?_
              exact ⟨⟨_, rfl⟩, .inl ⟨_, .inr ⟨_, List.mem_append_right _ (List.mem_singleton.2 rfl), rfl⟩, hJ3⟩⟩
            · gi_wp2
              refine bodyPost_ret (results_none rfl _ _ _) rfl ?_
              exact ⟨⟨_, rfl⟩, .inr ⟨_, trivial, hJx3⟩⟩
          | true =>
            have hyes := Lib.hid (show LinkP ek (endD rt (coms pre)) b x.c from ⟨Hdec.out, Hgood.out, by rw [← Hxe.out]; exact hep1, of_decide_eq_true Hr.out⟩)
            have hTwr : T < wr.heap.size := by have := Hsz.out; omega
            have hJ5 : J pre w5 := abides_belowA HJ.out hJr Hb5.out
            have hTB5 := hTBr.below Hb5.out hTwr
            have hoT5 : ownT T w5 = ownT T wr := ownT_below Hb5.out hTwr
            have hrw5 := hrwr.below Hb5.out (show n0 ≤ wr.heap.size by have := Hsz.out; omega)
            have hGT : GT T P W.heap.size ep rt bs pre ⟨(x, true), Hxw.out⟩ w5 := by
              refine ⟨⟨by have := Hbl.out; omega, by have := Hb5.out.size; omega⟩, ?g1, ?g2⟩
              case g1 =>
                intro _
                refine ⟨by rw [hk, Hb.out, ← Hek.out]; exact hyes.out, ?_⟩
                have hsz5 := Hb5.out.size
                have hE5 : EvIn w5 (fun k => wr.heap.size ≤ k ∧ k < w1.heap.size) x.Ae x.c.evs := (Hev.out.below (Hb12.out) (fun _ h => h.2)).below (show Below w2.heap.size w2 w5 from HB25.out) (fun _ h => by have := Hb12.out.size; omega)
                refine hE5.mono fun i hi => ⟨by have := Nat.le_trans Hb12.out.size HB25.out.size; omega, by have := Hsz.out; omega, by have := Hsz.out; omega, by omega, fun e => ?_⟩
                rw [hoT5] at e
                have := hTBr _ e
                omega
              case g2 =>
                exact fun h => by cases h
            obtain ⟨fn, tmps, assign, body, hy0, hR⟩ := HY.out pre ⟨(x, true), Hxw.out⟩ w5 hJ5 hGT
            have hy : (Instr.yield l #[.agg XL.toArray, .bool true]).run Try.prog w5 = .ok (.round l fn tmps assign body) w5 := by rw [HXL.out]; exact hy0
            have hX5' : w5.heap[g9]? = some (.cells XL.toArray 30 (0, 0)) := hX5
            clear hy0 hGT hJ5
            refine (wpIn_wide (n := m)).1 ?_
            gi_wp2_with (refine wpListIn_load_rowA rfl _ _ rfl g9 rfl 30 XL.toArray (0, 0) _ hX5' Try.underlying30 rfl HXi.out ?_)
            refine hR.mono ?_
            rintro e W3 (⟨rfl, hJ3, hk3⟩ | ⟨rfl, hJx3⟩)
            · have ho9 : ownT T w5 ≠ some g9 := fun e => by
                rw [hoT5] at e
                have := hTBr _ e
                omega
              have hoz : ownT T w5 ≠ some W.heap.size := by rw [hoT5]; exact hoTr
              have hX3 := hk3.arr hX5 (by have := Hsz.out; omega) (by have := Hsz.out; omega) ho9
              have hG3 := hk3.arr hG5 (by have := Hsz.out; omega) (by have := Hsz.out; omega) hoz
              have hTB3 : TBok T n1 W3 := hTB5.kp hk3 (by have := Hsz.out; have := Hb5.out.size; omega)
              have hsz3 := hk3.size
              have hsz5 := Hb5.out.size
              have hoT3 : ownT T W3 ≠ some W.heap.size := fun e => by
                rcases hk3.own with h | ⟨i, h, h1, h2⟩
                · exact hoz (h ▸ e)
                · rw [h] at e
                  injection e with e
                  omega
              have hrw3 := hk3.rows hrw5 (by have := Hsz.out; omega) (by have := Hsz.out; omega) (fun i hi => by have := hTB5 i hi; have := Hsz.out; omega)
              obtain ⟨DL, hDL⟩ : ∃ z, z = Lib.byteCells x.c.r1.d := ⟨_, rfl⟩
              have hDl : DL.length = 32 := by rw [hDL, Lib.byteCells_length]; exact Hxw.out.r1.d
              have Hr1 := Lib.hid (fun (w' : World) (h : Arr w' g9 30 XL) => show w'.rangeAt g9 1 DL from fun j v hj => by
                rw [HXL.out] at h
                have h2 := (Arr.com h (rC_length Hxw.out.r1) (rC_length Hxw.out.r2) (rC_length Hxw.out.r3) (by rw [Lib.byteCells_length, Hxw.out.st])).r1
                refine h2 j v ?_
                unfold rC refC
                rw [← hDL, List.getElem?_append_left (List.getElem?_eq_some_iff.1 hj).1]
                exact hj)
              have HDi := Lib.hid (show (Try.prog.info? 24).map (·.size) = some DL.length by rw [hDl]; exact digInfo)
              have HD1 := Lib.hid (show DL.toArray.all (·.oneCell') = true by rw [hDL]; exact dig_one _)
              have hGl : GL.length = 32 := by rw [HGL.out, Lib.byteCells_length, hd32]
              have hek1 : 1 ≤ ek := by have := Hek.out; omega
              have H64 := Lib.hid (show IntKind.u64.wrap ((ek : Int) - 1) = ((ep - (k + 1) : Nat) : Int) by rw [IntWalk.u64_in _ (by have := Hek.out; omega)]; have := Hek.out; omega)
              have hX3' : W3.heap[g9]? = some (.cells XL.toArray 30 (0, 0)) := hX3
              obtain ⟨e1, he1⟩ : ∃ z, z = ep - (k + 1) := ⟨_, rfl⟩
              rw [← he1] at H64
              have He1 := Lib.hid he1
              have HDL := Lib.hid hDL
              clear he1 hDL
              gi_wp2
              refine wpIn_wide.2 ?_
              refine wp_region_held_drew (S := fun w' => Arr w' g9 30 XL) (by kernel_rfl) hX3 (fun hHeld => ?_)
              refine anyH_take (i := 0) (v := .int .u64 ek) (some 48) rfl rfl (by kernel_rfl) (by kernel_rfl) (by kernel_rfl) (fun _ _ _ h => h) (Or.inl ⟨by rfl, fun w' hw => by rfl⟩) (by assumption) ?_
              simp only [Act.put, List.setIfInBounds_toArray, List.set_cons_zero, List.set_cons_succ]
              refine anyH_take (i := 1) (v := .int .u64 e1) (some 49) rfl rfl (by kernel_rfl) (by kernel_rfl) (by kernel_rfl) (fun _ _ _ h => h) (Or.inl ⟨by rfl, fun w' hw => by (have hh := H64.out; go_simp)⟩) (by assumption) ?_
              simp only [Act.put, List.setIfInBounds_toArray, List.set_cons_zero, List.set_cons_succ]
              refine anyH_take (i := 2) (v := .pointer (some ⟨g9, 1, none⟩)) (some 50) rfl rfl (by kernel_rfl) (by kernel_rfl) (by kernel_rfl) (fun _ _ _ h => h) (Or.inl ⟨by rfl, fun w' hw => by go_simp⟩) (by assumption) ?_
              simp only [Act.put, List.setIfInBounds_toArray, List.set_cons_zero, List.set_cons_succ]
              refine anyH_take (i := 3) (v := .pointer (some ⟨g9, 1, none⟩)) (some 51) rfl rfl (by kernel_rfl) (by kernel_rfl) (by kernel_rfl) (fun _ _ _ h => h) (Or.inl ⟨by rfl, fun w' hw => by go_simp⟩) (by assumption) ?_
              simp only [Act.put, List.setIfInBounds_toArray, List.set_cons_zero, List.set_cons_succ]
              refine anyH_take (i := 4) (v := .agg DL.toArray) (some 52) rfl rfl (by kernel_rfl) (by kernel_rfl) (by kernel_rfl) (fun _ _ _ h => h) (yieldsIf_load_mid (by rfl) 24 (.tmp 51) rfl g9 1 rfl DL _ (fun w' h => Hr1.out _ h) Try.underlying24 rfl HDi.out) (by assumption) ?_
              simp only [Act.put, List.setIfInBounds_toArray, List.set_cons_zero, List.set_cons_succ]
              refine anyH_take (i := 5) (v := .int .u64 e1) (some 5) rfl rfl (by kernel_rfl) (by kernel_rfl) (by kernel_rfl) (fun _ _ _ h => h) (Or.inl ⟨by rfl, fun w' hw => by rfl⟩) (by assumption) ?_
              simp only [Act.put, List.setIfInBounds_toArray, List.set_cons_zero, List.set_cons_succ]
              refine wpAnyH_ready (rs := [6]) (by kernel_rfl) (by simp) ?_
              refine AllReadyH.cons rfl (fun K hK => ?_) AllReadyH.nil
              rw [if_pos (by rfl)]
              obtain ⟨hth, hN4, hO4⟩ := put_arrA (show Arr W3.drew W.heap.size 24 GL from hG3) (show GL.length = DL.length by rw [hGl, hDl])
              refine wp_store_toA rfl 24 _ _ rfl W.heap.size 0 DL.toArray rfl rfl (by rw [List.size_toArray]; exact hth) (by rw [List.size_toArray]; exact HDi.out) HD1.out ?_
              obtain ⟨V4, hV4⟩ : ∃ z, z = W3.drew.setCells W.heap.size 0 DL := ⟨_, rfl⟩
              rw [show DL.toArray.toList = DL from rfl]
              try rw [← hV4]
              rw [← hV4] at hN4 hO4
              clear hV4
              have hX4 : Arr V4 g9 30 XL := (show Arr W3.drew g9 30 XL from hX3).only hO4 (by omega)
              have hJd : J (pre ++ [⟨(x, true), Hxw.out⟩]) W3.drew := abides_belowA HJ.out hJ3 (Below.refl W3.heap.size W3).drew
              have hJ4 := HJz.out _ _ V4 hJd ⟨hO4.os, hO4.tape, hO4.output, hO4.size, fun k hk hn => hO4.block k hk (fun e => hn (by rw [e]))⟩
              have hoE4 : ownT T V4 = ownT T W3 := by unfold ownT; rw [World.cell?_of_block (a := ⟨T, 0, none⟩) (hO4.block T (by have := Hsz.out; show T < W3.heap.size; omega) (by have := Hsz.out; omega))]; rfl
              have hs4 : W3.heap.size ≤ V4.heap.size := hO4.size
              have hTB4 : TBok T n1 V4 := fun i hi => by rw [hoE4] at hi; have := hTB3 i hi; exact ⟨by omega, by omega⟩
              have hoT4 : ownT T V4 ≠ some W.heap.size := by rw [hoE4]; exact hoT3
              have hrw4 : RowsAt V4 n0 (some ⟨rb, ro, none⟩) bs := hrw3.keep fun b o hb => World.cell?_of_block (hO4.block b (by have := Hsz.out; show b < W3.heap.size; omega) (by have := Hsz.out; omega))
              refine hK.out _ _ hX4 (fun hHeldz => ?_)
              clear hK K hHeld hHeldz
              try simp only [Act.put, List.setIfInBounds_toArray, List.set_cons_zero, List.set_cons_succ]
              refine wpAnyH_done (by kernel_rfl) ?_ _
              gi_wp2
              go_wp2
              go_roundw
              case rel =>
                have hl1 : (pre ++ [(⟨(x, true), Hxw.out⟩ : CxB)]).length = k + 1 := by rw [List.length_append, hk]; rfl
                refine ⟨pre ++ [⟨(x, true), Hxw.out⟩], by rw [hl1, ← He1.out], by rw [hl1]; go_num, by rw [hl1]; omega, ?_, hJ4, hTB4, hoT4, ?_, hrw4, by omega, ?_⟩
                · intro y hy
                  rcases List.mem_append.1 hy with h | h
                  · exact hall y h
                  · rw [List.mem_singleton.1 h]
                · rw [coms_snoc, endD_snoc, ← HDL.out]; exact hN4
                · rw [coms_snoc, endD_snoc]; exact Hxw.out.r1.d
              case measure => simp [intOf]; omega
            · gi_wp2
              refine bodyPost_ret (results_none rfl _ _ _) rfl ?_
              exact ⟨⟨_, rfl⟩, .inr ⟨_, trivial, hJx3⟩⟩
        · have q1 : decide ((xe : Int) = (ek : Int)) = false := decide_eq_false (by omega)
          have q2 : ((xe : Int) == (ek : Int)) = false := by rw [beq_eq_false_iff_ne]; omega
          have q3 : decide (xe = ek) = false := decide_eq_false hep1
          have q4 : (xe == ek) = false := by rw [beq_eq_false_iff_ne]; exact hep1
          have hno := Lib.hid (show ∀ c, ¬ LinkP ek (endD rt (coms pre)) b c from fun c h => by
            have e := dec_one h.1 Hdec.out
            rw [e] at h
            exact hep1 (by rw [Hxe.out]; exact h.2.2.1))
          refine wp_region_held_drew (S := fun w' => Arr w' g9 30 XL ∧ Arr w' W.heap.size 24 GL) (by kernel_rfl) ⟨hX2, hgr2⟩ (fun hHeld => ?_)
          refine anyH_take (i := 0) (v := .int .i64 0) (some 25) rfl rfl (by kernel_rfl) (by kernel_rfl) (by kernel_rfl) (fun _ _ _ h => h) (Or.inl ⟨by rfl, fun w' hw => by rfl⟩) (by assumption) ?_
          simp only [Act.put, List.setIfInBounds_toArray, List.set_cons_zero, List.set_cons_succ]
          refine anyH_take (i := 1) (v := .bool true) (some 26) rfl rfl (by kernel_rfl) (by kernel_rfl) (by kernel_rfl) (fun _ _ _ h => h) (Or.inl ⟨by rfl, fun w' hw => by go_simp⟩) (by assumption) ?_
          simp only [Act.put, List.setIfInBounds_toArray, List.set_cons_zero, List.set_cons_succ]
          refine anyH_take (i := 2) (v := .bool true) (some 27) rfl rfl (by kernel_rfl) (by kernel_rfl) (by kernel_rfl) (fun _ _ _ h => h) (Or.inl ⟨by rfl, fun w' hw => by rfl⟩) (by assumption) ?_
          simp only [Act.put, List.setIfInBounds_toArray, List.set_cons_zero, List.set_cons_succ]
          refine anyH_take (i := 3) (v := .pointer (some ⟨g9, 0, none⟩)) (some 28) rfl rfl (by kernel_rfl) (by kernel_rfl) (by kernel_rfl) (fun _ _ _ h => h) (Or.inl ⟨by rfl, fun w' hw => by go_simp⟩) (by assumption) ?_
          simp only [Act.put, List.setIfInBounds_toArray, List.set_cons_zero, List.set_cons_succ]
          refine anyH_take (i := 4) (v := .int .u64 xe) (some 29) rfl rfl (by kernel_rfl) (by kernel_rfl) (by kernel_rfl) (fun _ _ _ h => h) (Or.inl ⟨by rfl, fun w' hw => by (have hc := (hw.1.cell 0).trans HX0.out; go_simp)⟩) (by assumption) ?_
          simp only [Act.put, List.setIfInBounds_toArray, List.set_cons_zero, List.set_cons_succ]
          refine anyH_take (i := 5) (v := .int .u64 ek) (some 30) rfl rfl (by kernel_rfl) (by kernel_rfl) (by kernel_rfl) (fun _ _ _ h => h) (Or.inl ⟨by rfl, fun w' hw => by rfl⟩) (by assumption) ?_
          simp only [Act.put, List.setIfInBounds_toArray, List.set_cons_zero, List.set_cons_succ]
          refine anyH_take (i := 6) (v := .bool false) (some 31) rfl rfl (by kernel_rfl) (by kernel_rfl) (by kernel_rfl) (fun _ _ _ h => h) (Or.inl ⟨by rfl, fun w' hw => by go_simp⟩) (by assumption) ?_
          simp only [Act.put, List.setIfInBounds_toArray, List.set_cons_zero, List.set_cons_succ]
          refine anyH_take (i := 7) (v := .bool false) (some 32) rfl rfl (by kernel_rfl) (by kernel_rfl) (by kernel_rfl) (fun _ _ _ h => h) (Or.inl ⟨by rfl, fun w' hw => by go_simp⟩) (by assumption) ?_
          simp only [Act.put, List.setIfInBounds_toArray, List.set_cons_zero, List.set_cons_succ]
          refine anyH_take (i := 8) (v := .bool false) (some 33) rfl rfl (by kernel_rfl) (by kernel_rfl) (by kernel_rfl) (fun _ _ _ h => h) (Or.inl ⟨by rfl, fun w' hw => by rfl⟩) (by assumption) ?_
          simp only [Act.put, List.setIfInBounds_toArray, List.set_cons_zero, List.set_cons_succ]
          refine anyH_take (i := 9) (v := undef) (some 34) rfl rfl (by kernel_rfl) (by kernel_rfl) (by kernel_rfl) (fun _ _ _ h => h) (Or.inr ⟨by rfl, rfl⟩) (by assumption) ?_
          simp only [Act.put, List.setIfInBounds_toArray, List.set_cons_zero, List.set_cons_succ]
          refine anyH_take (i := 10) (v := undef) (some 35) rfl rfl (by kernel_rfl) (by kernel_rfl) (by kernel_rfl) (fun _ _ _ h => h) (Or.inr ⟨by rfl, rfl⟩) (by assumption) ?_
          simp only [Act.put, List.setIfInBounds_toArray, List.set_cons_zero, List.set_cons_succ]
          refine anyH_take (i := 11) (v := undef) (some 36) rfl rfl (by kernel_rfl) (by kernel_rfl) (by kernel_rfl) (fun _ _ _ h => h) (Or.inr ⟨by rfl, rfl⟩) (by assumption) ?_
          simp only [Act.put, List.setIfInBounds_toArray, List.set_cons_zero, List.set_cons_succ]
          refine anyH_take (i := 12) (v := undef) (some 37) rfl rfl (by kernel_rfl) (by kernel_rfl) (by kernel_rfl) (fun _ _ _ h => h) (Or.inr ⟨by rfl, rfl⟩) (by assumption) ?_
          simp only [Act.put, List.setIfInBounds_toArray, List.set_cons_zero, List.set_cons_succ]
          refine anyH_take (i := 13) (v := .bool false) (some 38) rfl rfl (by kernel_rfl) (by kernel_rfl) (by kernel_rfl) (fun _ _ _ h => h) (Or.inl ⟨by rfl, fun w' hw => by go_simp⟩) (by assumption) ?_
          simp only [Act.put, List.setIfInBounds_toArray, List.set_cons_zero, List.set_cons_succ]
          refine anyH_take (i := 14) (v := .bool false) (some 11) rfl rfl (by kernel_rfl) (by kernel_rfl) (by kernel_rfl) (fun _ _ _ h => h) (Or.inl ⟨by rfl, fun w' hw => by rfl⟩) (by assumption) ?_
          simp only [Act.put, List.setIfInBounds_toArray, List.set_cons_zero, List.set_cons_succ]
          refine wpAnyH_done (by kernel_rfl) ?_ _
          obtain ⟨w5, hw5⟩ : ∃ z, z = w2.drew := ⟨_, rfl⟩
          have hX5 : Arr w5 g9 30 XL := by rw [hw5]; exact hX2
          have hG5 : Arr w5 W.heap.size 24 GL := by rw [hw5]; exact hgr2
          have Hb5 := Lib.hid (show Below wr.heap.size wr w5 by rw [hw5]; exact Hb2.out.drew)
          refine hK5 _ _ ?_
          change Code.wp _ _ _ _ w2.drew
          rw [← hw5]
          clear hw5 hHeld
          have hTwr : T < wr.heap.size := by have := Hsz.out; omega
          have hJ5 : J pre w5 := abides_belowA HJ.out hJr Hb5.out
          have hTB5 := hTBr.below Hb5.out hTwr
          have hoT5 : ownT T w5 = ownT T wr := ownT_below Hb5.out hTwr
          have hrw5 := hrwr.below Hb5.out (show n0 ≤ wr.heap.size by have := Hsz.out; omega)
          have hGT : GT T P W.heap.size ep rt bs pre ⟨(x, false), Hxw.out⟩ w5 := by
            refine ⟨⟨by have := Hbl.out; omega, by have := Hb5.out.size; omega⟩, ?g1, ?g2⟩
            case g1 =>
              exact fun h => by cases h
            case g2 =>
              intro _ c; rw [hk, Hb.out, ← Hek.out]; exact hno.out c
          obtain ⟨fn, tmps, assign, body, hy0, hR⟩ := HY.out pre ⟨(x, false), Hxw.out⟩ w5 hJ5 hGT
          have hy : (Instr.yield l #[.agg XL.toArray, .bool false]).run Try.prog w5 = .ok (.round l fn tmps assign body) w5 := by rw [HXL.out]; exact hy0
          have hX5' : w5.heap[g9]? = some (.cells XL.toArray 30 (0, 0)) := hX5
          clear hy0 hGT hJ5
          refine (wpIn_wide (n := m)).1 ?_
          gi_wp2_with (refine wpListIn_load_rowA rfl _ _ rfl g9 rfl 30 XL.toArray (0, 0) _ hX5' Try.underlying30 rfl HXi.out ?_)
          refine hR.mono ?_
          rintro e W3 (⟨rfl, hJ3, hk3⟩ | ⟨rfl, hJx3⟩)
          · gi_wp2
            refine bodyPost_ret (results_none rfl _ _ _) rfl ?_
            exact ⟨⟨_, rfl⟩, .inl ⟨_, .inr ⟨_, List.mem_append_right _ (List.mem_singleton.2 rfl), rfl⟩, hJ3⟩⟩
          · gi_wp2
            refine bodyPost_ret (results_none rfl _ _ _) rfl ?_
            exact ⟨⟨_, rfl⟩, .inr ⟨_, trivial, hJx3⟩⟩
    · obtain rfl : k = ep := by omega
      have hq1 : decide ((k : Int) < (k : Int)) = false := decide_eq_false (by omega)
      have hq2 : decide (k < k) = false := decide_eq_false (by omega)
      gi_wp2
      go_end0
      exact ⟨⟨_, rfl⟩, .inl ⟨pre, .inl (by have := Hbl.out; omega), hJr⟩⟩

end Go.Proofs.Ytlfddijmanlneaa

namespace Go.Proofs.Ytlfddijmanlneaa
open Go.RowKit
set_option linter.unusedVariables false
set_option linter.unusedSimpArgs false

theorem rowAllI : (Try.prog.info? 33).map (fun i => (i.zero, i.size, i.bytes)) = some (some (.slice none 0 0), 1, 24) := by kernel_rfl
/-- A row of rows of bytes of the call's own, the bytes below block B. -/
def LRow (w : World) (B : Nat) (v : Value) (rs : List (List UInt8)) : Prop :=
  ∃ cs : List Value, w.ownsRow B 33 1 v rs.length cs ∧ ∀ (i : Nat) (r : List UInt8), rs[i]? = some r → ∃ (A : Option Addr) (c : Nat), cs[i]? = some (.slice A r.length c) ∧ r.length ≤ c ∧ c ≤ maxLen ∧ Bs w B A r
theorem LRow.lt {w : World} {B : Nat} {v : Value} {rs : List (List UInt8)} (h : LRow w B v rs) : ∀ k, v.ownBlock = some k → B ≤ k ∧ k < w.heap.size := by
  obtain ⟨cs, h1, _⟩ := h
  exact World.ownsRow.lt h1
theorem LRow.up {w w' : World} {B : Nat} {v : Value} {rs : List (List UInt8)} (h : LRow w B v rs) (hb : Below w.heap.size w w') (hB : B ≤ w.heap.size) : LRow w' B v rs := by
  obtain ⟨cs, h1, h2⟩ := h
  refine ⟨cs, ⟨h1.1, ?_⟩, fun i r hr => ?_⟩
  · rcases h1.2 with hn | ⟨g, cap, cur, rfl, e1, hg, rest⟩
    · exact .inl hn
    · exact .inr ⟨g, cap, cur, rfl, e1, (hb.block g (Array.getElem?_eq_some_iff.1 hg).1).trans hg, rest⟩
  · obtain ⟨A, c, k1, k2, k3, k4⟩ := h2 i r hr
    exact ⟨A, c, k1, k2, k3, k4.below hb hB⟩
theorem LRow.empty (w : World) (B : Nat) (hB : B ≤ w.heap.size) : LRow (w.alloc (.cells #[] 33)) B (.slice (some ⟨w.heap.size, 0, none⟩) 0 0) [] :=
  ⟨[], ⟨rfl, .inr ⟨w.heap.size, 0, #[], rfl, hB, heap_alloc_new w _, Nat.le_refl _, by unfold maxLen; omega, rfl, rfl⟩⟩, fun i r h => by simp at h⟩
set_option maxRecDepth 100000 in
theorem run_append_l {w : World} {B : Nat} {v : Value} {rs : List (List UInt8)} (h : LRow w B v rs) (hB : B ≤ w.heap.size) (ty : TypeId) (A : Option Addr) (m c : Nat) (es : List (List UInt8)) (ecs : List Value) (he : es.length = m) (hec : ecs.length = m)
    (hcells : 0 < m → ∃ ad, A = some ad ∧ ∀ j u, ecs[j]? = some u → w.cell? (ad.add j) = some u)
    (hel : ∀ (i : Nat) (r : List UInt8), es[i]? = some r → ∃ (A : Option Addr) (c : Nat), ecs[i]? = some (.slice A r.length c) ∧ r.length ≤ c ∧ c ≤ maxLen ∧ Bs w B A r) (hlim : rs.length + m ≤ 1000000) :
    ∃ v' w', (Builtin.append_ #[28, 28] ty #[v, .slice A m c]).run Try.prog w = .ok v' w' ∧ LRow w' B v' (rs ++ es) ∧ w.grownBy w' v.ownBlock := by
  obtain ⟨i0, hi, hz0, hz1, hz2⟩ := info_parts rowAllI
  have hl := h.lt
  have h0 := h
  obtain ⟨cs, h1, h2⟩ := h
  rcases A with _ | ad
  · have hm0 : m = 0 := by
      rcases Nat.eq_zero_or_pos m with h | h
      · exact h
      · obtain ⟨_, e, _⟩ := hcells h; cases e
    subst hm0
    obtain rfl := List.eq_nil_of_length_eq_zero he
    exact ⟨v, w, run_append_nothing w B 28 ty 33 i0 1 Try.underlying28 hi v _ _ h1 c, by simpa using h0, ⟨rfl, rfl, rfl, Nat.le_refl _, fun _ _ _ => rfl⟩⟩
  · have hone : ∀ u ∈ ecs, u.oneCell' = true := fun u hu => by
      obtain ⟨j, hj, e⟩ := List.mem_iff_getElem.1 hu
      obtain ⟨A, c, k1, _⟩ := hel j (es[j]'(by omega)) (List.getElem?_eq_getElem (by omega))
      rw [List.getElem?_eq_getElem hj, e] at k1
      injection k1 with k1
      rw [k1]; rfl
    have hcl : ∀ j u, ecs[j]? = some u → w.cell? (ad.add j) = some u := fun j u hj => by
      have hjl := (List.getElem?_eq_some_iff.1 hj).1
      obtain ⟨ad', e, hc⟩ := hcells (by omega)
      injection e with e
      subst e
      exact hc j u hj
    obtain ⟨v', w', q1, q2, q3, _, _⟩ := run_append_own_at (P := Try.prog) w B 28 ty 33 i0 (.slice none 0 0) 1 24 Try.underlying28 hi hz0 hz1 hz2 rfl (by decide) v rs.length cs h1 ad m c ecs (by omega) hcl hone (by unfold maxLen; omega) (by omega) hB
    refine ⟨v', w', q1, ⟨cs ++ ecs, ?_, fun i r hr => ?_⟩, q3⟩
    · rw [List.length_append, he]; exact q2
    · have hbl : Below B w w' := (Below.refl B w).grown q3 hB (fun k hk => (hl k hk).1)
      have hcsl : cs.length = rs.length := by have := h1.1; omega
      by_cases hlt : i < rs.length
      · rw [List.getElem?_append_left hlt] at hr
        obtain ⟨A', c', k1, k2, k3, k4⟩ := h2 i r hr
        exact ⟨A', c', by rw [List.getElem?_append_left (by omega)]; exact k1, k2, k3, k4.below hbl (Nat.le_refl _)⟩
      · rw [List.getElem?_append_right (by omega)] at hr
        obtain ⟨A', c', k1, k2, k3, k4⟩ := hel _ r hr
        exact ⟨A', c', by rw [List.getElem?_append_right (by omega), hcsl]; exact k1, k2, k3, k4.below hbl (Nat.le_refl _)⟩
/-- append of a row of rows, in a region, the operation being wanted. -/
theorem wp_append_l {o : Oper} {a : Act} {w : World} {K : Act → World → Prop} {Q : Exit → Act → World → Prop} (dd : Option Tmp) (hdd : o.dst = dd) (s x : Operand) (ho : o.op = .call { callee := .builtin .append, args := #[s, x], argTypes := #[28, 28] })
    {B : Nat} {v : Value} {rs : List (List UInt8)} (h : LRow w B v rs) (hB : B ≤ w.heap.size) (hs : a.eval s = v) (A : Option Addr) (m c : Nat) (hx : a.eval x = .slice A m c) (es : List (List UInt8)) (ecs : List Value) (he : es.length = m) (hec : ecs.length = m)
    (hcells : 0 < m → ∃ ad, A = some ad ∧ ∀ j u, ecs[j]? = some u → w.cell? (ad.add j) = some u)
    (hel : ∀ (i : Nat) (r : List UInt8), es[i]? = some r → ∃ (A : Option Addr) (c : Nat), ecs[i]? = some (.slice A r.length c) ∧ r.length ≤ c ∧ c ≤ maxLen ∧ Bs w B A r) (hlim : rs.length + m ≤ 1000000)
    (hK : ∀ v' w', LRow w' B v' (rs ++ es) → w.grownBy w' v.ownBlock → K (a.put dd v') w') : Oper.wp Try.prog o a w K Q := by
  subst hdd
  obtain ⟨v', w', hr, h2, h3⟩ := run_append_l h hB o.type A m c es ecs he hec hcells hel hlim
  unfold Oper.wp execOp
  simp only [ho, resolve, invoke, builtin, Sem.run_bind, Sem.run_pure, Result.andThen_ok, List.map_toArray, List.map_cons, List.map_nil, hs, hx, hr]
  exact hK v' w' h2 h3

theorem wpList_append_lA {ops : Array Oper} {rest : List Oper} {o : Oper} {a : Act} {w : World} {Q : Exit → Act → World → Prop} (hgd : o.guard = none) (s x : Operand) (ho : o.op = .call { callee := .builtin .append, args := #[s, x], argTypes := #[28, 28] })
    {B : Nat} {v : Value} {rs : List (List UInt8)} (h : LRow w B v rs) (hB : B ≤ w.heap.size) (hs : a.eval s = v) (A : Option Addr) (m c : Nat) (hx : a.eval x = .slice A m c) (es : List (List UInt8)) (ecs : List Value) (he : es.length = m) (hec : ecs.length = m)
    (hcells : 0 < m → ∃ ad, A = some ad ∧ ∀ j u, ecs[j]? = some u → w.cell? (ad.add j) = some u)
    (hel : ∀ (i : Nat) (r : List UInt8), es[i]? = some r → ∃ (A : Option Addr) (c : Nat), ecs[i]? = some (.slice A r.length c) ∧ r.length ≤ c ∧ c ≤ maxLen ∧ Bs w B A r) (hlim : rs.length + m ≤ 1000000)
    (hK : ∀ v' w', LRow w' B v' (rs ++ es) → w.grownBy w' v.ownBlock → wpList Try.prog ops Q rest (a.put o.dst v') w') : wpList Try.prog ops Q (o :: rest) a w :=
  wpList_plain hgd fun K hK2 => wp_append_l o.dst rfl s x ho h hB hs A m c hx es ecs he hec hcells hel hlim fun v' w' h1 h2 => hK2 _ _ (hK v' w' h1 h2)
/-- The cells of a row of rows. -/
theorem rows_cells {w : World} {B : Nat} {A : Option Addr} {rs : List (List UInt8)} (h : RowsAt w B A rs) : ∃ ecs : List Value, ecs.length = rs.length ∧ (0 < rs.length → ∃ ad, A = some ad ∧ ∀ j u, ecs[j]? = some u → w.cell? (ad.add j) = some u) ∧
    ∀ (i : Nat) (r : List UInt8), rs[i]? = some r → ∃ (A : Option Addr) (c : Nat), ecs[i]? = some (.slice A r.length c) ∧ r.length ≤ c ∧ c ≤ maxLen ∧ Bs w B A r := by
  rcases Nat.eq_zero_or_pos rs.length with h0 | h0
  · exact ⟨[], by simp [h0], fun h => by omega, fun i r hr => by have := (List.getElem?_eq_some_iff.1 hr).1; omega⟩
  · obtain ⟨b, off, e, hlt, hr⟩ := h h0
    have hch : ∃ f : Nat → Value, ∀ i, i < rs.length → w.cell? ⟨b, off + i, none⟩ = some (f i) ∧ ∃ A' c, f i = .slice A' (rs.getD i []).length c ∧ (rs.getD i []).length ≤ c ∧ c ≤ maxLen ∧ Bs w B A' (rs.getD i []) := by
      classical
      refine ⟨fun i => if hi : i < rs.length then .slice (Classical.choose (hr i hi)) (rs.getD i []).length (Classical.choose (Classical.choose_spec (hr i hi))) else undef, fun i hi => ?_⟩
      simp only [dif_pos hi]
      have hs := Classical.choose_spec (Classical.choose_spec (hr i hi))
      exact ⟨hs.1, _, _, rfl, hs.2⟩
    obtain ⟨f, hf⟩ := hch
    refine ⟨(List.range rs.length).map f, by simp, fun _ => ⟨⟨b, off, none⟩, e, fun j u hj => ?_⟩, fun i r hri => ?_⟩
    · have hjl : j < rs.length := by have := (List.getElem?_eq_some_iff.1 hj).1; simpa using this
      have hu : f j = u := by simpa [hjl] using hj
      have hadd : (⟨b, off, none⟩ : Addr).add j = ⟨b, off + j, none⟩ := by unfold Addr.add; split <;> simp_all
      rw [hadd, ← hu]; exact (hf j hjl).1
    · have hil := (List.getElem?_eq_some_iff.1 hri).1
      have hg : rs.getD i [] = r := by simp [List.getD, hri]
      obtain ⟨_, A', c, e2, h1, h2, h3⟩ := hf i hil
      rw [hg] at e2 h1 h3
      exact ⟨A', c, by simp [hil, e2], h1, h2, h3⟩

end Go.Proofs.Ytlfddijmanlneaa

namespace Go.Proofs.Ytlfddijmanlneaa
open Go.RowKit Go.Shelf
set_option linter.unusedVariables false
set_option linter.unusedSimpArgs false

attribute [local go_sem] Oper.semAt_some

/-- An operation at the wide fence, by its plain word. -/
theorem operIn_w {n : Nat} {P : Program} {o : Oper} {a : Act} {w : World} {K : Act → World → Prop} {Q : Exit → Act → World → Prop} (h : o.wp P a w K Q) : o.wpIn Fence.wide n P a w K Q := by
  refine ⟨fun _ _ => trivial, ?_⟩
  rw [show o.semAt Fence.wide.round a.eval = execOp a.eval o from rfl]
  unfold Oper.wp at h
  revert h
  generalize (execOp a.eval o).run P w = res
  intro h
  cases res with
  | ok nx w' =>
    cases nx
    case enter f args => exact ⟨(fun k => by cases k), callsIn_wide.2 h⟩
    case row x args => exact ⟨(fun k => by cases k), fun c cs _ => by obtain ⟨v, w', hr, hs⟩ := h c cs; exact ⟨v, w', hr, stepsIn_wide.2 hs⟩⟩
    all_goals first | exact h | exact h.elim
  | halt x w' => cases x <;> first | exact h | exact h.elim
theorem wpListIn_load_midA {n' : Nat} {P : Program} {ops : Array Oper} {rest : List Oper} {o : Oper} {a : Act} {w : World} {Q : Exit → Act → World → Prop} (hgd : o.guard = none) (ty : TypeId) (x : Operand) (ho : o.op = .load ty x)
    (b off : Nat) (hx : a.eval x = .pointer (some ⟨b, off, none⟩)) (cs : List Value) (d : TypeDesc) (hc : w.rangeAt b off cs) (hu : P.underlying ty = some d) (hd : d.isRow = true) (hi : (P.info? ty).map (·.size) = some cs.length)
    (h : wpListIn Fence.wide n' P ops Q rest (a.put o.dst (.agg cs.toArray)) w) : wpListIn Fence.wide n' P ops Q (o :: rest) a w :=
  wpListIn_plain hgd fun K hK => operIn_w (wp_load_mid ty x ho b off hx cs d hc hu hd hi (hK _ _ h))

theorem cell_ltA {W : World} {p : Addr} {v : Value} (h : W.cell? p = some v) : p.block < W.heap.size := by
  rcases Nat.lt_or_ge p.block W.heap.size with h1 | h1
  · exact h1
  · simp [World.cell?, Array.getElem?_eq_none h1] at h
/-- A commit of a row, and its place. -/
abbrev IdxC (xs : List Cx) := Nat × { x : Cx // x ∈ xs }
def encI {xs : List Cx} (p : IdxC xs) : Array Value := #[.int .i64 (p.1 : Nat), .agg (comC p.2.1).toArray]

set_option maxRecDepth 100000 in
set_option maxHeartbeats 4000000 in
theorem backC_stops (m : Nat) (hm1 : 1 ≤ m) (xs : List Cx) (k : Nat) (hk : xs.length = k) (hk40 : k ≤ 40) (hw : ∀ x ∈ xs, CxW x) (A : Option Addr) (c : Nat) (hkc : k ≤ c) (hcm : c ≤ maxLen) (Bx sb n1 b0 : Nat) (w : World)
    (h1 : Boxed w Bx 87 (.slice A k c)) (hrow : RowOf comC 137 w b0 A xs) (hb0 : b0 ≤ sb) (hsb : sb < Bx) (hbx : Bx < n1) (hn1 : n1 ≤ w.heap.size) :
    SeqStopsK Fence.wide m Try.prog 79 #[.pointer (some ⟨Bx, 0, none⟩)] (encI (xs := xs)) (Only fun j => j = sb ∨ n1 ≤ j) (fun ys => ys.map (fun p => p.2.1) = xs.reverse) (fun _ => True) k w := by
  intro l J Jx W hW hJ hJx hY h0
  have k1 : Boxed W Bx 87 (.slice A k c) := (hW.block _ h1.lt).trans h1
  have Hrow := Lib.hid (hrow.below hW (show b0 ≤ w.heap.size by omega))
  have HY := Lib.hid hY
  have hbx1 := k1.cell
  have Hc := Lib.hid hcm
  have hcm' : c ≤ 9223372036854775807 := by unfold maxLen at hcm; exact hcm
  have hk63 : IntKind.i64.wrap ((k : Int) - 1) = (k : Int) - 1 := IntWalk.i64_in _ (by omega)
  have Hk := Lib.hid hk
  have Hw := Lib.hid hw
  have hWs := hW.size
  clear hY hJ hJx h1 hrow hk hw hcm hW
  refine callsIn_of_wp Try.func79 rfl trivial ?_ rfl
  simp only [Try.ntmps79, List.size_toArray, List.length_cons, List.length_nil, Nat.reduceAdd, Nat.reduceSub, Array.replicate_succ, Array.replicate_zero, List.push_toArray, List.append_toArray, List.nil_append, List.cons_append]
  gi_wp2
  gi_loopw [3] (fun p wr => ∃ (pre : List (IdxC xs)), p = .int .i64 ((k : Int) - 1 - pre.length) ∧ pre.length ≤ k ∧ pre.map (fun p => p.2.1) = xs.reverse.take pre.length ∧ J pre wr ∧ wr.cell? ⟨Bx, 0, none⟩ = some (.slice A k c) ∧ RowOf comC 137 wr b0 A xs) (fun p wr => (intOf p + 1).toNat)
  case atStart => exact ⟨[], by simp, by simp, by simp, h0, hbx1, Hrow.out⟩
  case round =>
    clear hbx1 h0 k1 Hrow
    obtain ⟨pre, rfl, hle, hpre, hJs, hbox, hrw⟩ := hrel
    obtain ⟨q, hq⟩ : ∃ q, pre.length = q := ⟨_, rfl⟩
    by_cases hlt : q < k
    · have hd1 : decide ((0 : Int) ≤ (k : Int) - 1 - (q : Int)) = true := decide_eq_true (by omega)
      have hi : k - 1 - q < xs.length := by have := Hk.out; omega
      obtain ⟨x, hx⟩ : ∃ x, xs[k - 1 - q]? = some x := ⟨_, List.getElem?_eq_getElem hi⟩
      have hxm : x ∈ xs := List.mem_of_getElem? hx
      obtain ⟨g, o, rfl, hgl, hcell⟩ := hrw (by have := Hk.out; omega)
      obtain ⟨XL, hXL⟩ : ∃ z, z = comC x := ⟨_, rfl⟩
      have hrg : wr.rangeAt g (o + (k - 1 - q) * 137) XL := by rw [hXL]; exact hcell _ x hx
      have HXi := Lib.hid (show (Try.prog.info? 30).map (·.size) = some XL.length by rw [hXL, (Hw.out x hxm).length]; exact comSize)
      obtain ⟨fn, tmps, assign, body, hy0, hR⟩ := HY.out pre (k - 1 - q, ⟨x, hxm⟩) wr hJs (by omega)
      have hii : ((k - 1 - q : Nat) : Int) = (k : Int) - 1 - (q : Int) := by omega
      have hy : (Instr.yield l #[.int .i64 ((k : Int) - 1 - (q : Int)), .agg XL.toArray]).run Try.prog wr = .ok (.round l fn tmps assign body) wr := by
        rw [hXL, ← hii]; exact hy0
      have hw1 : IntKind.i64.wrap ((k : Int) - 1 - (q : Int) - 1) = (k : Int) - 1 - ((q + 1 : Nat) : Int) := by
        rw [IntWalk.i64_in _ (by omega)]; omega
      have hen : k - 1 - q < k := by omega
      rw [hq]
      clear hy0 hXL hcell hi hii
      gi_wp2_with (refine wpListIn_load_midA rfl _ _ rfl g (o + (k - 1 - q) * 137) (by go_simp) XL _ hrg Try.underlying30 rfl HXi.out ?_)
      refine hR.mono ?_
      rintro e3 W3 (⟨rfl, hJ3, hk3⟩ | ⟨rfl, hJx3⟩)
      · have hbox3 : W3.cell? ⟨Bx, 0, none⟩ = some (.slice (some ⟨g, o, none⟩) k c) := by
          rw [World.cell?_of_block (a := ⟨Bx, 0, none⟩) (hk3.block Bx (cell_ltA hbox) (by omega))]; exact hbox
        have hrw3 : RowOf comC 137 W3 b0 (some ⟨g, o, none⟩) xs := fun hp => by
          obtain ⟨b, off, e', hlt', hr'⟩ := hrw hp
          refine ⟨b, off, e', hlt', fun i y hi j v hj => ?_⟩
          have hc := hr' i y hi j v hj
          rw [World.cell?_of_block (a := ⟨b, _, none⟩) (hk3.block b (cell_ltA hc) (by omega))]; exact hc
        clear hR HY
        gi_wp2
        case roundEnd =>
          have hrev : xs.reverse[q]? = some x := by rw [List.getElem?_reverse (by rw [Hk.out]; exact hlt), Hk.out]; exact hx
          have hl1 : (pre ++ [((k - 1 - q, ⟨x, hxm⟩) : IdxC xs)]).length = q + 1 := by rw [List.length_append, hq]; rfl
          refine ⟨⟨pre ++ [(k - 1 - q, ⟨x, hxm⟩)], by rw [hl1]; simp, by rw [hl1]; omega, ?_, hJ3, hbox3, hrw3⟩, by simp [intOf]; omega⟩
          rw [hl1, List.map_append, hpre, hq, List.take_add_one, hrev]
          rfl
      · clear hR HY
        gi_wp2
        refine bodyPost_ret (results_none rfl _ _ _) rfl ?_
        exact ⟨⟨_, rfl⟩, .inr ⟨_, trivial, hJx3⟩⟩
    · obtain rfl : q = k := by omega
      have hd1 : decide ((0 : Int) ≤ (q : Int) - 1 - (q : Int)) = false := decide_eq_false (by omega)
      rw [hq]
      gi_wp2
      go_end0
      refine ⟨⟨_, rfl⟩, .inl ⟨pre, ?_, hJs⟩⟩
      rw [hpre, hq, List.take_of_length_le (by rw [List.length_reverse, Hk.out]; exact Nat.le_refl _)]

end Go.Proofs.Ytlfddijmanlneaa

namespace Go.Proofs.Ytlfddijmanlneaa
open Go.RowKit Go.Shelf
set_option linter.unusedVariables false
set_option linter.unusedSimpArgs false

attribute [local go_sem] Oper.semAt_some

theorem ownsRow_keptA {W W' : World} {B : Nat} {e : TypeId} {sz : Nat} {v : Value} {n : Nat} {xs : List Value} (h : W.ownsRow B e sz v n xs) (hk : ∀ g, v.ownBlock = some g → W'.heap[g]? = W.heap[g]?) : W'.ownsRow B e sz v n xs := by
  refine ⟨h.1, ?_⟩
  rcases h.2 with h0 | ⟨g, cap, cur, rfl, e1, e2, e3⟩
  · exact .inl h0
  · exact .inr ⟨g, cap, cur, rfl, e1, (hk g rfl).trans e2, e3⟩
theorem ownsRow_typ {W : World} {B : Nat} {e : TypeId} {sz : Nat} {v : Value} {n : Nat} {xs : List Value} (h : W.ownsRow B e sz v n xs) {g : Nat} (hg : v.ownBlock = some g) : ∃ cs fr, W.heap[g]? = some (.cells cs e fr) := by
  rcases h.2 with ⟨h0, _⟩ | ⟨g', cap, cur, rfl, e1, e2, e3⟩
  · rw [h0] at hg; cases hg
  · injection hg with hg
    subst hg
    exact ⟨cur, _, e2⟩
/-- Rows of unlike types lie in unlike blocks. -/
theorem own_apart {W : World} {B B' : Nat} {e e' : TypeId} {sz sz' : Nat} {v v' : Value} {n n' : Nat} {xs xs' : List Value} (h : W.ownsRow B e sz v n xs) (h' : W.ownsRow B' e' sz' v' n' xs') (he : e ≠ e') {g : Nat} (hg : v.ownBlock = some g) : v'.ownBlock ≠ some g := fun hg' => by
  obtain ⟨c1, f1, e1⟩ := ownsRow_typ h hg
  obtain ⟨c2, f2, e2⟩ := ownsRow_typ h' hg'
  rw [e1] at e2
  injection e2 with e2
  injection e2 with _ e3
  exact he e3
theorem own_apart_arr {W : World} {B : Nat} {e e' : TypeId} {sz : Nat} {v : Value} {n : Nat} {xs : List Value} (h : W.ownsRow B e sz v n xs) {b : Nat} {cs : List Value} (h' : Arr W b e' cs) (he : e ≠ e') : v.ownBlock ≠ some b := fun hg => by
  obtain ⟨c1, f1, e1⟩ := ownsRow_typ h hg
  rw [show W.heap[b]? = _ from h'] at e1
  injection e1 with e1
  injection e1 with _ e3
  exact he e3.symm
theorem DRow.keptA {W W' : World} {B : Nat} {v : Value} {ds : List (List UInt8)} (h : DRow W B v ds) (hk : ∀ g, v.ownBlock = some g → W'.heap[g]? = W.heap[g]?) : DRow W' B v ds := ⟨h.1, ownsRow_keptA h.2 hk⟩
theorem LRow.keptA {W W' : World} {B : Nat} {v : Value} {rs : List (List UInt8)} (h : LRow W B v rs) (hk : ∀ g, v.ownBlock = some g → W'.heap[g]? = W.heap[g]?) (hc : ∀ (b o : Nat) (x : Int), b < B → W.cell? ⟨b, o, none⟩ = some (.int .u8 x) → W'.cell? ⟨b, o, none⟩ = some (.int .u8 x)) : LRow W' B v rs := by
  obtain ⟨cs, h1, h2⟩ := h
  refine ⟨cs, ownsRow_keptA h1 hk, fun i r hr => ?_⟩
  obtain ⟨A, c, k1, k2, k3, k4⟩ := h2 i r hr
  refine ⟨A, c, k1, k2, k3, fun hp => ?_⟩
  obtain ⟨b, o, e, hb, hj⟩ := k4 hp
  exact ⟨b, o, e, hb, fun j hl => hc b _ _ hb (hj j hl)⟩
theorem LRow.sliceA {W : World} {B : Nat} {v : Value} {rs : List (List UInt8)} (h : LRow W B v rs) : ∃ A c, v = .slice A rs.length c ∧ rs.length ≤ c ∧ c ≤ maxLen := by
  obtain ⟨cs, h1, _⟩ := h
  rcases h1.2 with ⟨rfl, hn⟩ | ⟨g, cap, cur, rfl, e1, hg, e2, e3, e4, e5⟩
  · exact ⟨none, 0, by rw [hn], by omega, by unfold maxLen; omega⟩
  · exact ⟨_, cap, rfl, e2, e3⟩
theorem keeps_grownA {W V : World} {row : Option Nat} (h : W.grownBy V row) (hr : ∀ r, row = some r → ∃ (cs : Array Value) (t : TypeId) (fr : Nat × Nat), W.heap[r]? = some (Obj.cells cs t fr)) : KeepsOthers W V :=
  ⟨h.size, fun k o hk ho => (h.block k (Array.getElem?_eq_some_iff.1 hk).1 fun e => by
    obtain ⟨cs, t, fr, e1⟩ := hr k e.symm
    rw [hk] at e1
    cases e1
    cases ho).trans hk⟩
theorem LRow.nilA (w : World) (B : Nat) : LRow w B (.slice none 0 0) [] := ⟨[], World.ownsRow_nil w B _ 1, fun i r h => by simp at h⟩

/-- A story under way: its variable at block sb. -/
def StI (xs : List Cx) (k sb ws n1 : Nat) (w : World) (pre : List (IdxC xs)) (V : World) : Prop :=
  (∃ vs ve, Arr V sb 50 [.int .u64 k, vs, ve] ∧ DRow V n1 vs (pre.map fun p => p.2.1.c.st) ∧ LRow V n1 ve (pre.flatMap fun p => p.2.1.c.evs) ∧ n1 ≤ V.heap.size) ∧ Below ws w V
theorem StI.own {xs : List Cx} {k sb ws n1 B : Nat} {w : World} (h1 : ws ≤ w.heap.size) (hB : ws ≤ B) : OwnFrom B (StI xs k sb ws n1 w) := by
  refine OwnFrom.and (fun s X Y row ⟨vs, ve, a1, a2, a3, a4⟩ hg hr => ?_) (ownFrom_below h1 (by omega))
  have hno : ∀ r, row = some r → ∃ o : Obj, X.heap[r]? = some o ∧ o.isCells = false := fun r e => (hr r e).2
  have hk : ∀ (g : Nat) (cs : Array Value) (t : TypeId) (fr : Nat × Nat), X.heap[g]? = some (Obj.cells cs t fr) → Y.heap[g]? = X.heap[g]? := fun g cs t fr e => hg.block g (Array.getElem?_eq_some_iff.1 e).1 fun e' => by
    obtain ⟨o, ho, hc⟩ := hno g e'.symm
    rw [e] at ho; cases ho; cases hc
  refine ⟨vs, ve, a1.grownA hg hno, a2.keptA fun g hg' => ?_, a3.keptA (fun g hg' => ?_) (fun b o x _ hc => ?_), Nat.le_trans a4 hg.size⟩
  · obtain ⟨cs, fr, e⟩ := ownsRow_typ a2.2 hg'
    exact hk g _ _ _ e
  · obtain ⟨cs, h1', _⟩ := a3
    obtain ⟨cs, fr, e⟩ := ownsRow_typ h1' hg'
    exact hk g _ _ _ e
  · obtain ⟨ob, e1, e2⟩ := cells_of_cell hc
    rw [← hc]
    refine World.cell?_of_block (hg.block b (Array.getElem?_eq_some_iff.1 e1).1 fun e' => ?_)
    obtain ⟨o', ho, hc'⟩ := hno b e'.symm
    rw [e1] at ho; cases ho; rw [e2] at hc'; cases hc'
theorem StI.up {xs : List Cx} {k sb ws n1 : Nat} {w : World} {pre : List (IdxC xs)} {V V2 : World} (hws : ws ≤ w.heap.size) (h : StI xs k sb ws n1 w pre V) (hb : Below V.heap.size V V2) : StI xs k sb ws n1 w pre V2 := by
  obtain ⟨⟨vs, ve, a1, a2, a3, a4⟩, a5⟩ := h
  refine ⟨⟨vs, ve, a1.up hb, a2.keptA fun g hg => hb.block g (a2.lt g hg).2, a3.keptA (fun g hg => hb.block g (a3.lt g hg).2) (fun b o x hlt hc => (hb.cell (p := ⟨b, o, none⟩) (show b < V.heap.size by omega)).trans hc), Nat.le_trans a4 hb.size⟩, a5.trans (hb.mono (Nat.le_trans hws a5.size))⟩

set_option maxRecDepth 100000 in
set_option maxHeartbeats 8000000 in
theorem story_in (xs : List Cx) (k : Nat) (hk : xs.length = k) (hk40 : k ≤ 40) (hw : ∀ x ∈ xs, CxW x) (A : Option Addr) (c : Nat) (hkc : k ≤ c) (hcm : c ≤ maxLen) (w : World) (hrow : RowOf comC 137 w w.heap.size A xs) (hev : ∀ x ∈ xs, RowsAt w w.heap.size x.Ae x.c.evs) (hl3 : ∀ x ∈ xs, x.c.evs.length ≤ 10000) :
    CallsIn Fence.wide 5 Try.prog 56 #[.slice A k c] w fun e W' => ∃ vs ve B, e = .returned (.agg #[.int .u64 k, vs, ve]) ∧ w.heap.size ≤ B ∧ DRow W' B vs (xs.reverse.map fun x => x.c.st) ∧ LRow W' B ve (xs.reverse.flatMap fun x => x.c.evs) ∧ Below w.heap.size w W' := by
  have h15 : 1 ≤ 5 := by omega
  have hw64 : IntKind.u64.wrap (k : Int) = (k : Int) := IntWalk.u64_in _ (by omega)
  have hcm' : c ≤ 9223372036854775807 := by unfold maxLen at hcm; exact hcm
  have Hk := Lib.hid hk
  have Hw := Lib.hid hw
  have Hrow := Lib.hid hrow
  have Hev := Lib.hid hev
  have Hl3 := Lib.hid hl3
  have Hc := Lib.hid hcm
  clear hk hw hrow hev hl3 hcm
  refine callsIn_of_wp_marks Try.func56 rfl trivial ?_ rfl
  simp only [Try.ntmps56, List.size_toArray, List.length_cons, List.length_nil, Nat.reduceAdd, Nat.reduceSub, Array.replicate_succ, Array.replicate_zero, List.push_toArray, List.append_toArray, List.nil_append, List.cons_append]
  refine wpIn_wide.2 ?_
  go_wp2_with fail
  refine Calls.mono (backward0_run A k c _) ?_
  rintro e w3 ⟨rfl, hBx, hb33⟩
  go_wp2_with fail
  rename_i Q1 K1 hK1
  obtain ⟨W0, hW0⟩ : ∃ z, z = (w.alloc (.cells #[.int .u64 0, .slice none 0 0, .slice none 0 0] 50)).alloc (.cells #[.int .u64 k, .slice none 0 0, .slice none 0 0] 50) := ⟨_, rfl⟩
  have hs0 : W0.heap.size = w.heap.size + 2 := by rw [hW0]; simp
  have r1 : Arr W0 w.heap.size 50 stZ := by rw [hW0]; exact (Arr.new w _ stZ).alloc _
  have r2 : Arr W0 (w.heap.size + 1) 50 [.int .u64 k, .slice none 0 0, .slice none 0 0] := by
    rw [hW0]
    have h := Arr.new (w.alloc (.cells #[.int .u64 0, .slice none 0 0, .slice none 0 0] 50)) 50 [.int .u64 k, .slice none 0 0, .slice none 0 0]
    rw [World.size_alloc] at h
    exact h
  have hB0 : Below w.heap.size w W0 := by rw [hW0]; exact ((Below.refl _ w).alloc (Nat.le_refl _) _).alloc (by simp) _
  rw [← hW0] at hBx hb33
  rw [hs0] at hBx
  have hB3 : Below w.heap.size w w3 := hB0.trans (hb33.mono hB0.size)
  have p1 := r1.up hb33
  have p2 := r2.up hb33
  have hw3 : w.heap.size + 3 ≤ w3.heap.size := hBx.lt
  clear r1 r2 hB0 hb33 hW0 hs0
  refine (wpIn_wide (n := 5)).1 ?_
  refine wpIn_rangeFunc_ownH (α := IdxC xs) rfl h15 (gf := 79) (lb := #[.pointer (some ⟨w.heap.size + 1 + 1, 0, none⟩)]) rfl trivial (enters_of Try.func79 (by kernel_rfl) rfl)
    (backC_stops (5 - 1) (by omega) xs k Hk.out hk40 Hw.out A c hkc Hc.out (w.heap.size + 1 + 1) (w.heap.size + 1) w3.heap.size w.heap.size w3 hBx (Hrow.out.below hB3 (Nat.le_refl _)) (by omega) (by omega) (by omega) (Nat.le_refl _)) ?hKt ?hKb (Below.refl _ _) (fun _ => rfl)
    (fun pre V => StI xs k (w.heap.size + 1) w.heap.size w3.heap.size w pre V ∧ Arr V w.heap.size 50 stZ) (fun _ _ _ => False)
    (OwnFrom.and (StI.own (Nat.le_refl _) hB3.size) (Own.from (fun s X Y row h hg hr => h.grownA hg hr) _)) (fun _ _ _ _ _ hs _ _ => hs)
    ⟨⟨⟨_, _, p2, DRow.nil _ _, LRow.nilA _ _, Nat.le_refl _⟩, hB3⟩, p1⟩
    (fun x a' V => ∃ Bc, w3.heap.size ≤ Bc ∧ Arr V Bc 30 (comC x.2.1) ∧ a' = { tmps := #[.slice A k c, undef, .pointer (some ⟨w.heap.size, 0, none⟩), .pointer (some ⟨w.heap.size + 1, 0, none⟩), undef, .pointer (some ⟨Bc, 0, none⟩), .slice A k c, .int .i64 k, .int .u64 k, .agg #[.int .u64 k, .slice none 0 0, .slice none 0 0], .slice A k c, .func (.func 79) #[] #[.pointer (some ⟨w.heap.size + 1 + 1, 0, none⟩)], .int .i64 (x.1 : Nat), .agg (comC x.2.1).toArray, undef, undef, undef, undef, undef, undef, undef, undef, undef, undef, undef, undef, undef, undef], defers := [] })
    (fun x a' => Own.from (fun s X Y row ⟨Bc, h1, h2, h3⟩ hg hr => ⟨Bc, h1, h2.grownA hg hr, h3⟩) _) ?assign ?body ?done (fun _ _ _ _ _ _ h => h.elim)
  case hKt => intro X Y Z h h'; exact h.trans h'
  case hKb =>
    intro V l o o' hl ho _ _
    have hg := grownBy_putObj' V l o'
    exact ⟨hg.os, hg.tape, hg.output, hg.size, fun j hj hn => hg.block j hj (fun e => hn (by injection e with e; rw [e]; exact .inr hl))⟩
  case assign =>
    intro l pre x V K hI hK
    obtain ⟨XL, hXL⟩ : ∃ z, z = comC x.2.1 := ⟨_, rfl⟩
    have hXl : XL.length = 137 := by rw [hXL]; exact (Hw.out _ x.2.2).length
    obtain ⟨ZL, hZL⟩ : ∃ z, z = comZ := ⟨_, rfl⟩
    have HZ := Lib.hid (fun w : World => show (zeroValue 30).run Try.prog w = .ok (.agg ZL.toArray) w by rw [hZL]; exact comZero w)
    have HXi := Lib.hid (show (Try.prog.info? 30).map (·.size) = some XL.toArray.size by rw [List.size_toArray, hXl]; exact comSize)
    have HXs := Lib.hid (show ZL.toArray.size = XL.toArray.size by rw [List.size_toArray, List.size_toArray, hXl, hZL]; rfl)
    have HX1 := Lib.hid (show XL.toArray.all (·.oneCell') = true by rw [hXL]; exact all_oneC (comC_one _))
    obtain ⟨V2, hV2⟩ : ∃ z, z = (V.alloc (.cells ZL.toArray 30)).setRow V.heap.size XL.toArray := ⟨_, rfl⟩
    obtain ⟨hX2, hb2⟩ := alloc_row V 30 ZL.toArray XL
    rw [← hV2] at hX2 hb2
    have HV2 := Lib.hid hV2
    have hbv := hI.1.2.size
    have hAx := hK { tmps := #[.slice A k c, undef, .pointer (some ⟨w.heap.size, 0, none⟩), .pointer (some ⟨w.heap.size + 1, 0, none⟩), undef, .pointer (some ⟨V.heap.size, 0, none⟩), .slice A k c, .int .i64 k, .int .u64 k, .agg #[.int .u64 k, .slice none 0 0, .slice none 0 0], .slice A k c, .func (.func 79) #[] #[.pointer (some ⟨w.heap.size + 1 + 1, 0, none⟩)], .int .i64 (x.1 : Nat), .agg XL.toArray, undef, undef, undef, undef, undef, undef, undef, undef, undef, undef, undef, undef, undef, undef], defers := [] } V2 ?kf (Only.of_below hb2) ?hi ⟨V.heap.size, ?hle, by rw [← hXL]; exact hX2, by rw [hXL]⟩
    case kf => exact ⟨hb2.size, fun j o _ hj _ => (hb2.block j (Array.getElem?_eq_some_iff.1 hj).1).trans hj⟩
    case hi => exact ⟨hI.1.up (Nat.le_refl _) hb2, hI.2.up hb2⟩
    case hle => obtain ⟨⟨_, _, _, _, _, h⟩, _⟩ := hI.1; exact h
    unfold encI
    simp only [List.zip_toArray, List.zip_cons_cons, List.zip_nil_left, List.zip_nil_right, List.foldl_toArray, List.foldl_cons, List.foldl_nil, List.setIfInBounds_toArray, List.set_cons_zero, List.set_cons_succ]
    rw [← hXL]
    refine regionIn_of (fun ⟨_, _, h⟩ => h) rfl ?_
    go_wp2_with (first | ((with_reducible refine wpList_atA 5 (by rfl) ?_); refine wpList_allocZA rfl 30 rfl ZL.toArray (HZ.out _) ?_) | (change wpList _ _ _ _ _ (V.alloc (.cells ZL.toArray 30)); refine wpList_store_row rfl _ _ _ rfl V.heap.size XL.toArray rfl rfl 30 ZL.toArray (heap_alloc_new V _) HXi.out HXs.out HX1.out ?_; rw [← HV2.out]))
    exact hAx
  case body =>
    rintro l pre x a' V hl ⟨r, hr⟩ ⟨⟨⟨vs, ve, a1, a2, a3, a4⟩, a5⟩, a6⟩ ⟨Bc, hBc, hX, rfl⟩ hlt
    obtain ⟨ds, hds⟩ : ∃ z, z = (List.map (fun p : IdxC xs => p.2.1.c.st) pre) := ⟨_, rfl⟩
    obtain ⟨es, hes⟩ : ∃ z, z = (List.flatMap (fun p : IdxC xs => p.2.1.c.evs) pre) := ⟨_, rfl⟩
    rw [← hds] at a2
    rw [← hes] at a3
    have Hes := Lib.hid hes
    have hel : es.length ≤ 400000 := by
      rw [hes]
      have : ∀ l : List (IdxC xs), (List.flatMap (fun p : IdxC xs => p.2.1.c.evs) l).length ≤ l.length * 10000 := fun l => by
        induction l with
        | nil => simp
        | cons p l ih => rw [List.flatMap_cons, List.length_append, List.length_cons]; have := Hl3.out _ p.2.2; omega
      have := this pre
      omega
    clear hes
    obtain ⟨Av, cv, rfl, hcv, hmv⟩ := a3.sliceA
    obtain ⟨y, hy⟩ := x
    obtain ⟨yx, hyx⟩ := hy
    dsimp only at hX ⊢
    have hyw := Hw.out yx hyx
    obtain ⟨XL, hXL⟩ : ∃ z, z = comC yx := ⟨_, rfl⟩
    rw [← hXL] at hX ⊢
    obtain ⟨_, _, _, _, _, x5, x6⟩ := comV_parts (ep := yx.c.ep) (R1 := rC yx.c.r1) (R2 := rC yx.c.r2) (R3 := rC yx.c.r3) (SL := Lib.byteCells yx.c.st) (bv := .slice yx.Ab yx.c.bins.length yx.cb) (ev := .slice yx.Ae yx.c.evs.length yx.ce) (rC_length hyw.r1) (rC_length hyw.r2) (rC_length hyw.r3) (by rw [Lib.byteCells_length, hyw.st])
    obtain ⟨SL, hSL⟩ : ∃ z, z = Lib.byteCells yx.c.st := ⟨_, rfl⟩
    have hSl : SL.length = 32 := by rw [hSL, Lib.byteCells_length]; exact hyw.st
    have HSi := Lib.hid (show (Try.prog.info? 24).map (·.size) = some SL.length by rw [hSl]; exact digInfo)
    have Hst := Lib.hid (fun (w' : World) (h : Arr w' Bc 30 XL) => show w'.rangeAt Bc 104 SL from fun j v hj => by
      rw [h.cell, hXL]; rw [hSL] at hj; exact x5 j v hj)
    have Hec := Lib.hid (fun (w' : World) (h : Arr w' Bc 30 XL) => show w'.cell? ⟨Bc, 136, none⟩ = some (.slice yx.Ae yx.c.evs.length yx.ce) by
      rw [h.cell, hXL]; exact x6)
    have hvs0 := own_apart_arr a2.2 a1 (by decide)
    have hve0 : (Value.slice Av es.length cv).ownBlock ≠ some (w.heap.size + 1) := by obtain ⟨cs, h1, _⟩ := a3; exact own_apart_arr h1 a1 (by decide)
    have hvsX : vs.ownBlock ≠ some Bc := own_apart_arr a2.2 hX (by decide)
    have hveX : (Value.slice Av es.length cv).ownBlock ≠ some Bc := by obtain ⟨cs, h1, _⟩ := a3; exact own_apart_arr h1 hX (by decide)
    have hvR : vs.ownBlock ≠ some w.heap.size := own_apart_arr a2.2 a6 (by decide)
    have hveR : (Value.slice Av es.length cv).ownBlock ≠ some w.heap.size := by obtain ⟨cs, h1, _⟩ := a3; exact own_apart_arr h1 a6 (by decide)
    have hvv : ∀ g, vs.ownBlock = some g → (Value.slice Av es.length cv).ownBlock ≠ some g := fun g hg => by obtain ⟨cs, h1, _⟩ := a3; exact own_apart a2.2 h1 (by decide) hg
    have hvst : ∀ g, vs.ownBlock = some g → ∃ (cs : Array Value) (t : TypeId) (fr : Nat × Nat), V.heap[g]? = some (Obj.cells cs t fr) := fun g hg => by obtain ⟨cs, fr, e⟩ := ownsRow_typ a2.2 hg; exact ⟨cs, _, fr, e⟩
    -- the temporary row of one digest
    obtain ⟨V1, hV1⟩ : ∃ z, z = V.alloc (.cells SL.toArray 24) := ⟨_, rfl⟩
    have hb1 : Below V.heap.size V V1 := by rw [hV1]; exact (Below.refl _ V).alloc (Nat.le_refl _) _
    have hS1 : Arr V1 V.heap.size 24 (Lib.byteCells yx.c.st) := by rw [hV1, ← hSL]; exact Arr.new V _ _
    have b1 := a1.up hb1
    have b2 : DRow V1 w3.heap.size vs _ := a2.keptA fun g hg => hb1.block g (a2.lt g hg).2
    have b3 : LRow V1 w3.heap.size (.slice Av es.length cv) _ := a3.keptA (fun g hg => hb1.block g (a3.lt g hg).2) fun b o x hlt hc => (hb1.cell (p := ⟨b, o, none⟩) (show b < V.heap.size by omega)).trans hc
    have bX := hX.up hb1
    have HV1 := Lib.hid hV1
    have b1c1 : V.cell? ⟨w.heap.size + 1, 1, none⟩ = some vs := a1.cell 1
    have hsz1 := hb1.size
    have hLs : ∀ Q : Exit → Act → World → Prop, ¬ LetsOut (Exit.inBlock 1 (ownPostG w3.heap.size (Only fun j => j = w.heap.size + 1 ∨ w3.heap.size ≤ j) (fun pre V => StI xs k (w.heap.size + 1) w.heap.size w3.heap.size w pre V ∧ Arr V w.heap.size 50 stZ) (fun _ _ _ => False) (pre ++ [(y, ⟨yx, hyx⟩)]) V)) := fun _ ⟨_, _, h⟩ => h
    clear hV1 hSL
    obtain ⟨A1, c1, rfl, _, _, _⟩ := a2.slice
    have hdl : ds.length ≤ 1000000 := by rw [hds, List.length_map]; omega
    have Hds := Lib.hid hds
    clear hds
    refine wpIn_block (wpIn_seq_k fun K2 hK2 => ?_)
    refine regionIn_of (fun ⟨_, _, h⟩ => h) rfl ?_
    go_wp2_with (first
      | ((with_reducible refine wpList_atA 17 (by rfl) ?_); refine wpList_load_mid rfl _ _ rfl Bc 104 rfl SL _ (Hst.out _ hX) Try.underlying24 rfl HSi.out ?_)
      | ((with_reducible refine wpList_atA 18 (by rfl) ?_); refine wpList_build_dig rfl _ rfl SL hSl rfl ?_; rw [← HV1.out])
      | ((with_reducible refine wpList_atA 19 (by rfl) ?_); refine wpList_append_dig rfl _ _ rfl b2 (by omega) rfl V.heap.size 1 rfl yx.c.st hyw.st hS1 hdl ?_; intro v1 W2 hd1 hg1; obtain ⟨A2, c2, rfl, hc2, hm2, _⟩ := hd1.slice; have bW : Arr W2 (w.heap.size + 1) 50 [.int .u64 k, .slice A1 ds.length c1, .slice Av es.length cv] := (hg1.block _ b1.lt (fun e => hvs0 e.symm)).trans b1; have hcW : W2.cell? ⟨w.heap.size + 1, 1, none⟩ = some (.slice A1 ds.length c1) := bW.cell 1; have hfW := bW.frozen 1))
    rw [List.length_append, List.length_singleton] at *
    obtain ⟨W3, hW3⟩ : ∃ z, z = W2.setCell ⟨w.heap.size + 1, 1, none⟩ (.slice A2 (ds.length + 1) c2) := ⟨_, rfl⟩
    have o23 : Only (fun j => j = w.heap.size + 1) W2 W3 := by rw [hW3]; exact (Only.refl (fun j => j = w.heap.size + 1) W2).setCell (p := ⟨w.heap.size + 1, 1, none⟩) (.inl rfl) _
    have c1' : Arr W3 (w.heap.size + 1) 50 [.int .u64 k, .slice A2 (ds.length + 1) c2, .slice Av es.length cv] := by rw [hW3]; exact bW.set 1 _
    have ho1 := own_apart_arr hd1.2 bW (by decide)
    have d1 : DRow W3 w3.heap.size (.slice A2 (ds.length + 1) c2) (ds ++ [yx.c.st]) := hd1.keptA fun g hg => o23.block g (hd1.lt g hg).2 (fun e => ho1 (by rw [← e]; exact hg))
    have e2 : LRow W2 w3.heap.size (.slice Av es.length cv) es := b3.keptA (fun g hg => hg1.block g (b3.lt g hg).2 (fun e => hvv g e.symm hg)) fun b o x hlt hc => by
      have hcb := cell_ltA hc
      rw [World.cell?_of_block (a := ⟨b, o, none⟩) (hg1.block b hcb (fun e => by have := (b2.lt b e.symm).1; omega))]; exact hc
    have e3 : LRow W3 w3.heap.size (.slice Av es.length cv) es := e2.keptA (fun g hg => o23.block g (e2.lt g hg).2 (fun e => hve0 (by rw [← e]; exact hg))) fun b o x hlt hc => by
      by_cases hb : b = w.heap.size + 1
      · exfalso
        subst hb
        rw [bW.cell] at hc
        rcases o with _ | _ | _ | o
        · cases hc
        · cases hc
        · cases hc
        · simp at hc
      · rw [World.cell?_of_block (a := ⟨b, o, none⟩) (o23.block b (cell_ltA hc) hb)]; exact hc
    have X2 : Arr W2 Bc 30 XL := (hg1.block _ bX.lt (fun e => hvsX e.symm)).trans bX
    have X3 : Arr W3 Bc 30 XL := X2.only o23 (by omega)
    have R1 := a6.up hb1
    have R2 : Arr W2 w.heap.size 50 stZ := (hg1.block _ R1.lt (fun e => hvR e.symm)).trans R1
    have R3 := R2.only o23 (by omega)
    have oV2 : Only (fun j => j = w.heap.size + 1 ∨ w3.heap.size ≤ j) V W2 := (Only.of_below (R := fun j => j = w.heap.size + 1 ∨ w3.heap.size ≤ j) hb1).trans (World.grownBy.only hg1 fun g hg => .inr (b2.lt g hg).1)
    have oV3 : Only (fun j => j = w.heap.size + 1 ∨ w3.heap.size ≤ j) V W3 := oV2.trans (o23.more fun j _ hj => .inl hj)
    have kV3 : KeepsOthers V W3 := by
      refine (KeepsOthers.trans (KeepsOthers.trans ⟨hb1.size, fun j o hj _ => (hb1.block j (Array.getElem?_eq_some_iff.1 hj).1).trans hj⟩ (keeps_grownA hg1 fun g hg => ?_))) ?_
      · obtain ⟨cs, fr, e⟩ := ownsRow_typ b2.2 hg; exact ⟨cs, _, fr, e⟩
      · rw [hW3]; exact KeepsOthers.setCell _ _ _
    have hs13 : V1.heap.size ≤ W3.heap.size := Nat.le_trans hg1.size o23.size
    have HW3 := Lib.hid hW3
    have hbw3 : Below w.heap.size w W3 := a5.trans (oV3.below a5.size (by rintro j (rfl | h) <;> omega))
    have hro3 := (Hev.out yx hyx).below hbw3 (Nat.le_refl _)
    obtain ⟨ecs, hecl, hecc, hece⟩ := rows_cells hro3
    have hece' : ∀ (i : Nat) (r : List UInt8), yx.c.evs[i]? = some r → ∃ (A : Option Addr) (c : Nat), ecs[i]? = some (.slice A r.length c) ∧ r.length ≤ c ∧ c ≤ maxLen ∧ Bs W3 w3.heap.size A r := fun i r hr => by
      obtain ⟨A', c', q1, q2, q3, q4⟩ := hece i r hr
      exact ⟨A', c', q1, q2, q3, q4.more hB3.size⟩
    have hc3e : W3.cell? ⟨w.heap.size + 1, 2, none⟩ = some (.slice Av es.length cv) := c1'.cell 2
    have hcX := Hec.out _ X3
    have hlim : es.length + yx.c.evs.length ≤ 1000000 := by have := Hl3.out yx hyx; omega
    have hve1 : (Value.slice Av es.length cv).ownBlock ≠ some (w.heap.size + 1) := by obtain ⟨cs, h1, _⟩ := e3; exact own_apart_arr h1 c1' (by decide)
    have hvveX : (Value.slice Av es.length cv).ownBlock ≠ some w.heap.size := by obtain ⟨cs, h1, _⟩ := e3; exact own_apart_arr h1 R3 (by decide)
    have hvve2 : ∀ g, (Value.slice Av es.length cv).ownBlock = some g → (Value.slice A2 (ds.length + 1) c2).ownBlock ≠ some g := fun g hg => by obtain ⟨cs, h1, _⟩ := e3; exact own_apart h1 d1.2 (by decide) hg
    clear hW3 hro3 hece
    rw [← HW3.out]
    refine regionIn_of (fun ⟨_, _, h⟩ => h) rfl ?_
    go_wp2_with (first
      | ((with_reducible refine wpList_atA 25 (by rfl) ?_); refine wpList_append_lA rfl _ _ rfl e3 (by omega) rfl yx.Ae yx.c.evs.length yx.ce rfl yx.c.evs ecs rfl hecl hecc hece' hlim ?_; intro v2 W4 hl2 hg2; obtain ⟨A3, c3, rfl, hc3, hm3⟩ := hl2.sliceA; have bW4 : Arr W4 (w.heap.size + 1) 50 [.int .u64 k, .slice A2 (ds.length + 1) c2, .slice Av es.length cv] := (hg2.block _ c1'.lt (fun e => hve1 e.symm)).trans c1'; have hcW4 : W4.cell? ⟨w.heap.size + 1, 2, none⟩ = some (.slice Av es.length cv) := bW4.cell 2; have hfW4 := bW4.frozen 2))
    obtain ⟨W5, hW5⟩ : ∃ z, z = W4.setCell ⟨w.heap.size + 1, 2, none⟩ (.slice A3 (es ++ yx.c.evs).length c3) := ⟨_, rfl⟩
    have o45 : Only (fun j => j = w.heap.size + 1) W4 W5 := by rw [hW5]; exact (Only.refl (fun j => j = w.heap.size + 1) W4).setCell (p := ⟨w.heap.size + 1, 2, none⟩) (.inl rfl) _
    have c5 : Arr W5 (w.heap.size + 1) 50 [.int .u64 k, .slice A2 (ds.length + 1) c2, .slice A3 (es ++ yx.c.evs).length c3] := by rw [hW5]; exact bW4.set 2 _
    have d4 : DRow W4 w3.heap.size (.slice A2 (ds.length + 1) c2) (ds ++ [yx.c.st]) := d1.keptA fun g hg => hg2.block g (d1.lt g hg).2 (fun e => hvve2 g e.symm hg)
    have ho4 := own_apart_arr d4.2 bW4 (by decide)
    have d5 : DRow W5 w3.heap.size (.slice A2 (ds.length + 1) c2) (ds ++ [yx.c.st]) := d4.keptA fun g hg => o45.block g (d4.lt g hg).2 (fun e => ho4 (by rw [← e]; exact hg))
    have hvl : (Value.slice A3 (es ++ yx.c.evs).length c3).ownBlock ≠ some (w.heap.size + 1) := by obtain ⟨cs, h1, _⟩ := hl2; exact own_apart_arr h1 bW4 (by decide)
    have l5 : LRow W5 w3.heap.size (.slice A3 (es ++ yx.c.evs).length c3) (es ++ yx.c.evs) := hl2.keptA (fun g hg => o45.block g (hl2.lt g hg).2 (fun e => hvl (by rw [← e]; exact hg))) fun b o x hlt hc => by
      by_cases hb : b = w.heap.size + 1
      · exfalso
        subst hb
        rw [bW4.cell] at hc
        rcases o with _ | _ | _ | o
        · cases hc
        · cases hc
        · cases hc
        · simp at hc
      · rw [World.cell?_of_block (a := ⟨b, o, none⟩) (o45.block b (cell_ltA hc) hb)]; exact hc
    have R4 : Arr W4 w.heap.size 50 stZ := (hg2.block _ R3.lt (fun e => hvveX e.symm)).trans R3
    have R5 := R4.only o45 (by omega)
    have oV4 : Only (fun j => j = w.heap.size + 1 ∨ w3.heap.size ≤ j) V W4 := oV3.trans (World.grownBy.only hg2 fun g hg => .inr (e3.lt g hg).1)
    have oV5 : Only (fun j => j = w.heap.size + 1 ∨ w3.heap.size ≤ j) V W5 := oV4.trans (o45.more fun j _ hj => .inl hj)
    have kV5 : KeepsOthers V W5 := by
      refine (KeepsOthers.trans (KeepsOthers.trans kV3 (keeps_grownA hg2 fun g hg => ?_))) ?_
      · obtain ⟨cs, h1, _⟩ := e3; obtain ⟨cs, fr, e⟩ := ownsRow_typ h1 hg; exact ⟨cs, _, fr, e⟩
      · rw [hW5]; exact KeepsOthers.setCell _ _ _
    have hs35 : W3.heap.size ≤ W5.heap.size := Nat.le_trans hg2.size o45.size
    have hbw5 : Below w.heap.size w W5 := a5.trans (oV5.below a5.size (by rintro j (rfl | h) <;> omega))
    have HW5 := Lib.hid hW5
    clear hW5
    (try rw [List.length_append] at HW5)
    show KeepsFrom _ _ _ ∧ _ ∧ _
    rw [← HW5.out]
    refine ⟨kV5.from _, oV5, ⟨⟨_, _, c5, ?_, ?_, by omega⟩, hbw5⟩, R5⟩
    · rw [List.map_append, ← Hds.out]; exact d5
    · rw [List.flatMap_append, ← Hes.out]
      simpa using l5
  case done =>
    rintro D ys W hD hys ⟨⟨⟨vs, ve, a1, a2, a3, a4⟩, a5⟩, a6⟩ hK
    refine hK1 _ _ ?_
    have hys' : ys.map (fun p => p.2.1) = xs.reverse := hys
    have eS : List.map (fun p : IdxC xs => p.2.1.c.st) ys = xs.reverse.map fun x => x.c.st := by rw [← hys', List.map_map]; rfl
    have eE : List.flatMap (fun p : IdxC xs => p.2.1.c.evs) ys = xs.reverse.flatMap fun x => x.c.evs := by rw [← hys', List.flatMap_map]
    rw [eS] at a2
    rw [eE] at a3
    obtain ⟨SL, hSL⟩ : ∃ z, z = [Value.int .u64 k, vs, ve] := ⟨_, rfl⟩
    rw [← hSL] at a1
    have hSl : SL.length = 3 := by rw [hSL]; rfl
    have hSi : (Try.prog.info? 50).map (·.size) = some SL.toArray.size := by rw [List.size_toArray, hSl]; kernel_rfl
    have hSz : stZ.toArray.size = SL.toArray.size := by rw [List.size_toArray, List.size_toArray, hSl]; rfl
    have hS1 : SL.toArray.all (·.oneCell') = true := by
      obtain ⟨A1, c1, rfl, _⟩ := a2.slice
      obtain ⟨A2, c2, rfl, _⟩ := a3.sliceA
      rw [List.all_toArray, List.all_eq_true, hSL]
      intro v hv
      simp only [List.mem_cons, List.not_mem_nil, or_false] at hv
      rcases hv with rfl | rfl | rfl <;> rfl
    have hx2 : W.heap[w.heap.size + 1]? = some (.cells SL.toArray 50 (0, 0)) := a1
    have hx1 : W.heap[w.heap.size]? = some (.cells stZ.toArray 50 (0, 0)) := a6
    have hg7 := a6.setRow SL
    have ho7 : Only (fun k => k = w.heap.size) W (W.setRow w.heap.size SL.toArray) := (Only.refl (fun k => k = w.heap.size) W).setRow (.inl rfl) _
    have hK7 : (W.setRow w.heap.size SL.toArray).heap[D]? = some (.deferred (some [])) := (ho7.block D (Array.getElem?_eq_some_iff.1 hK).1 (by omega)).trans hK
    have hB7 : Below w.heap.size w (W.setRow w.heap.size SL.toArray) := a5.trans (ho7.below a5.size (by rintro k rfl; exact Nat.le_refl _))
    have d7 : DRow (W.setRow w.heap.size SL.toArray) w3.heap.size vs _ := a2.keptA fun g hg => ho7.block g (a2.lt g hg).2 (by have := (a2.lt g hg).1; omega)
    have hve : ∀ g, ve.ownBlock = some g → w3.heap.size ≤ g ∧ g < W.heap.size := a3.lt
    obtain ⟨Av, cv, rfl, _, _⟩ := a3.sliceA
    have l7 : LRow (W.setRow w.heap.size SL.toArray) w3.heap.size (.slice Av (xs.reverse.flatMap fun x => x.c.evs).length cv) _ := a3.keptA (fun g hg => ho7.block g (hve g hg).2 (by have := (hve g hg).1; omega)) fun b o x hlt hc => by
      by_cases hb : b = w.heap.size
      · exfalso
        subst hb
        rw [a6.cell] at hc
        rcases o with _ | _ | _ | o
        · cases hc
        · cases hc
        · cases hc
        · simp [stZ] at hc
      · rw [World.cell?_of_block (a := ⟨b, o, none⟩) (ho7.block b (cell_ltA hc) hb)]; exact hc
    obtain ⟨W7, hW7⟩ : ∃ z, z = W.setRow w.heap.size SL.toArray := ⟨_, rfl⟩
    rw [← hW7] at hg7 hK7 hB7 d7 l7
    have HW7 := Lib.hid hW7
    have HSL := Lib.hid hSL
    clear hW7 ho7 a1 a2 a3 hve hSL eS eE hys' hys
    go_wp2_with (first | (refine wpList_load_row rfl _ _ rfl (w.heap.size + 1) rfl 50 SL.toArray (0, 0) _ hx2 Try.underlying50 rfl hSi ?_) | (refine wpList_store_row rfl _ _ _ rfl w.heap.size SL.toArray rfl rfl 50 stZ.toArray hx1 hSi hSz hS1 ?_; rw [← HW7.out]))
    refine ⟨by simp, .inl ⟨_, _, rfl, run_takeDeferred hK7, ?_⟩⟩
    have hgp := grownBy_putObj' W7 D (.deferred none)
    have hrp : ∀ r, some D = some r → ∃ o : Obj, W7.heap[r]? = some o ∧ o.isCells = false := fun r e => by injection e with e; subst e; exact ⟨_, hK7, rfl⟩
    have hg8 : Arr (W7.putObj D (.deferred none)) w.heap.size 50 SL := hg7.grownA hgp hrp
    have hkc : ∀ (g : Nat) (cs : Array Value) (t : TypeId) (fr : Nat × Nat), W7.heap[g]? = some (Obj.cells cs t fr) → (W7.putObj D (.deferred none)).heap[g]? = W7.heap[g]? := fun g cs t fr e => hgp.block g (Array.getElem?_eq_some_iff.1 e).1 fun e' => by
      injection e' with e'
      subst e'
      rw [hK7] at e
      cases e
    refine ⟨_, results_cell_row (by rfl) _ _ w.heap.size 50 SL.toArray (0, 0) _ (by rfl) hg8 Try.underlying50 rfl hSi, _, _, w3.heap.size, by rw [HSL.out], hB3.size, d7.keptA fun g hg => ?_, l7.keptA (fun g hg => ?_) fun b o x _ hc => ?_, hB7.trans (belowK_b (w := w) (Nat.le_refl _) W7 D _ _ (by omega) hK7 rfl rfl)⟩
    · obtain ⟨cs, fr, e⟩ := ownsRow_typ d7.2 hg
      exact hkc g _ _ _ e
    · obtain ⟨cs, h1', _⟩ := l7
      obtain ⟨cs, fr, e⟩ := ownsRow_typ h1' hg
      exact hkc g _ _ _ e
    · obtain ⟨ob, e1, e2⟩ := cells_of_cell hc
      rw [← hc]
      refine World.cell?_of_block (hgp.block b (Array.getElem?_eq_some_iff.1 e1).1 fun e' => ?_)
      injection e' with e'
      subst e'
      rw [hK7] at e1
      cases e1
      cases e2

end Go.Proofs.Ytlfddijmanlneaa

namespace Go.Proofs.Ytlfddijmanlneaa
open Go.RowKit Go.Shelf
set_option linter.unusedVariables false
set_option linter.unusedSimpArgs false

/-! ### a row of commits of the call's own -/
theorem comAll : (Try.prog.info? 30).map (fun i => (i.zero, i.size, i.bytes)) = some (some (.agg comZ.toArray), 137, 232) := by kernel_rfl
theorem fill_com (l : List Value) (hl : l.length = 137) (cells : Array Value) (hc : cells.size = 137) : Instr.fill (fun i => some (i * 137, 137)) cells [(0, .agg l.toArray)] = some l.toArray := by
  simp only [Instr.fill, Value.cells, List.size_toArray]
  rw [if_neg (by simp; omega)]
  congr 1
  obtain ⟨g1, g2⟩ := Great.foldl_set (0 * 137) l 0 cells
  have e : (l.toArray.zipIdx.foldl (fun cs (x : Value × Nat) => cs.setIfInBounds (0 * 137 + x.2) x.1) cells) = ((l.zipIdx 0).foldl (fun cs (x : Value × Nat) => cs.setIfInBounds (0 * 137 + x.2) x.1) cells) := by
    rw [← Array.foldl_toList, Array.toList_zipIdx]
  show (l.toArray.zipIdx.foldl (fun cs (x : Value × Nat) => cs.setIfInBounds (0 * 137 + x.2) x.1) cells) = _
  rw [e]
  apply Array.ext_getElem?
  intro k
  rw [g2 k]
  simp only [List.getElem?_toArray, Nat.add_zero, Nat.zero_mul, Nat.zero_add, Nat.sub_zero]
  by_cases hk2 : k < l.length
  · rw [if_pos ⟨by omega, by omega, by omega⟩]
  · rw [if_neg (by omega), Array.getElem?_eq_none (by omega), List.getElem?_eq_none (by omega)]
theorem wpList_build_com {ops : Array Oper} {rest : List Oper} {o : Oper} {a : Act} {w : World} {Q : Exit → Act → World → Prop} (hg : o.guard = none) (x : Operand) (ho : o.op = .buildSlice 87 1 #[(0, x)]) (VL : List Value) (hV : VL.length = 137) (hx : a.eval x = .agg VL.toArray)
    (h : wpList Try.prog ops Q rest (a.put o.dst (.slice (some ⟨w.heap.size, 0, none⟩) 1 1)) (w.alloc (.cells VL.toArray 30))) : wpList Try.prog ops Q (o :: rest) a w :=
  wpList_plain hg fun K hK => by
    obtain ⟨i0, hi, hz0, hz1, hz2⟩ := info_parts comAll
    refine wp_buildSlice 87 30 1 #[(0, x)] ho VL.toArray i0 _ Try.underlying87 hi hz0 (by rw [hz1]; decide) (by rw [hz1]; decide) ?_ (hK _ _ h)
    rw [hz1]
    simp only [List.map_toArray, List.map_cons, List.map_nil, hx]
    exact fill_com VL hV _ (by simp)
/-- The cells of commits, one behind the other. -/
def cxC (xs : List Cx) : List Value := xs.flatMap comC
/-- A row of commits of the call's own. -/
def CRowA (w : World) (B : Nat) (v : Value) (xs : List Cx) : Prop := (∀ x ∈ xs, CxW x) ∧ w.ownsRow B 30 137 v xs.length (cxC xs)
theorem CRowA.nil (w : World) (B : Nat) : CRowA w B (.slice none 0 0) [] := ⟨by simp, World.ownsRow_nil w B _ 137⟩
theorem CRowA.lt {w : World} {B : Nat} {v : Value} {xs : List Cx} (h : CRowA w B v xs) : ∀ k, v.ownBlock = some k → B ≤ k ∧ k < w.heap.size := World.ownsRow.lt h.2
theorem CRowA.kept {W W' : World} {B : Nat} {v : Value} {xs : List Cx} (h : CRowA W B v xs) (hk : ∀ g, v.ownBlock = some g → W'.heap[g]? = W.heap[g]?) : CRowA W' B v xs := ⟨h.1, ownsRow_keptA h.2 hk⟩
theorem cxC_length {xs : List Cx} (h : ∀ x ∈ xs, CxW x) : (cxC xs).length = xs.length * 137 := by
  unfold cxC
  induction xs with
  | nil => rfl
  | cons x xs ih => rw [List.flatMap_cons, List.length_append, List.length_cons, (h x (by simp)).length, ih (fun y hy => h y (by simp [hy]))]; omega
theorem cxC_at {xs : List Cx} (h : ∀ x ∈ xs, CxW x) : ∀ {i : Nat} {x : Cx}, xs[i]? = some x → ∀ j v, (comC x)[j]? = some v → (cxC xs)[i * 137 + j]? = some v := by
  induction xs with
  | nil => intro i x hi; simp at hi
  | cons y ys ih =>
    intro i x hi j v hj
    have hy := (h y (by simp)).length
    unfold cxC
    rw [List.flatMap_cons]
    cases i with
    | zero =>
      simp at hi
      subst hi
      rw [List.getElem?_append_left (by have := (List.getElem?_eq_some_iff.1 hj).1; omega)]
      simpa using hj
    | succ i =>
      rw [List.getElem?_append_right (by omega), hy, show (i + 1) * 137 + j - 137 = i * 137 + j by omega]
      exact ih (fun z hz => h z (by simp [hz])) (by simpa using hi) j v hj
theorem CRowA.slice {w : World} {B : Nat} {v : Value} {xs : List Cx} (h : CRowA w B v xs) : ∃ A c, v = .slice A xs.length c ∧ xs.length ≤ c ∧ c ≤ maxLen ∧ RowOf comC 137 w w.heap.size A xs := by
  rcases h.2.2 with ⟨rfl, hn⟩ | ⟨g, cap, cur, rfl, e1, hg, e2, e3, e4, e5⟩
  · exact ⟨none, 0, by rw [hn], by omega, by unfold maxLen; omega, fun hp => by omega⟩
  · refine ⟨_, cap, rfl, e2, e3, fun hp => ⟨g, 0, rfl, (Array.getElem?_eq_some_iff.1 hg).1, fun i x hi j v hj => ?_⟩⟩
    have hd := cxC_at h.1 hi j v hj
    rw [← e5] at hd
    have hlt := (List.getElem?_eq_some_iff.1 hd).1
    rw [List.length_take] at hlt
    rw [List.getElem?_take_of_lt (by omega)] at hd
    rw [cell_of_row w g _ cur 30 (0, 0) hg, Nat.zero_add]
    simpa using hd
theorem run_append_com {w : World} {B : Nat} {v : Value} {xs : List Cx} (h : CRowA w B v xs) (hB : B ≤ w.heap.size) (ty : TypeId) (g c : Nat) (x : Cx) (hx : CxW x) (hg : Arr w g 30 (comC x)) (hm : xs.length ≤ 1000) :
    ∃ v' w', (Builtin.append_ #[87, 87] ty #[v, .slice (some ⟨g, 0, none⟩) 1 c]).run Try.prog w = .ok v' w' ∧ CRowA w' B v' (xs ++ [x]) ∧ w.grownBy w' v.ownBlock ∧ (v'.ownBlock = v.ownBlock ∨ v'.ownBlock = some w.heap.size) := by
  obtain ⟨i0, hi, hz0, hz1, hz2⟩ := info_parts comAll
  have hadd : ∀ k, (⟨g, 0, none⟩ : Addr).add k = ⟨g, k, none⟩ := fun k => by unfold Addr.add; split <;> simp_all
  have hrun := run_append_own_at (P := Try.prog) w B 87 ty 30 i0 (.agg comZ.toArray) 137 232 Try.underlying87 hi hz0 hz1 hz2 rfl (by decide) v xs.length (cxC xs) h.2 ⟨g, 0, none⟩ 1 c (comC x) (by rw [hx.length]) (fun j u hj => by rw [hadd, hg.cell]; exact hj) (comC_one x) (by unfold maxLen; omega) (by omega) hB
  obtain ⟨v', w', h1, h2, h3, h4, h5⟩ := hrun
  refine ⟨v', w', h1, ⟨fun y hy => ?_, ?_⟩, h3, h5⟩
  · rcases List.mem_append.1 hy with hy | hy
    · exact h.1 y hy
    · rw [List.mem_singleton] at hy; rw [hy]; exact hx
  · rw [show cxC (xs ++ [x]) = cxC xs ++ comC x by unfold cxC; simp, List.length_append]
    exact h2
theorem wpList_append_com {ops : Array Oper} {rest : List Oper} {o : Oper} {a : Act} {w : World} {Q : Exit → Act → World → Prop} (hgd : o.guard = none) (s x : Operand) (ho : o.op = .call { callee := .builtin .append, args := #[s, x], argTypes := #[87, 87] })
    {B : Nat} {v : Value} {xs : List Cx} (h : CRowA w B v xs) (hB : B ≤ w.heap.size) (hs : a.eval s = v) (g c : Nat) (hx : a.eval x = .slice (some ⟨g, 0, none⟩) 1 c) (y : Cx) (hy : CxW y) (hg : Arr w g 30 (comC y)) (hm : xs.length ≤ 1000)
    (hK : ∀ v' w', CRowA w' B v' (xs ++ [y]) → w.grownBy w' v.ownBlock → (v'.ownBlock = v.ownBlock ∨ v'.ownBlock = some w.heap.size) → wpList Try.prog ops Q rest (a.put o.dst v') w') : wpList Try.prog ops Q (o :: rest) a w := by
  refine wpList_plain hgd fun K hK' => ?_
  obtain ⟨v', w', hr, h2, h3, h4⟩ := run_append_com h hB o.type g c y hy hg hm
  unfold Oper.wp execOp
  simp only [ho, resolve, invoke, builtin, Sem.run_bind, Sem.run_pure, Result.andThen_ok, List.map_toArray, List.map_cons, List.map_nil, hs, hx, hr]
  exact hK' _ _ (hK v' w' h2 h3 h4)

/-! ### between two rounds -/
/-- What was there in cells, but block Z, lies as it lay. -/
def KeepZ (Z : Nat) (X Y : World) : Prop := X.heap.size ≤ Y.heap.size ∧ ∀ k ob, X.heap[k]? = some ob → ob.isCells = true → k ≠ Z → Y.heap[k]? = some ob
theorem KeepZ.of_row {Z : Nat} {X Y : World} {row : Option Nat} (hg : X.grownBy Y row) (hr : ∀ r, row = some r → (∃ o : Obj, X.heap[r]? = some o ∧ o.isCells = false) ∨ r = Z) : KeepZ Z X Y :=
  ⟨hg.size, fun k ob hk ho hz => (hg.block k (Array.getElem?_eq_some_iff.1 hk).1 fun e => by
    rcases hr k e.symm with ⟨o, h1, h2⟩ | h
    · rw [hk] at h1; cases h1; rw [ho] at h2; cases h2
    · exact hz h).trans hk⟩
theorem KeepZ.cell {Z : Nat} {X Y : World} (h : KeepZ Z X Y) {k o : Nat} {v : Value} (hc : X.cell? ⟨k, o, none⟩ = some v) (hz : k ≠ Z) : Y.cell? ⟨k, o, none⟩ = some v := by
  obtain ⟨ob, e1, e2⟩ := cells_of_cell hc
  rw [← hc]
  exact World.cell?_of_block ((h.2 k ob e1 e2 hz).trans e1.symm)
theorem KeepZ.arr {Z : Nat} {X Y : World} (h : KeepZ Z X Y) {g : Nat} {T : TypeId} {cs : List Value} (ha : Arr X g T cs) (hz : g ≠ Z) : Arr Y g T cs := h.2 g _ ha rfl hz
theorem KeepZ.boxed {Z : Nat} {X Y : World} (h : KeepZ Z X Y) {g : Nat} {T : TypeId} {v : Value} (ha : Boxed X g T v) (hz : g ≠ Z) : Boxed Y g T v := h.2 g _ ha rfl hz
theorem KeepZ.own {Z T : Nat} {X Y : World} (h : KeepZ Z X Y) {ty : TypeId} {v : Value} (ha : Boxed X T ty v) (hz : T ≠ Z) : ownT T Y = ownT T X := by
  unfold ownT
  rw [ha.cell, (h.boxed ha hz).cell]
theorem KeepZ.ev {Z T P : Nat} {X Y : World} (h : KeepZ Z X Y) {A : Option Addr} {rs : List (List UInt8)} (he : EvIn X (FreeB T P Z X) A rs) (ho : ownT T Y = ownT T X) : EvIn Y (FreeB T P Z Y) A rs :=
  (he.move fun k o v hk hc => h.cell hc hk.2.2.2.1).mono fun k hk => ⟨Nat.lt_of_lt_of_le hk.1 h.1, hk.2.1, hk.2.2.1, hk.2.2.2.1, by rw [ho]; exact hk.2.2.2.2⟩
theorem FreeB.ev {T P Z : Nat} {X Y : World} {A : Option Addr} {rs : List (List UInt8)} (he : EvIn X (FreeB T P Z X) A rs) (hc : ∀ k o v, FreeB T P Z X k → X.cell? ⟨k, o, none⟩ = some v → Y.cell? ⟨k, o, none⟩ = some v) (hs : X.heap.size ≤ Y.heap.size) (ho : ∀ k, FreeB T P Z X k → ownT T Y ≠ some k) : EvIn Y (FreeB T P Z Y) A rs :=
  (he.move fun k o v hk hc' => hc k o v hk hc').mono fun k hk => ⟨Nat.lt_of_lt_of_le hk.1 hs, hk.2.1, hk.2.2.1, hk.2.2.2.1, ho k hk⟩
/-- What lies in memory between two rounds: W the world that Check was called in, N the one that the loop begins in. -/
structure CkM (g N : Nat) (root : List UInt8) (pre : List CxB) (V : World) : Prop where
  told : ∃ v, Boxed V (g + 3) 87 v ∧ CRowA V N v (pre.map fun x => x.1.1) ∧ v.ownBlock ≠ some (N + 2)
  prev : Arr V (g + 4) 26 (rC (endR root (coms pre)))
  story : Arr V (g + 1) 50 stZ
  err : Boxed V (g + 2) 34 (.int .i64 0)
  evs : ∀ x ∈ pre, EvIn V (FreeB (g + 3) (g + 4) (N + 2) V) x.1.1.Ae x.1.1.c.evs
  size : N ≤ V.heap.size
theorem CkM.keep {g N : Nat} {root : List UInt8} {pre : List CxB} {X Y : World} (hgN : g + 5 ≤ N) (h : CkM g N root pre X) (k : KeepZ (N + 2) X Y) : CkM g N root pre Y := by
  obtain ⟨v, h1, h2, h3⟩ := h.told
  have ho := k.own h1 (by omega)
  refine ⟨⟨v, k.boxed h1 (by omega), h2.kept fun b hb => ?_, h3⟩, k.arr h.prev (by omega), k.arr h.story (by omega), k.boxed h.err (by omega), fun x hx => k.ev (h.evs x hx) ho, Nat.le_trans h.size k.1⟩
  obtain ⟨cs, fr, e⟩ := ownsRow_typ h2.2 hb
  exact (k.2 b _ e rfl (fun e' => h3 (by rw [← e']; exact hb))).trans e.symm
/-- What is known between two rounds. -/
def CkI (w : World) (N n : Nat) (root : List UInt8) (bs : List (List UInt8)) (pre : List CxB) (V : World) : Prop :=
  (CkM w.heap.size N root pre V ∧ (∀ x ∈ pre, x.1.2 = true) ∧ pre.length ≤ bs.length ∧ ChainP n root (bs.take pre.length) (coms pre)) ∧ Below w.heap.size w V
/-- What is known where one isn't wanted. -/
def CkX (w : World) (n : Nat) (root : List UInt8) (bs : List (List UInt8)) (pre : List CxB) (V : World) : Prop :=
  (Arr V (w.heap.size + 1) 50 stZ ∧ Boxed V (w.heap.size + 2) 34 (.int .i64 3) ∧ ∀ cs, ¬ ToldP n root bs cs) ∧ Below w.heap.size w V
theorem ckI_own {w : World} {N n B : Nat} {root : List UInt8} {bs : List (List UInt8)} (hgN : w.heap.size + 5 ≤ N) (hB : w.heap.size ≤ B) : OwnFrom B (CkI w N n root bs) :=
  OwnFrom.and (fun s X Y row ⟨h1, h2⟩ hg hr => ⟨h1.keep hgN (KeepZ.of_row hg fun r e => .inl (hr r e).2), h2⟩) (ownFrom_below (Nat.le_refl _) hB)
theorem ckI_past {w : World} {N n : Nat} {root : List UInt8} {bs : List (List UInt8)} (hgN : w.heap.size + 5 ≤ N) (s : List CxB) (X Y : World) (h : CkI w N n root bs s X) (hg : X.grownBy Y (some (N + 2))) : CkI w N n root bs s Y :=
  ⟨⟨h.1.1.keep hgN (KeepZ.of_row hg fun r e => .inr (by injection e with e; exact e.symm)), h.1.2⟩, h.2.trans (Only.below (R := fun j => j = N + 2) ⟨hg.os, hg.tape, hg.output, hg.size, fun k hk hn => hg.block k hk (fun e => hn (by injection e))⟩ h.2.size (by rintro j rfl; omega))⟩
theorem ckX_own {w : World} {n B : Nat} {root : List UInt8} {bs : List (List UInt8)} (hB : w.heap.size ≤ B) : OwnFrom B (CkX w n root bs) :=
  OwnFrom.and (Own.from (fun s X Y row ⟨h1, h2, h3⟩ hg hr => ⟨h1.grownA hg hr, boxed_grownA h2 hg hr, h3⟩) _) (ownFrom_below (Nat.le_refl _) hB)
/-- A round's variable is laid; nothing else has turned. -/
structure CkA (w : World) (N n : Nat) (root : List UInt8) (bs : List (List UInt8)) (pre : List CxB) (x : CxB) (W0 V : World) (Bc : Nat) : Prop where
  inv : CkI w N n root bs pre V
  len : pre.length < bs.length
  yes : x.1.2 = true → LinkP (n - pre.length) (endD root (coms pre)) (bs.getD pre.length []) x.1.1.c ∧ EvIn V (FreeB (w.heap.size + 3) (w.heap.size + 4) (N + 2) V) x.1.1.Ae x.1.1.c.evs
  no : x.1.2 = false → ∀ c, ¬ LinkP (n - pre.length) (endD root (coms pre)) (bs.getD pre.length []) c
  var : Arr V Bc 30 (comC x.1.1)
  free : N + 3 ≤ Bc ∧ ownT (w.heap.size + 3) V ≠ some Bc
  z : ownT (w.heap.size + 3) W0 ≠ some (N + 2)
  kp : KpT (w.heap.size + 3) (w.heap.size + 4) W0 V
theorem CkA.keep {w : World} {N n : Nat} {root : List UInt8} {bs : List (List UInt8)} {pre : List CxB} {x : CxB} {W0 X Y : World} {Bc : Nat} (hgN : w.heap.size + 5 ≤ N) (h : CkA w N n root bs pre x W0 X Bc) (k : KeepZ (N + 2) X Y) (hb : Below w.heap.size w Y) (hz : ∀ ob, W0.heap[N + 2]? = some ob → ob.isCells = true → Y.heap[N + 2]? = some ob) : CkA w N n root bs pre x W0 Y Bc := by
  obtain ⟨v, h1, h2, h3⟩ := h.inv.1.1.told
  have ho := k.own h1 (by omega)
  refine ⟨⟨⟨h.inv.1.1.keep hgN k, h.inv.1.2⟩, hb⟩, h.len, fun e => ⟨(h.yes e).1, k.ev (h.yes e).2 ho⟩, h.no, k.arr h.var (by have := h.free.1; omega), ⟨h.free.1, by rw [ho]; exact h.free.2⟩, h.z, ⟨Nat.le_trans h.kp.size k.1, ?_, fun i o e1 e2 e3 e4 e5 => ?_⟩⟩
  · rw [ho]
    rcases h.kp.own with e | ⟨i, e1, e2, e3⟩
    · exact .inl e
    · exact .inr ⟨i, e1, e2, Nat.lt_of_lt_of_le e3 k.1⟩
  · by_cases hi : i = N + 2
    · subst hi; exact hz o e1 e2
    · exact k.2 i o (h.kp.kept i o e1 e2 e3 e4 e5) e2 hi
theorem CkA.own {w : World} {N n B : Nat} {root : List UInt8} {bs : List (List UInt8)} {pre : List CxB} {x : CxB} {W0 : World} {Bc : Nat} (hgN : w.heap.size + 5 ≤ N) (hB : w.heap.size ≤ B) : OwnFrom B (fun (_ : Unit) V => CkA w N n root bs pre x W0 V Bc) := fun _ X Y row h hg hr => by
  have hno : ∀ r, row = some r → ∃ o : Obj, X.heap[r]? = some o ∧ o.isCells = false := fun r e => (hr r e).2
  refine h.keep hgN (KeepZ.of_row hg fun r e => .inl (hno r e)) (ckI_own (n := n) (root := root) (bs := bs) hgN hB pre X Y row h.inv hg hr).2 fun ob e1 e2 => ?_
  have e3 := h.kp.kept _ ob e1 e2 (by omega) (by omega) h.z
  refine (hg.block _ (Array.getElem?_eq_some_iff.1 e3).1 fun e => ?_).trans e3
  obtain ⟨o, h1, h2⟩ := hno _ e.symm
  rw [e3] at h1
  cases h1
  rw [e2] at h2
  cases h2
theorem KpT.put {T P B : Nat} {W V : World} (h : KpT T P W V) {l : Nat} {o : Obj} (o' : Obj) (hT : T < B) (hl : B ≤ l) (ho : V.heap[l]? = some o) (hc : o.isCells = false) : KpT T P W (V.putObj l o') := by
  have hown : ownT T (V.putObj l o') = ownT T V := by
    unfold ownT
    rw [World.cell?_of_block (a := ⟨T, 0, none⟩) (World.putObj_heap_other (show T ≠ l by omega))]
  refine ⟨by rw [World.putObj_size]; exact h.size, ?_, fun k ob e1 e2 e3 e4 e5 => ?_⟩
  · rw [hown, World.putObj_size]; exact h.own
  · have e6 := h.kept k ob e1 e2 e3 e4 e5
    refine (World.putObj_heap_other fun e => ?_).trans e6
    subst e
    rw [ho] at e6
    cases e6
    rw [hc] at e2
    cases e2

end Go.Proofs.Ytlfddijmanlneaa

namespace Go.Proofs.Ytlfddijmanlneaa
open Go.RowKit Go.Shelf
set_option linter.unusedVariables false
set_option linter.unusedSimpArgs false

attribute [local go_sem] Oper.semAt_some

theorem keeps_onlyA {R : Nat → Prop} {W V : World} (h : Only R W V) (hR : ∀ k, R k → k < W.heap.size → ∃ (cs : Array Value) (t : TypeId) (fr : Nat × Nat), W.heap[k]? = some (Obj.cells cs t fr)) : KeepsOthers W V :=
  ⟨h.size, fun k o hk ho => (h.block k (Array.getElem?_eq_some_iff.1 hk).1 (fun hr => by
    obtain ⟨cs, t, fr, e⟩ := hR k hr (Array.getElem?_eq_some_iff.1 hk).1
    rw [hk] at e
    cases e
    cases ho)).trans hk⟩
theorem KpT.of_only {T P : Nat} {V W : World} (h : Only (fun k => k = T ∨ k = P ∨ ownT T V = some k) V W) (ho : ownT T W = ownT T V ∨ ∃ k, ownT T W = some k ∧ V.heap.size ≤ k ∧ k < W.heap.size) : KpT T P V W :=
  ⟨h.size, ho, fun k o hk _ h1 h2 h3 => (h.block k (Array.getElem?_eq_some_iff.1 hk).1 (fun hr => hr.elim h1 fun e => e.elim h2 h3)).trans hk⟩
theorem evs_le {b : List UInt8} {c : Com} (hd : IsDec b c) (h : Good b) : c.evs.length ≤ b.length := by
  obtain ⟨_, h6, _⟩ := h
  obtain ⟨e, _⟩ := dec_sound hd (by rw [h6])
  rw [h6, List.append_nil] at e
  have hf : ∀ l : List (List UInt8), l.length ≤ (l.flatMap encE).length := fun l => by
    induction l with
    | nil => simp
    | cons x l ih =>
      have : 0 < (Lib.uvarint x.length).length := Lib.uvarint_pos _
      rw [List.flatMap_cons, List.length_append, List.length_cons]
      unfold encE
      rw [List.length_append]
      unfold encE at ih
      omega
  have := hf c.evs
  rw [e]
  unfold encC
  simp only [List.length_append]
  omega
theorem chain_link : ∀ {bs : List (List UInt8)} {ep : Nat} {dg : List UInt8} {cs : List Com}, ChainP ep dg bs cs → ∀ c ∈ cs, ∃ b ∈ bs, ∃ ep dg, LinkP ep dg b c := by
  intro bs
  induction bs with
  | nil =>
    intro ep dg cs h c hc
    cases cs with
    | nil => cases hc
    | cons => exact h.elim
  | cons b bs ih =>
    intro ep dg cs h c hc
    cases cs with
    | nil => cases hc
    | cons d ds =>
      rcases List.mem_cons.1 hc with rfl | hc
      · exact ⟨b, List.mem_cons_self, _, _, h.1⟩
      · obtain ⟨b', hb, r⟩ := ih h.2 c hc
        exact ⟨b', List.mem_cons_of_mem _ hb, r⟩
theorem refs_eqv_all {a b : RefF} (ha : a.d.length = 32) (hb : b.d.length = 32) {XL YL : List Value} (hX : XL = rC a) (hY : YL = rC b) : ∃ r, (∀ w, (Op.equalIn 10000 26 (.agg XL.toArray) (.agg YL.toArray)).run Try.prog w = .ok r w) ∧ (r = true ↔ a = b) := by
  refine ⟨_, fun w => ref_eqv a.d b.d ha hb a.a a.n b.a b.n XL YL hX hY w, ?_⟩
  simp only [Bool.and_eq_true, decide_eq_true_eq, beq_iff_eq]
  obtain ⟨x, y, z⟩ := a
  obtain ⟨x', y', z'⟩ := b
  simp only [RefF.mk.injEq]
  exact ⟨fun ⟨⟨h1, h2⟩, h3⟩ => ⟨h1, h2, h3⟩, fun ⟨h1, h2, h3⟩ => ⟨⟨h1, h2⟩, h3⟩⟩
/-- What a Check answers, stored. -/
theorem check_put (w W : World) (SL XL : List Value) (k0 k : Value) (hS : Arr W (w.heap.size + 1) 50 SL) (hE : Boxed W (w.heap.size + 2) 34 k0) (hB : Below w.heap.size w W) :
    ∃ V1 V, V1 = W.setRow (w.heap.size + 1) XL.toArray ∧ V = V1.setCell ⟨w.heap.size + 2, 0, none⟩ k ∧ V1.cell? ⟨w.heap.size + 2, 0, none⟩ = some k0 ∧ V1.frozen? ⟨w.heap.size + 2, 0, none⟩ = false ∧ Arr V (w.heap.size + 1) 50 XL ∧ Boxed V (w.heap.size + 2) 34 k ∧ Below w.heap.size w V ∧ KeepsOthers W V := by
  obtain ⟨V1, hV1⟩ : ∃ z, z = W.setRow (w.heap.size + 1) XL.toArray := ⟨_, rfl⟩
  obtain ⟨V, hV⟩ : ∃ z, z = V1.setCell ⟨w.heap.size + 2, 0, none⟩ k := ⟨_, rfl⟩
  have o1 : Only (fun j => j = w.heap.size + 1 ∨ j = w.heap.size + 2) W V1 := by rw [hV1]; exact (Only.refl _ W).setRow (.inl (.inl rfl)) _
  have o2 : Only (fun j => j = w.heap.size + 2) V1 V := by rw [hV]; exact (Only.refl (fun j => j = w.heap.size + 2) V1).setCell (p := ⟨w.heap.size + 2, 0, none⟩) (.inl rfl) _
  have o3 : Only (fun j => j = w.heap.size + 1 ∨ j = w.heap.size + 2) W V := o1.trans (o2.more fun j _ h => .inr h)
  have o1' : Only (fun j => j = w.heap.size + 1) W V1 := by rw [hV1]; exact (Only.refl (fun j => j = w.heap.size + 1) W).setRow (.inl rfl) _
  have s1 : Arr V1 (w.heap.size + 1) 50 XL := by rw [hV1]; exact hS.setRow XL
  have e1 : Boxed V1 (w.heap.size + 2) 34 k0 := (o1'.block _ hE.lt (by omega)).trans hE
  have b1 : Below w.heap.size w V1 := hB.trans (o1.below hB.size (by rintro k (rfl | rfl) <;> omega))
  refine ⟨V1, V, hV1, hV, e1.cell, e1.frozen, s1.only o2 (by omega), ?_, b1.trans (o2.below b1.size (by rintro k rfl; omega)), keeps_onlyA o3 ?_⟩
  · rw [hV]; exact Boxed.set k e1
  · rintro j (rfl | rfl) _
    · exact ⟨_, _, _, hS⟩
    · exact ⟨_, _, _, hE⟩

set_option maxRecDepth 100000 in
set_option maxHeartbeats 16000000 in
theorem check_in (n : Nat) (hn40 : n ≤ 40) (root : List UInt8) (hr : root.length = 32) (RL : List Value) (hRL : RL = Lib.byteCells root) (bs : List (List UInt8)) (A : Option Addr) (c : Nat) (hbn : bs.length = n) (hc : n ≤ c) (hcm : c ≤ maxLen) (h3000 : ∀ b ∈ bs, b.length ≤ 3000) (w : World) (hrows : RowsAt w w.heap.size A bs) :
    CallsIn Fence.wide 6 Try.prog 20 #[.int .u64 n, .agg RL.toArray, .slice A n c] w fun e W' => Below w.heap.size w W' ∧
      ((∃ cs vs ve B, ToldP n root bs cs ∧ e = .returned (.tuple #[.agg #[.int .u64 n, vs, ve], .int .i64 0]) ∧ w.heap.size ≤ B ∧ DRow W' B vs (cs.reverse.map fun c => c.st) ∧ LRow W' B ve (cs.reverse.flatMap fun c => c.evs)) ∨
       ((∀ cs, ¬ ToldP n root bs cs) ∧ e = .returned (.tuple #[.agg stZ.toArray, .int .i64 3]))) := by
  have h15 : 1 ≤ 6 := by omega
  have hw64 : IntKind.u64.wrap (n : Int) = (n : Int) := IntWalk.u64_in _ (by omega)
  have hcm' : c ≤ 9223372036854775807 := by unfold maxLen at hcm; exact hcm
  have hRl : RL.length = 32 := by rw [hRL, Lib.byteCells_length, hr]
  have Hki := Lib.hid (show (Try.prog.info? 24).map (·.size) = some RL.toArray.size by rw [List.size_toArray, hRl]; exact digInfo)
  obtain ⟨PL, hPL⟩ : ∃ z, z = refC root 0 0 := ⟨_, rfl⟩
  have hPl : PL.length = 34 := by rw [hPL]; exact refC_length hr _ _
  have HPb := Lib.hid (show Try.prog.built 26 [(0, .agg RL.toArray)] = some PL.toArray by rw [hPL]; exact ref_built1 root RL hRL hr)
  have HPi := Lib.hid (show (Try.prog.info? 26).map (·.size) = some PL.toArray.size by rw [List.size_toArray, hPl]; exact refSize)
  have HP1 := Lib.hid (show PL.toArray.all (·.oneCell') = true by rw [List.all_toArray, List.all_eq_true, hPL]; exact refC_cell _ _ _)
  obtain ⟨ZL, hZL⟩ : ∃ z, z = refZ := ⟨_, rfl⟩
  have HZ := Lib.hid (fun w : World => show (zeroValue 26).run Try.prog w = .ok (.agg ZL.toArray) w by rw [hZL]; kernel_rfl)
  have HZb := Lib.hid (show Try.prog.built 26 [] = some ZL.toArray by rw [hZL]; kernel_rfl)
  have HZs := Lib.hid (show ZL.toArray.size = PL.toArray.size by rw [List.size_toArray, List.size_toArray, hPl, hZL]; rfl)
  have HZL := Lib.hid hZL
  have HRl := Lib.hid hRl
  have HRL := Lib.hid hRL
  have HPL := Lib.hid hPL
  have Hr := Lib.hid hr
  have Hbn := Lib.hid hbn
  have Hcm := Lib.hid hcm
  have H3 := Lib.hid h3000
  have Hrows := Lib.hid hrows
  clear hRL hRl hPL hPl hZL hr hbn hcm h3000 hrows
  refine callsIn_of_wp_marks Try.func20 rfl trivial ?_ rfl
  simp only [Try.ntmps20, List.size_toArray, List.length_cons, List.length_nil, Nat.reduceAdd, Nat.reduceSub, Array.replicate_succ, Array.replicate_zero, List.push_toArray, List.append_toArray, List.nil_append, List.cons_append]
  obtain ⟨W4, hW4, hs4, hA, hS, hE, hT, hB4⟩ := check_laid w RL
  obtain ⟨W5, hW5⟩ : ∃ z, z = (W4.alloc (.cells ZL.toArray 26)).setRow W4.heap.size PL.toArray := ⟨_, rfl⟩
  obtain ⟨hP5, hb5⟩ := alloc_row W4 26 ZL.toArray PL
  rw [← hW5] at hP5 hb5
  rw [hs4] at hP5
  have hB5 := hB4.trans (hb5.mono hB4.size)
  have hA5 := hA.up hb5
  have hS5 := hS.up hb5
  have hE5 : Boxed W5 (w.heap.size + 2) 34 (.int .i64 0) := (hb5.block _ hE.lt).trans hE
  have hT5 : Boxed W5 (w.heap.size + 3) 87 (.slice none 0 0) := (hb5.block _ hT.lt).trans hT
  have hA' : W4.heap[w.heap.size]? = some (.cells RL.toArray 24 (0, 0)) := hA
  have hA5' : W5.heap[w.heap.size]? = some (.cells RL.toArray 24 (0, 0)) := hA5
  have HW4 := Lib.hid hW4
  have HW5 := Lib.hid hW5
  clear hW4 hW5 hA hS hE hT hb5
  refine wpIn_wide.2 ?_
  go_upto_region 4 with fail
  change Code.wp _ _ _ _ ((((w.alloc (.cells RL.toArray 24)).alloc (.cells #[.int .u64 0, .slice none 0 0, .slice none 0 0] 50)).alloc (.cells #[.int .i64 0] 34)).alloc (.cells #[.slice none 0 0] 87))
  rw [← HW4.out]
  go_wp2_with (first
    | ((with_reducible refine wpList_atA 18 (by rfl) ?_); refine wpList_load_row rfl _ _ rfl w.heap.size rfl 24 RL.toArray (0, 0) _ hA' Try.underlying24 rfl Hki.out ?_)
    | ((with_reducible refine wpList_atA 19 (by rfl) ?_); refine wpList_builtD rfl _ _ rfl _ rfl PL.toArray HPb.out ?_)
    | ((with_reducible refine wpList_atA 9 (by rfl) ?_); refine wpList_allocZA rfl 26 rfl ZL.toArray (HZ.out _) ?_)
    | (refine wpList_store_row rfl _ _ _ rfl W4.heap.size PL.toArray rfl rfl 26 ZL.toArray (heap_alloc_new W4 _) HPi.out HZs.out HP1.out ?_; rw [← HW5.out])
    | ((with_reducible refine wpList_atA 21 (by rfl) ?_); refine wpList_load_row rfl _ _ rfl w.heap.size rfl 24 RL.toArray (0, 0) _ hA5' Try.underlying24 rfl Hki.out ?_))
  refine Calls.mono (linked_run n RL A n c W5) ?_
  rintro e w6 ⟨rfl, b1, b2, b3, hb6⟩
  have hB6 := hB5.trans (hb6.mono hB5.size)
  have hP6 := hP5.up hb6
  have hS6 := hS5.up hb6
  have hE6 : Boxed w6 (w.heap.size + 2) 34 (.int .i64 0) := (hb6.block _ hE5.lt).trans hE5
  have hT6 : Boxed w6 (w.heap.size + 3) 87 (.slice none 0 0) := (hb6.block _ hT5.lt).trans hT5
  clear hP5 hS5 hE5 hT5 hA5 hA5' hA' hb6
  go_wp2_with fail
  rename_i Q1 K1 hK1
  have hgN : w.heap.size + 5 ≤ w6.heap.size := Arr.lt hP6
  have hT6o : ownT (w.heap.size + 3) w6 = none := by unfold ownT; rw [hT6.cell]; rfl
  obtain ⟨CZ, hCZ⟩ : ∃ z, z = comZ := ⟨_, rfl⟩
  have HCZ := Lib.hid (fun w : World => show (zeroValue 30).run Try.prog w = .ok (.agg CZ.toArray) w by rw [hCZ]; exact comZero w)
  have HCl := Lib.hid (show CZ.length = 137 by rw [hCZ]; rfl)
  clear hCZ
  refine (wpIn_wide (n := 6)).1 ?_
  refine wpIn_rangeG (α := CxB) rfl h15 (gf := 72) (lb := #[.pointer (some ⟨W5.heap.size, 0, none⟩), .pointer (some ⟨W5.heap.size + 1, 0, none⟩), .pointer (some ⟨W5.heap.size + 1 + 1, 0, none⟩)]) rfl trivial (enters_of Try.func72 (by kernel_rfl) rfl)
    (linked_seq (6 - 1) (by omega) (w.heap.size + 3) (w.heap.size + 4) w.heap.size w6.heap.size n (by omega) [] RL root Hr.out HRL.out bs A c Hbn.out hc Hcm.out hn40 H3.out w6 W5.heap.size (W5.heap.size + 1) (W5.heap.size + 1 + 1) b1 b2 b3 (Hrows.out.below hB6 (Nat.le_refl _)) (by omega) (by omega) (by omega) (by omega) (Nat.le_refl _) hB6.size (fun k hk => by rw [hT6o] at hk; cases hk))
    (fun _ => rfl) (fun W V l o o' h1 h2 h3 h4 => h4.put o' (by omega) h1 h2 h3)
    (CkI w w6.heap.size n root bs) (CkX w n root bs) (ckI_own hgN hB6.size) (ckX_own hB6.size) (fun s X Y h hg => ckI_past hgN s X Y h hg)
    ⟨⟨⟨⟨_, hT6, CRowA.nil _ _, by simp [Value.ownBlock]⟩, by rw [HPL.out] at hP6; exact hP6, hS6, hE6, (fun x hx => by cases hx), Nat.le_refl _⟩, (fun x hx => by cases hx), Nat.zero_le _, trivial⟩, hB6⟩
    (fun pre x W0 a' V => ∃ Bc, CkA w w6.heap.size n root bs pre x W0 V Bc ∧ a' = { tmps := #[.int .u64 n, .agg RL.toArray, .slice A n c, undef, .pointer (some ⟨w.heap.size, 0, none⟩), undef, .pointer (some ⟨w.heap.size + 1, 0, none⟩), .pointer (some ⟨w.heap.size + 1 + 1, 0, none⟩), .pointer (some ⟨w.heap.size + 1 + 1 + 1, 0, none⟩), .pointer (some ⟨w.heap.size + 4, 0, none⟩), .pointer (some ⟨Bc, 0, none⟩), .bool x.1.2, .slice A n c, .int .i64 n, .int .u64 n, .int .u64 n, .bool false, undef, .agg RL.toArray, .agg PL.toArray, .int .u64 n, .agg RL.toArray, .slice A n c, .func (.func 72) #[] #[.pointer (some ⟨W5.heap.size, 0, none⟩), .pointer (some ⟨W5.heap.size + 1, 0, none⟩), .pointer (some ⟨W5.heap.size + 1 + 1, 0, none⟩)], .agg (comC x.1.1).toArray, .bool x.1.2, undef, undef, undef, undef, undef, undef, undef, undef, undef, undef, undef, undef, undef, undef, undef], defers := [] })
    (fun pre x W0 a' s X Y row ⟨Bc, h1, h2⟩ hg hr => ⟨Bc, CkA.own hgN hB6.size s X Y row h1 hg hr, h2⟩) ?assign ?body ?done ?stop
  case assign =>
    intro l pre x V K hI hG hK
    obtain ⟨⟨cx, fl⟩, hxw⟩ := x
    obtain ⟨XL, hXL⟩ : ∃ z, z = comC cx := ⟨_, rfl⟩
    have hXl : XL.length = 137 := by rw [hXL]; exact hxw.length
    have HXi := Lib.hid (show (Try.prog.info? 30).map (·.size) = some XL.toArray.size by rw [List.size_toArray, hXl]; exact comSize)
    have HXs := Lib.hid (show CZ.toArray.size = XL.toArray.size by rw [List.size_toArray, List.size_toArray, hXl, HCl.out])
    have HX1 := Lib.hid (show XL.toArray.all (·.oneCell') = true by rw [hXL]; exact all_oneC (comC_one _))
    obtain ⟨V2, hV2⟩ : ∃ z, z = (V.alloc (.cells CZ.toArray 30)).setRow V.heap.size XL.toArray := ⟨_, rfl⟩
    obtain ⟨hX2, hb2⟩ := alloc_row V 30 CZ.toArray XL
    rw [← hV2] at hX2 hb2
    have HV2 := Lib.hid hV2
    have hkz : KeepZ (w6.heap.size + 2) V V2 := ⟨hb2.size, fun k ob e1 e2 _ => (hb2.block k (Array.getElem?_eq_some_iff.1 e1).1).trans e1⟩
    obtain ⟨vt, t1, t2, t3⟩ := hI.1.1.told
    have hTl := t1.lt
    have hoV : ownT (w.heap.size + 3) V = vt.ownBlock := by unfold ownT; rw [t1.cell]; rfl
    have hoV2 : ownT (w.heap.size + 3) V2 = ownT (w.heap.size + 3) V := ownT_below hb2 hTl
    have hbw2 : Below w.heap.size w V2 := hI.2.trans (hb2.mono hI.2.size)
    have hAx := hK { tmps := #[.int .u64 n, .agg RL.toArray, .slice A n c, undef, .pointer (some ⟨w.heap.size, 0, none⟩), undef, .pointer (some ⟨w.heap.size + 1, 0, none⟩), .pointer (some ⟨w.heap.size + 1 + 1, 0, none⟩), .pointer (some ⟨w.heap.size + 1 + 1 + 1, 0, none⟩), .pointer (some ⟨w.heap.size + 4, 0, none⟩), .pointer (some ⟨V.heap.size, 0, none⟩), .bool fl, .slice A n c, .int .i64 n, .int .u64 n, .int .u64 n, .bool false, undef, .agg RL.toArray, .agg PL.toArray, .int .u64 n, .agg RL.toArray, .slice A n c, .func (.func 72) #[] #[.pointer (some ⟨W5.heap.size, 0, none⟩), .pointer (some ⟨W5.heap.size + 1, 0, none⟩), .pointer (some ⟨W5.heap.size + 1 + 1, 0, none⟩)], .agg XL.toArray, .bool fl, undef, undef, undef, undef, undef, undef, undef, undef, undef, undef, undef, undef, undef, undef, undef], defers := [] } V2 ⟨hb2.size, fun k o _ hk _ => (hb2.block k (Array.getElem?_eq_some_iff.1 hk).1).trans hk⟩ ⟨V.heap.size, ?ca, by rw [hXL]⟩
    case ca =>
      refine ⟨⟨⟨hI.1.1.keep hgN hkz, hI.1.2⟩, hbw2⟩, hG.1.1, fun e => ⟨(hG.2.1 e).1, hkz.ev (hG.2.1 e).2 hoV2⟩, hG.2.2, by rw [← hXL]; exact hX2, ⟨hG.1.2, ?_⟩, by rw [hoV]; exact t3, ⟨hb2.size, .inl hoV2, fun k o e1 _ _ _ _ => (hb2.block k (Array.getElem?_eq_some_iff.1 e1).1).trans e1⟩⟩
      · rw [hoV2, hoV]
        intro e
        have := (t2.lt _ e).2
        omega
    unfold encB
    simp only [List.zip_toArray, List.zip_cons_cons, List.zip_nil_left, List.zip_nil_right, List.foldl_toArray, List.foldl_cons, List.foldl_nil, List.setIfInBounds_toArray, List.set_cons_zero, List.set_cons_succ]
    rw [← hXL]
    refine wpIn_seq_k fun K2 hK2 => ?_
    refine regionIn_of (fun ⟨_, _, h⟩ => h) rfl ?_
    go_wp2_with (first | ((with_reducible refine wpList_atA 10 (by rfl) ?_); refine wpList_allocZA rfl 30 rfl CZ.toArray (HCZ.out _) ?_) | (change wpList _ _ _ _ _ (V.alloc (.cells CZ.toArray 30)); refine wpList_store_row rfl _ _ _ rfl V.heap.size XL.toArray rfl rfl 30 CZ.toArray (heap_alloc_new V _) HXi.out HXs.out HX1.out ?_; rw [← HV2.out]))
    refine regionIn_of (fun ⟨_, _, h⟩ => h) rfl ?_
    go_wp2_with fail
    rw [HV2.out, hXL] at hAx
    exact hAx
  case body =>
    rintro l pre ⟨⟨cx, fl⟩, hxw⟩ W0 a' V ⟨Bc, hA, rfl⟩
    have hgV := hA.inv.1.1.size
    refine wpIn_block ?_
    refine wpIn_seq_k fun K1 hK1 => ?_
    refine wpIn_seq_k fun K2 hK2 => ?_
    refine regionIn_of (fun ⟨_, _, h⟩ => h) rfl ?_
    go_wp2_with fail
    cases fl with
    | false =>
      refine wpIn_cond_true rfl ?_
      refine wpIn_seq_k fun K3 hK3 => ?_
      refine regionIn_of (fun ⟨_, _, h⟩ => h) rfl ?_
      have hSi : (Try.prog.info? 50).map (·.size) = some stZ.toArray.size := by kernel_rfl
      have hS1 : stZ.toArray.all (·.oneCell') = true := by rw [List.all_toArray, List.all_eq_true]; intro v hv; simp only [stZ, List.mem_cons, List.not_mem_nil, or_false] at hv; rcases hv with rfl | rfl | rfl <;> rfl
      have hSb : Try.prog.built 50 [] = some stZ.toArray := by kernel_rfl
      obtain ⟨V1, V2, e1, e2, k2, k3, k4, k5, k7, k8⟩ := check_put w V stZ stZ (.int .i64 0) (.int .i64 3) hA.inv.1.1.story hA.inv.1.1.err hA.inv.2
      have E1 := Lib.hid e1
      have E2 := Lib.hid e2
      have hS' : V.heap[w.heap.size + 1]? = some (.cells stZ.toArray 50 (0, 0)) := hA.inv.1.1.story
      clear e1 e2
      go_wp2_with (first
        | ((with_reducible refine wpList_atA 28 (by rfl) ?_); refine wpList_builtD rfl _ _ rfl _ rfl stZ.toArray hSb ?_)
        | (refine wpList_store_row rfl _ _ _ rfl (w.heap.size + 1) stZ.toArray rfl rfl 50 stZ.toArray hS' hSi (Eq.refl _) hS1 ?_; rw [← E1.out]))
      (try rw [← E2.out])
      refine wpIn_ret ?_
      show KeepsFrom _ _ _ ∧ _
      refine ⟨k8.from _, ⟨k4, k5, fun cs h => ?_⟩, k7⟩
      obtain ⟨c', hc'⟩ := chain_cut (coms pre) (bs.getD pre.length []) pre.length h.2.1 hA.len rfl hA.inv.1.2.2.2
      exact hA.no rfl c' hc'
    | true =>
      refine wpIn_cond_false rfl ?_
      refine wpIn_skip ?_
      refine hK1 _ _ ?_
      obtain ⟨vt, t1, t2, t3⟩ := hA.inv.1.1.told
      have hlen := hA.len
      have hbl := Hbn.out
      have hoV : ownT (w.heap.size + 3) V = vt.ownBlock := by unfold ownT; rw [t1.cell]; rfl
      have hovl := t2.lt
      have hot := fun g hg => ownsRow_typ t2.2 (g := g) hg
      have hoB : vt.ownBlock ≠ some Bc := by rw [← hoV]; exact hA.free.2
      have hBc3 := hA.free.1
      have hBcl := Arr.lt hA.var
      obtain ⟨XL, hXL⟩ : ∃ z, z = comC cx := ⟨_, rfl⟩
      have hXl : XL.length = 137 := by rw [hXL]; exact hxw.length
      have HXi := Lib.hid (show (Try.prog.info? 30).map (·.size) = some XL.toArray.size by rw [List.size_toArray, hXl]; exact comSize)
      have hX : V.heap[Bc]? = some (.cells XL.toArray 30 (0, 0)) := by rw [hXL]; exact hA.var
      obtain ⟨V1, hV1⟩ : ∃ z, z = V.alloc (.cells XL.toArray 30) := ⟨_, rfl⟩
      have hb1 : Below V.heap.size V V1 := by rw [hV1]; exact (Below.refl _ V).alloc (Nat.le_refl _) _
      have hC1 : Arr V1 V.heap.size 30 (comC cx) := by rw [hV1, ← hXL]; exact Arr.new V _ _
      have hs1 : V1.heap.size = V.heap.size + 1 := by rw [hV1]; simp
      have hr1 : CRowA V1 w6.heap.size vt (pre.map fun x => x.1.1) := t2.kept fun g hg => hb1.block g (hovl g hg).2
      have hT1 : Boxed V1 (w.heap.size + 3) 87 vt := (hb1.block _ t1.lt).trans t1
      have hml : (pre.map fun x : CxB => x.1.1).length ≤ 1000 := by rw [List.length_map]; omega
      have HV1 := Lib.hid hV1
      clear hV1
      obtain ⟨A0, c0, rfl, hcc0, hmm0, _⟩ := t2.slice
      have hTc := t1.cell
      generalize hpl : (pre.map fun x : CxB => x.1.1).length = pl at *
      refine wpIn_seq_k fun K4 hK4 => ?_
      refine regionIn_of (fun ⟨_, _, h⟩ => h) rfl ?_
      go_wp2_with (first
        | ((with_reducible refine wpList_atA 30 (by rfl) ?_); refine wpList_load_row rfl _ _ rfl Bc rfl 30 XL.toArray (0, 0) _ hX Try.underlying30 rfl HXi.out ?_)
        | ((with_reducible refine wpList_atA 31 (by rfl) ?_); refine wpList_build_com rfl _ rfl XL hXl rfl ?_; rw [← HV1.out])
        | ((with_reducible refine wpList_atA 32 (by rfl) ?_); refine wpList_append_com rfl _ _ rfl hr1 (by omega) rfl V.heap.size 1 rfl cx hxw hC1 (by omega) ?_; intro v1 W2 hd1 hg1 ho1; obtain ⟨A2, c2, rfl, hcc2, hmm2, _⟩ := hd1.slice; have bT : Boxed W2 (w.heap.size + 3) 87 (.slice A0 pl c0) := (hg1.block _ hT1.lt (fun e => by have := (hovl _ e.symm).1; omega)).trans hT1; have hcT := bT.cell; have hfT := bT.frozen))
      have hlen1 : (pre.map (fun x : CxB => x.1.1) ++ [cx]).length = pl + 1 := by rw [List.length_append, hpl]; rfl
      rw [hlen1] at hd1 ho1
      obtain ⟨W3, hW3⟩ : ∃ z, z = W2.setCell ⟨w.heap.size + 3, 0, none⟩ (.slice A2 (pl + 1) c2) := ⟨_, rfl⟩
      have o23 : Only (fun j => j = w.heap.size + 3) W2 W3 := by rw [hW3]; exact (Only.refl (fun j => j = w.heap.size + 3) W2).setCell (p := ⟨w.heap.size + 3, 0, none⟩) (.inl rfl) _
      have bT3 : Boxed W3 (w.heap.size + 3) 87 (.slice A2 (pl + 1) c2) := by rw [hW3]; exact Boxed.set _ bT
      have hl2 := fun g hg => hd1.lt g hg
      have hr3 : CRowA W3 w6.heap.size (.slice A2 (pl + 1) c2) (pre.map (fun x : CxB => x.1.1) ++ [cx]) := hd1.kept fun g hg => o23.block g (hl2 g hg).2 (fun e => by have := (hl2 g hg).1; omega)
      have hsz12 := hg1.size
      have hX2 : W2.heap[Bc]? = some (.cells XL.toArray 30 (0, 0)) := (hg1.block Bc (by omega) (fun e => hoB e.symm)).trans ((hb1.block Bc hBcl).trans hX)
      have hX3 : Arr W3 Bc 30 XL := (o23.block Bc (by omega) (by omega)).trans hX2
      obtain ⟨PL2, hPL2⟩ : ∃ z, z = rC cx.c.r1 := ⟨_, rfl⟩
      have hPl2 : PL2.length = 34 := by rw [hPL2]; exact rC_length hxw.r1
      have HR2 := Lib.hid (show W3.rangeAt Bc 1 PL2 by
        rw [hXL] at hX3
        rw [hPL2]
        exact (Arr.com hX3 (rC_length hxw.r1) (rC_length hxw.r2) (rC_length hxw.r3) (by rw [Lib.byteCells_length, hxw.st])).r1)
      have HRi := Lib.hid (show (Try.prog.info? 26).map (·.size) = some PL2.length by rw [hPl2]; exact refSize)
      have HRi' := Lib.hid (show (Try.prog.info? 26).map (·.size) = some PL2.toArray.size by rw [List.size_toArray, hPl2]; exact refSize)
      have HR1' := Lib.hid (show PL2.toArray.all (·.oneCell') = true by rw [List.all_toArray, List.all_eq_true, hPL2]; exact refC_cell _ _ _)
      have hP0 := hA.inv.1.1.prev
      obtain ⟨PZ, hPZ⟩ : ∃ z, z = rC (endR root (coms pre)) := ⟨_, rfl⟩
      rw [← hPZ] at hP0
      have hPz : PZ.length = 34 := by
        have := hP0.lt
        rw [hPZ]
        unfold endR
        split
        · exact refC_length Hr.out _ _
        · rename_i cl hcl
          obtain ⟨y, hy1, hy2⟩ := List.mem_map.1 (List.mem_of_getLast? hcl)
          rw [← hy2]
          exact rC_length y.2.r1
      have HPs := Lib.hid (show PZ.toArray.size = PL2.toArray.size by rw [List.size_toArray, List.size_toArray, hPz, hPl2])
      have hP2 : W2.heap[w.heap.size + 4]? = some (.cells PZ.toArray 26 (0, 0)) := (hg1.block _ (by omega) (fun e => by have := (hovl _ e.symm).1; omega)).trans ((hb1.block _ hP0.lt).trans hP0)
      have hP3 : Arr W3 (w.heap.size + 4) 26 PZ := (o23.block _ (by omega) (by omega)).trans hP2
      have hP3' : W3.heap[w.heap.size + 4]? = some (.cells PZ.toArray 26 (0, 0)) := hP3
      obtain ⟨W4', hW4'⟩ : ∃ z, z = W3.setRow (w.heap.size + 4) PL2.toArray := ⟨_, rfl⟩
      have o34 : Only (fun j => j = w.heap.size + 4) W3 W4' := by rw [hW4']; exact (Only.refl (fun j => j = w.heap.size + 4) W3).setRow (.inl rfl) _
      have bP4 : Arr W4' (w.heap.size + 4) 26 PL2 := by rw [hW4']; exact hP3.setRow PL2
      have bT4 : Boxed W4' (w.heap.size + 3) 87 (.slice A2 (pl + 1) c2) := (o34.block _ bT3.lt (by omega)).trans bT3
      have hr4 : CRowA W4' w6.heap.size (.slice A2 (pl + 1) c2) (pre.map (fun x : CxB => x.1.1) ++ [cx]) := hr3.kept fun g hg => o34.block g (by have := (hl2 g hg).2; have := o23.size; omega) (fun e => by have := (hl2 g hg).1; omega)
      have hs23 := o23.size
      have hs34 := o34.size
      have hoW : ownT (w.heap.size + 3) W4' = (Value.slice A2 (pl + 1) c2).ownBlock := by unfold ownT; rw [bT4.cell]; rfl
      have oA : Only (fun k => k = w.heap.size + 3 ∨ k = w.heap.size + 4 ∨ ownT (w.heap.size + 3) V = some k) V W4' := by
        refine (((Only.of_below hb1).trans (World.grownBy.only hg1 fun g hg => ?_)).trans (o23.more fun j _ hj => .inl hj)).trans (o34.more fun j _ hj => .inr (.inl hj))
        exact .inr (.inr (by rw [hoV]; exact hg))
      have kpA : KpT (w.heap.size + 3) (w.heap.size + 4) V W4' := KpT.of_only oA (by
        rw [hoW, hoV]
        rcases ho1 with e | e
        · exact .inl e
        · exact .inr ⟨_, e, by omega, by have := (hl2 _ e).2; omega⟩)
      have hbw4 : Below w.heap.size w W4' := hA.inv.2.trans (oA.below hA.inv.2.size (by
        rintro j (rfl | rfl | e)
        · omega
        · omega
        · rw [hoV] at e; have := (hovl j e).1; omega))
      have koA : KeepsOthers V W4' := keeps_onlyA oA (by
        rintro j (rfl | rfl | e) _
        · exact ⟨_, _, _, t1⟩
        · exact ⟨_, _, _, hP0⟩
        · rw [hoV] at e; obtain ⟨cs, fr, e'⟩ := hot j e; exact ⟨cs, _, fr, e'⟩)
      have HW3 := Lib.hid hW3
      have HW4x := Lib.hid hW4'
      clear hW3 hW4'
      change Code.wpIn _ _ _ _ _ _ (W2.setCell ⟨w.heap.size + 3, 0, none⟩ (.slice A2 (pl + 1) c2))
      rw [← HW3.out]
      refine regionIn_of (fun ⟨_, _, h⟩ => h) rfl ?_
      go_wp2_with (first
        | ((with_reducible refine wpList_atA 34 (by rfl) ?_); refine wpList_load_mid rfl _ _ rfl Bc 1 rfl PL2 _ HR2.out Try.underlying26 rfl HRi.out ?_)
        | (refine wpList_store_row rfl _ _ _ rfl (w.heap.size + 4) PL2.toArray rfl rfl 26 PZ.toArray hP3' HRi'.out HPs.out HR1'.out ?_; rw [← HW4x.out]))
      show KeepsFrom _ _ _ ∧ _ ∧ _
      obtain ⟨y1, y2⟩ := hA.yes rfl
      have fr : ∀ {Ae : Option Addr} {rs : List (List UInt8)}, EvIn V (FreeB (w.heap.size + 3) (w.heap.size + 4) (w6.heap.size + 2) V) Ae rs → EvIn W4' (FreeB (w.heap.size + 3) (w.heap.size + 4) (w6.heap.size + 2) W4') Ae rs := fun he => by
        refine FreeB.ev he (fun k o v hk hc => kpA.cell hc hk.2.1 hk.2.2.1 hk.2.2.2.2) kpA.size (fun k hk e => ?_)
        rcases kpA.own with e' | ⟨i, e', h1, h2⟩
        · exact hk.2.2.2.2 (e' ▸ e)
        · rw [e'] at e; injection e with e; have := hk.1; omega
      refine ⟨koA.from _, hA.kp.trans kpA, ⟨⟨⟨_, bT4, ?_, ?_⟩, ?_, ?_, ?_, ?_, ?_⟩, ?_, ?_, ?_⟩, hbw4⟩
      · rw [List.map_append]; exact hr4
      · intro e
        rcases ho1 with e' | e'
        · rw [e] at e'; exact t3 e'.symm
        · rw [e] at e'; injection e' with e'; omega
      · rw [coms_snoc, endR_snoc, ← hPL2]; exact bP4
      · exact kpA.arr hA.inv.1.1.story (by omega) (by omega) (by rw [hoV]; intro e; have := (hovl _ e).1; omega)
      · exact (oA.block _ hA.inv.1.1.err.lt (by
          rintro (e | e | e)
          · omega
          · omega
          · rw [hoV] at e; have := (hovl _ e).1; omega)).trans hA.inv.1.1.err
      · intro x hx
        rcases List.mem_append.1 hx with h | h
        · exact fr (hA.inv.1.1.evs x h)
        · rw [List.mem_singleton.1 h]; exact fr y2
      · omega
      · intro x hx
        rcases List.mem_append.1 hx with h | h
        · exact hA.inv.1.2.1 x h
        · rw [List.mem_singleton.1 h]
      · rw [List.length_append, List.length_singleton]; exact hlen
      · rw [List.length_append, List.length_singleton, coms_snoc, List.take_add_one, List.getElem?_eq_getElem hlen]
        refine chain_snoc hA.inv.1.2.2.2 ?_
        rw [List.length_take, Nat.min_eq_left (by omega)]
        have := y1
        rw [List.getD_eq_getElem?_getD, List.getElem?_eq_getElem hlen] at this
        exact this
  case done =>
    have h56 := hB6.size
    rintro D xs W hD hS ⟨⟨hM, hfl, hle, hch⟩, hB⟩ hK
    have hl : xs.length = n := by
      rcases hS with h | ⟨x, hx, hf⟩
      · rw [h]; exact Hbn.out
      · rw [hfl x hx] at hf; cases hf
    have hch' : ChainP n root bs (coms xs) := by rw [hl, ← Hbn.out, List.take_length] at hch; rw [← Hbn.out]; exact hch
    obtain ⟨PL2, hPL2⟩ : ∃ z, z = rC (endR root (coms xs)) := ⟨_, rfl⟩
    have hrw : RefW (endR root (coms xs)) := by
      unfold endR
      split
      · exact ⟨Hr.out, zRefW.2, zRefW.3⟩
      · rename_i cl hcl
        obtain ⟨y, hy1, hy2⟩ := List.mem_map.1 (List.mem_of_getLast? hcl)
        rw [← hy2]
        exact y.2.r1
    have hPl2 : PL2.length = 34 := by rw [hPL2]; exact rC_length hrw
    obtain ⟨rz, hrz1, hrz2⟩ := refs_eqv_all hrw.d (show zR.d.length = 32 from rfl) hPL2 (show ZL = rC zR by rw [HZL.out]; rfl)
    have Hrz1 := Lib.hid hrz1
    have Hrz2 := Lib.hid hrz2
    clear hrz1 hrz2
    have HRi' := Lib.hid (show (Try.prog.info? 26).map (·.size) = some PL2.toArray.size by rw [List.size_toArray, hPl2]; exact refSize)
    have hS := hM.story
    have hE := hM.err
    have hP := hM.prev
    rw [← hPL2] at hP
    obtain ⟨vt, hT, hcr, _⟩ := hM.told
    have hEl := hE.lt
    have hTl := hT.lt
    have hPlt := Arr.lt hP
    have hgs := hM.size
    refine hK1 _ _ ?_
    clear hK1 HW4 HW5 hB4 hs4
    have hP' : W.heap[w.heap.size + 4]? = some (.cells PL2.toArray 26 (0, 0)) := hP
    have hE' := hE.cell
    have hEf := hE.frozen
    have hT' := hT.cell
    go_upto_if 37 with (first
      | ((with_reducible refine wpList_atA 35 (by rfl) ?_); refine wpList_load_row rfl _ _ rfl (w.heap.size + 4) rfl 26 PL2.toArray (0, 0) _ hP' Try.underlying26 rfl HRi'.out ?_)
      | ((with_reducible refine wpList_atA 36 (by rfl) ?_); refine wpList_builtD rfl _ _ rfl _ rfl ZL.toArray HZb.out ?_)
      | ((with_reducible refine wpList_atA 37 (by rfl) ?_); refine wpList_neqA (by rfl) _ _ _ _ rfl PL2 ZL rfl rfl _ Hrz1.out gtR ?_))
    have hSi : (Try.prog.info? 50).map (·.size) = some stZ.toArray.size := by kernel_rfl
    have hS1 : stZ.toArray.all (·.oneCell') = true := by rw [List.all_toArray, List.all_eq_true]; intro v hv; simp only [stZ, List.mem_cons, List.not_mem_nil, or_false] at hv; rcases hv with rfl | rfl | rfl <;> rfl
    have hSb : Try.prog.built 50 [] = some stZ.toArray := by kernel_rfl
    cases rz with
    | false =>
      obtain ⟨V1, V, e1, e2, k2, k3, k4, k5, k6, k7⟩ := check_stored w W D stZ stZ (.int .i64 0) (.int .i64 3) hS hE hK (by omega) hB
      have E1 := Lib.hid e1
      have E2 := Lib.hid e2
      have hS' : W.heap[w.heap.size + 1]? = some (.cells stZ.toArray 50 (0, 0)) := hS
      have hno := Lib.hid (show ∀ cs, ¬ ToldP n root bs cs from fun cs h => by
        have e := h.2.1.one hch'
        rw [e] at h
        exact absurd (Hrz2.out.2 h.2.2) (by simp))
      have k2' : V1.cell? ⟨w.heap.size + 1 + 1, 0, none⟩ = some (.int .i64 0) := k2
      have k3' : V1.frozen? ⟨w.heap.size + 1 + 1, 0, none⟩ = false := k3
      clear e1 e2 hS hE hT hP hP' hE' hEf hT' k2 k3
      go_wp2_with (first
        | ((with_reducible refine wpList_atA 38 (by rfl) ?_); refine wpList_builtD rfl _ _ rfl _ rfl stZ.toArray hSb ?_)
        | (refine wpList_store_row rfl _ _ _ rfl (w.heap.size + 1) stZ.toArray rfl rfl 50 stZ.toArray hS' hSi (Eq.refl _) hS1 ?_; rw [← E1.out]))
      (try rw [← E2.out])
      refine ⟨by simp, .inl ⟨_, _, rfl, run_takeDeferred k6, ?_⟩⟩
      have hg := grownBy_putObj' V D (.deferred none)
      have hr : ∀ r, some D = some r → ∃ o : Obj, V.heap[r]? = some o ∧ o.isCells = false := fun r e => by injection e with e; subst e; exact ⟨_, k6, rfl⟩
      have s7 : (V.putObj D (.deferred none)).heap[w.heap.size + 1]? = some (.cells stZ.toArray 50 (0, 0)) := k4.grownA hg hr
      have e7 := (boxed_grownA k5 hg hr).cell
      exact ⟨_, results_cellsA rfl _ _ ⟨w.heap.size + 1, 0, none⟩ ⟨w.heap.size + 2, 0, none⟩ _ _ rfl rfl (run_loadVar_row _ _ _ _ _ _ _ s7 Try.underlying50 rfl hSi) (by go_simp), k7.trans (belowK_b (w := w) (Nat.le_refl _) V D _ _ (by omega) k6 rfl rfl), .inr ⟨hno.out, rfl⟩⟩
    | true =>
      obtain ⟨A0, c0, rfl, hc0, hm0, hrow0⟩ := hcr.slice
      obtain ⟨ys, hys⟩ : ∃ z, z = xs.map (fun x : CxB => x.1.1) := ⟨_, rfl⟩
      rw [← hys] at hrow0 hc0 hT hT' hcr
      have hyl : ys.length = n := by rw [hys, List.length_map]; exact hl
      rw [hyl] at hc0 hT hT'
      have Htold := Lib.hid (show ToldP n root bs (coms xs) from ⟨Hbn.out, hch', Hrz2.out.1 rfl⟩)
      have Hst := Lib.hid (story_in ys n hyl hn40 (fun x hx => by
          rw [hys] at hx
          obtain ⟨y, _, rfl⟩ := List.mem_map.1 hx
          exact y.2) A0 c0 hc0 hm0 W hrow0 (fun x hx => by
          rw [hys] at hx
          obtain ⟨y, hy, rfl⟩ := List.mem_map.1 hx
          exact (hM.evs y hy).rows _ fun k hk => hk.1) (fun x hx => by
          rw [hys] at hx
          obtain ⟨y, hy, rfl⟩ := List.mem_map.1 hx
          obtain ⟨b, hb, _, _, hlk⟩ := chain_link hch' y.1.1.c (List.mem_map.2 ⟨y, hy, rfl⟩)
          have := evs_le hlk.1 hlk.2.1
          have := H3.out b hb
          omega))
      have eS : (ys.reverse.map fun x => x.c.st) = (coms xs).reverse.map fun c => c.st := by rw [hys]; unfold coms; simp
      have eE : (ys.reverse.flatMap fun x => x.c.evs) = (coms xs).reverse.flatMap fun c => c.evs := by rw [hys]; unfold coms; rw [← List.map_reverse, ← List.map_reverse, List.flatMap_map, List.flatMap_map]
      rw [eS, eE] at Hst
      clear hrow0 hcr hM hch' hch hfl eS eE hys
      go_wp2_with fail
      refine Calls.mono (callsIn_wide.1 Hst.out) ?_
      rintro e wx ⟨vs, ve, B, rfl, hBW, hdr, hlr, hbx⟩
      have hSx := hS.up hbx
      have hEx : Boxed wx (w.heap.size + 2) 34 (.int .i64 0) := (hbx.block _ hE.lt).trans hE
      have hDl := (Array.getElem?_eq_some_iff.1 hK).1
      have hKx : wx.heap[D]? = some (.deferred (some [])) := (hbx.block D hDl).trans hK
      obtain ⟨SL, hSL⟩ : ∃ z, z = [Value.int .u64 n, vs, ve] := ⟨_, rfl⟩
      have hSl : SL.length = 3 := by rw [hSL]; rfl
      have hSi2 : (Try.prog.info? 50).map (·.size) = some SL.toArray.size := by rw [List.size_toArray, hSl]; kernel_rfl
      have hSz : stZ.toArray.size = SL.toArray.size := by rw [List.size_toArray, List.size_toArray, hSl]; rfl
      have hS1' : SL.toArray.all (·.oneCell') = true := by
        obtain ⟨A1, c1, rfl, _⟩ := hdr.slice
        obtain ⟨A2, c2, rfl, _⟩ := hlr.sliceA
        rw [List.all_toArray, List.all_eq_true, hSL]
        intro v hv
        simp only [List.mem_cons, List.not_mem_nil, or_false] at hv
        rcases hv with rfl | rfl | rfl <;> rfl
      obtain ⟨V1, V, e1, e2, k2, k3, k4, k5, k6, k7⟩ := check_stored w wx D stZ SL (.int .i64 0) (.int .i64 0) hSx hEx hKx (by omega) (hB.trans (hbx.mono hB.size))
      have oV : Only (fun j => j = w.heap.size + 1 ∨ j = w.heap.size + 2) wx V := by
        rw [e2, e1]
        exact ((Only.refl _ wx).setRow (.inl (.inl rfl)) _).setCell (p := ⟨w.heap.size + 2, 0, none⟩) (.inl (.inr rfl)) _
      have oV' : Only (fun j => (j = w.heap.size + 1 ∨ j = w.heap.size + 2) ∨ j = D) wx (V.putObj D (.deferred none)) := (oV.more fun j _ h => .inl h).trans (World.grownBy.only (grownBy_putObj' V D (.deferred none)) fun g hg => .inr (by injection hg with hg; exact hg.symm))
      have Hdr := Lib.hid (show DRow (V.putObj D (.deferred none)) B vs _ from hdr.keptA fun g hg => oV'.block g (hdr.lt g hg).2 (by have := (hdr.lt g hg).1; rintro ((e | e) | e) <;> omega))
      have Hlr := Lib.hid (show LRow (V.putObj D (.deferred none)) B ve _ from hlr.keptA (fun g hg => oV'.block g (hlr.lt g hg).2 (by have := (hlr.lt g hg).1; rintro ((e | e) | e) <;> omega)) fun b o x hb hc => by
        have hne : ¬ ((b = w.heap.size + 1 ∨ b = w.heap.size + 2) ∨ b = D) := by
          rintro ((rfl | rfl) | rfl)
          · rw [hSx.cell] at hc
            rcases o with _ | _ | _ | o
            · cases hc
            · cases hc
            · cases hc
            · simp [stZ] at hc
          · rcases o with _ | o
            · rw [hEx.cell] at hc; cases hc
            · obtain ⟨ob, e1, e2⟩ := cells_of_cell hc
              rw [cell_of_row wx _ _ _ 34 (0, 0) hEx] at hc
              simp at hc
          · obtain ⟨ob, e1, e2⟩ := cells_of_cell hc
            rw [hKx] at e1
            cases e1
            cases e2
        rw [World.cell?_of_block (a := ⟨b, o, none⟩) (oV'.block b (cell_ltA hc) hne)]
        exact hc)
      have E1 := Lib.hid e1
      have E2 := Lib.hid e2
      have hS' : wx.heap[w.heap.size + 1]? = some (.cells stZ.toArray 50 (0, 0)) := hSx
      have hbW : w.heap.size ≤ W.heap.size := hB.size
      clear e1 e2 hS hE hT hP hP' hSx hEx hKx hbx hE' hEf hT' hdr hlr oV oV'
      rw [show (#[Value.int .u64 n, vs, ve] : Array Value) = SL.toArray by rw [hSL]]
      have HSL := Lib.hid hSL
      clear hSL
      go_wp2_with (refine wpList_store_row rfl _ _ _ rfl (w.heap.size + 1) SL.toArray rfl rfl 50 stZ.toArray hS' hSi2 hSz hS1' ?_; rw [← E1.out])
      (try rw [← E2.out])
      refine ⟨by simp, .inl ⟨_, _, rfl, run_takeDeferred k6, ?_⟩⟩
      have hg := grownBy_putObj' V D (.deferred none)
      have hr : ∀ r, some D = some r → ∃ o : Obj, V.heap[r]? = some o ∧ o.isCells = false := fun r e => by injection e with e; subst e; exact ⟨_, k6, rfl⟩
      have s7 : (V.putObj D (.deferred none)).heap[w.heap.size + 1]? = some (.cells SL.toArray 50 (0, 0)) := k4.grownA hg hr
      have e7 := (boxed_grownA k5 hg hr).cell
      exact ⟨_, results_cellsA rfl _ _ ⟨w.heap.size + 1, 0, none⟩ ⟨w.heap.size + 2, 0, none⟩ (.agg SL.toArray) (.int .i64 0) rfl rfl (run_loadVar_row _ _ _ _ _ _ _ s7 Try.underlying50 rfl hSi2) (by go_simp), k7.trans (belowK_b (w := w) (Nat.le_refl _) V D _ _ (by omega) k6 rfl rfl), .inl ⟨coms xs, vs, ve, B, Htold.out, by rw [HSL.out], by omega, Hdr.out, Hlr.out⟩⟩
  case stop =>
    rintro D pre W hD - ⟨⟨hS, hE, hno⟩, hB⟩ hK
    have h56 := hB6.size
    have hSi : (Try.prog.info? 50).map (·.size) = some stZ.toArray.size := by kernel_rfl
    refine wpIn_ret ?_
    refine ⟨by simp, .inl ⟨_, _, rfl, run_takeDeferred hK, ?_⟩⟩
    have hg := grownBy_putObj' W D (.deferred none)
    have hr : ∀ r, some D = some r → ∃ o : Obj, W.heap[r]? = some o ∧ o.isCells = false := fun r e => by injection e with e; subst e; exact ⟨_, hK, rfl⟩
    have s7 : (W.putObj D (.deferred none)).heap[w.heap.size + 1]? = some (.cells stZ.toArray 50 (0, 0)) := hS.grownA hg hr
    have e7 := (boxed_grownA hE hg hr).cell
    exact ⟨_, results_cellsA rfl _ _ ⟨w.heap.size + 1, 0, none⟩ ⟨w.heap.size + 2, 0, none⟩ _ _ rfl rfl (run_loadVar_row _ _ _ _ _ _ _ s7 Try.underlying50 rfl hSi) (by go_simp), hB.trans (belowK_b (w := w) (Nat.le_refl _) W D _ _ (by omega) hK rfl rfl), .inr ⟨hno, rfl⟩⟩

end Go.Proofs.Ytlfddijmanlneaa

namespace Go.Proofs.Ytlfddijmanlneaa
open Go.RowKit Go.Shelf
set_option linter.unusedVariables false
set_option linter.unusedSimpArgs false

attribute [local go_sem] Oper.semAt_some

set_option maxRecDepth 100000 in
set_option maxHeartbeats 4000000 in
/-- A count of commits that isn't the counter's. -/
theorem check_off (ep n : Nat) (hne : ep ≠ n) (hep : ep < 18446744073709551616) (root : List UInt8) (hr : root.length = 32) (RL : List Value) (hRL : RL = Lib.byteCells root) (A : Option Addr) (c : Nat) (hc : n ≤ c) (hcm : c ≤ maxLen) (w : World) :
    CallsIn Fence.wide 6 Try.prog 20 #[.int .u64 ep, .agg RL.toArray, .slice A n c] w fun e W' => e = .returned (.tuple #[.agg stZ.toArray, .int .i64 3]) ∧ Below w.heap.size w W' := by
  have hcm' : c ≤ 9223372036854775807 := by unfold maxLen at hcm; exact hcm
  have hw64 : IntKind.u64.wrap (n : Int) = (n : Int) := IntWalk.u64_in _ (by omega)
  have h1 : decide ((n : Int) = (ep : Int)) = false := decide_eq_false (by omega)
  have h2 : ((n : Int) == (ep : Int)) = false := by rw [beq_eq_false_iff_ne]; omega
  have h3 : decide (n = ep) = false := decide_eq_false (fun e => hne e.symm)
  have h4 : (n == ep) = false := by rw [beq_eq_false_iff_ne]; exact fun e => hne e.symm
  have hRl : RL.length = 32 := by rw [hRL, Lib.byteCells_length, hr]
  have HRl := Lib.hid hRl
  clear hRL hRl hcm
  refine callsIn_of_wp_marks Try.func20 rfl trivial ?_ rfl
  simp only [Try.ntmps20, List.size_toArray, List.length_cons, List.length_nil, Nat.reduceAdd, Nat.reduceSub, Array.replicate_succ, Array.replicate_zero, List.push_toArray, List.append_toArray, List.nil_append, List.cons_append]
  obtain ⟨W1, hW1⟩ : ∃ z, z = w.alloc (.cells RL.toArray 24) := ⟨_, rfl⟩
  obtain ⟨W2, hW2⟩ : ∃ z, z = W1.alloc (.cells #[.int .u64 0, .slice none 0 0, .slice none 0 0] 50) := ⟨_, rfl⟩
  obtain ⟨W3, hW3⟩ : ∃ z, z = W2.alloc (.cells #[.int .i64 0] 34) := ⟨_, rfl⟩
  have s1 : W1.heap.size = w.heap.size + 1 := by rw [hW1]; simp
  have s2 : W2.heap.size = w.heap.size + 2 := by rw [hW2]; simp [s1]
  have hS : Arr W3 (w.heap.size + 1) 50 stZ := by rw [hW3, ← s1, hW2]; exact (Arr.new W1 _ stZ).alloc _
  have hE : Boxed W3 (w.heap.size + 2) 34 (.int .i64 0) := by rw [← s2, hW3]; exact Boxed.new W2 _ _
  have hB : Below w.heap.size w W3 := by rw [hW3, hW2, hW1]; exact (((Below.refl _ w).alloc (Nat.le_refl _) _).alloc (by simp) _).alloc (by simp; omega) _
  obtain ⟨V1, V, e1, e2, k2, k3, k4, k5, k7, k8⟩ := check_put w W3 stZ stZ (.int .i64 0) (.int .i64 3) hS hE hB
  have hSi : (Try.prog.info? 50).map (·.size) = some stZ.toArray.size := by kernel_rfl
  have hS1 : stZ.toArray.all (·.oneCell') = true := by rw [List.all_toArray, List.all_eq_true]; intro v hv; simp only [stZ, List.mem_cons, List.not_mem_nil, or_false] at hv; rcases hv with rfl | rfl | rfl <;> rfl
  have hSb : Try.prog.built 50 [] = some stZ.toArray := by kernel_rfl
  have hS' : W3.heap[w.heap.size + 1]? = some (.cells stZ.toArray 50 (0, 0)) := hS
  have HW3 := Lib.hid (show W3 = ((w.alloc (.cells RL.toArray 24)).alloc (.cells #[.int .u64 0, .slice none 0 0, .slice none 0 0] 50)).alloc (.cells #[.int .i64 0] 34) by rw [hW3, hW2, hW1])
  have E1 := Lib.hid e1
  have E2 := Lib.hid e2
  clear hW1 hW2 hW3 e1 e2 hS hE hB s1 s2
  refine wpIn_wide.2 ?_
  go_upto_region 2 with fail
  change Code.wp _ _ _ _ (((w.alloc (.cells RL.toArray 24)).alloc (.cells #[.int .u64 0, .slice none 0 0, .slice none 0 0] 50)).alloc (.cells #[.int .i64 0] 34))
  rw [← HW3.out]
  go_wp2_with (first
    | ((with_reducible refine wpList_atA 17 (by rfl) ?_); refine wpList_builtD rfl _ _ rfl _ rfl stZ.toArray hSb ?_)
    | (refine wpList_store_row rfl _ _ _ rfl (w.heap.size + 1) stZ.toArray rfl rfl 50 stZ.toArray hS' hSi (Eq.refl _) hS1 ?_; rw [← E1.out]))
  (try rw [← E2.out])
  exact ⟨_, results_cellsA rfl _ _ ⟨w.heap.size + 1, 0, none⟩ ⟨w.heap.size + 2, 0, none⟩ (.agg stZ.toArray) (.int .i64 3) rfl rfl (run_loadVar_row _ _ _ _ _ _ _ k4 Try.underlying50 rfl hSi) (by have := k5.cell; go_simp), rfl, k7⟩
/-- audit.Check, as it answers. -/
def ChkPost (ep : Nat) (root : List UInt8) (bs : List (List UInt8)) (w : World) (e : Ending) (W' : World) : Prop :=
  Below w.heap.size w W' ∧
      ((∃ cs vs ve B, ToldP ep root bs cs ∧ e = .returned (.tuple #[.agg #[.int .u64 ep, vs, ve], .int .i64 0]) ∧ w.heap.size ≤ B ∧ DRow W' B vs (cs.reverse.map fun c => c.st) ∧ LRow W' B ve (cs.reverse.flatMap fun c => c.evs)) ∨
       ((∀ cs, ¬ ToldP ep root bs cs) ∧ e = .returned (.tuple #[.agg stZ.toArray, .int .i64 3])))
theorem check_any (ep : Nat) (hep : ep < 18446744073709551616) (root : List UInt8) (hr : root.length = 32) (RL : List Value) (hRL : RL = Lib.byteCells root) (bs : List (List UInt8)) (h40 : bs.length ≤ 40) (A : Option Addr) (n c : Nat) (hn : bs.length = n) (hc : n ≤ c) (hcm : c ≤ maxLen) (h3000 : ∀ b ∈ bs, b.length ≤ 3000) (w : World) (hrows : RowsAt w w.heap.size A bs) :
    Calls Try.prog 20 #[.int .u64 ep, .agg RL.toArray, .slice A n c] w (ChkPost ep root bs w) := by
  by_cases he : ep = n
  · subst he
    exact callsIn_wide.1 (check_in ep (by omega) root hr RL hRL bs A c hn hc hcm h3000 w hrows)
  · refine Calls.mono (callsIn_wide.1 (check_off ep n he hep root hr RL hRL A c hc hcm w)) ?_
    rintro e W' ⟨rfl, hb⟩
    exact ⟨hb, .inr ⟨fun cs h => he (by rw [← hn]; exact h.1.symm), rfl⟩⟩

end Go.Proofs.Ytlfddijmanlneaa

/-
  audit of no commits; the laws' example.
-/
import Derived.RangeFuncNested
import Derived.RangeFuncBound
import Derived.RangeFuncCalls
import Derived.RangeFuncLeaves
import Derived.RangeFuncBox
import Derived.Shelf.Abstract
import Derived.Shelf.RegionOpen
import Derived.WalkKit
import Derived.OwnWalkIn
import Derived.TacticsInMore
import Derived.LoopNIn
import Derived.LoopIn
import Derived.Test.YtlailhjpfadpcaaGen
import Derived.Test.YtlailhjpfadpcaaShaMath
import Derived.Test.YtlailhjpfadpcaaAuRef
import Derived.Deep.DeepCutAuto
import Derived.Deep.CutBlock
namespace Go.Proofs.Ytlailhjpfadpcaa
open Go.RowKit Go.Shelf
set_option linter.unusedVariables false
set_option linter.unusedSimpArgs false

attribute [local go_sem] Oper.semAt_some

theorem wpListIn_load_rowA {F : Fence} {n' : Nat} {P : Program} {ops : Array Oper} {rest : List Oper} {o : Oper} {a : Act} {w : World} {Q : Exit → Act → World → Prop} (hgd : o.guard = none) (ty : TypeId) (x : Operand) (ho : o.op = .load ty x)
    (g : Nat) (hx : a.eval x = .pointer (some ⟨g, 0, none⟩)) (t : TypeId) (cs : Array Value) (fr : Nat × Nat) (d : TypeDesc) (hg : w.heap[g]? = some (.cells cs t fr))
    (hu : P.underlying ty = some d) (hd : (match d with | .struct _ | .array _ _ => true | _ => false) = true) (hi : (P.info? ty).map (·.size) = some cs.size)
    (h : wpListIn F n' P ops Q rest (a.put o.dst (.agg cs)) w) : wpListIn F n' P ops Q (o :: rest) a w := by
  refine wpListIn_plain hgd fun K hK => ?_
  unfold Oper.wpIn
  refine ⟨?_, ?_⟩
  · simp [Oper.about, ho, resolve, Target.leads, Sem.run_pure]
  · rw [Oper.semAt_plain F _ _ (by rw [ho]; intro c hc'; cases hc')]
    simp only [execOp, ho, hx, Instr.loadAt, Instr.sureAddr, Sem.run_bind, Sem.run_pure, Result.andThen_ok, run_loadVar_row w g t ty cs fr d hg hu hd hi]
    exact hK _ _ h
theorem boxed_grownA {W W' : World} {row : Option Nat} {B : Nat} {T : TypeId} {v : Value} (h : Boxed W B T v) (hg : W.grownBy W' row) (hr : ∀ r, row = some r → ∃ o : Obj, W.heap[r]? = some o ∧ o.isCells = false) : Boxed W' B T v :=
  h.kept hg (fun e => by
    obtain ⟨o, ho, hc⟩ := hr B e.symm
    rw [show W.heap[B]? = some _ from h] at ho
    cases ho
    cases hc)
theorem Arr.grownA {W W' : World} {row : Option Nat} {g : Nat} {T : TypeId} {cs : List Value} (h : Arr W g T cs) (hg : W.grownBy W' row) (hr : ∀ r, row = some r → ∃ o : Obj, W.heap[r]? = some o ∧ o.isCells = false) : Arr W' g T cs := by
  refine (hg.block g h.lt fun e => ?_).trans h
  obtain ⟨o, ho, hc⟩ := hr g e.symm
  rw [show W.heap[g]? = some _ from h] at ho
  cases ho
  cases hc

theorem abides_belowA {β : Type} {B : Nat} {J : β → World → Prop} (h : AbidesFrom B J) {s : β} {w w' : World} (hs : J s w) (hb : Below w.heap.size w w') : J s w' :=
  h s w w' none hs ⟨hb.os, hb.tape, hb.output, hb.size, fun k hk _ => hb.block k hk⟩ (fun _ e => by cases e)

/-- An array, put into a block of its own. -/
theorem put_arrA {w : World} {g : Nat} {T : TypeId} {Z JL : List Value} (h : Arr w g T Z) (hl : Z.length = JL.length) :
    w.there g 0 JL.length ∧ Arr (w.setCells g 0 JL) g T JL ∧ Only (fun k => k = g) w (w.setCells g 0 JL) := by
  refine ⟨fun j hj => ?_, ?_, Only.setCells (R := fun k => k = g) rfl JL 0 _ (Only.refl _ w)⟩
  · rw [h.cell, h.frozen, Nat.zero_add, List.getElem?_eq_getElem (by omega)]
    exact ⟨rfl, rfl⟩
  · have h1 := Arr.setCells JL 0 _ w h (by omega)
    simpa using h1

/-- What linked gives: its closure; what it needs lies in boxes. -/
theorem linked_run (n : Nat) (RL : List Value) (A : Option Addr) (k c : Nat) (w : World) :
    Calls Try.prog 16 #[.int .u64 n, .agg RL.toArray, .slice A k c] w fun e w' => e = .returned (.func (.func 27) #[] #[.pointer (some ⟨w.heap.size, 0, none⟩), .pointer (some ⟨w.heap.size + 1, 0, none⟩), .pointer (some ⟨w.heap.size + 1 + 1, 0, none⟩)]) ∧
      Boxed w' w.heap.size 22 (.int .u64 n) ∧ Arr w' (w.heap.size + 1) 24 RL ∧ Boxed w' (w.heap.size + 1 + 1) 25 (.slice A k c) ∧ Below w.heap.size w w' := by
  have hmf : ∀ (fn : Fn) (first cap : Array Value) (w : World), (Instr.makeFunc fn first cap).run Try.prog w = .ok (.func fn first cap) w := fun _ _ _ _ => rfl
  obtain ⟨w1, hw1⟩ : ∃ z, z = w.alloc (.cells #[.int .u64 n] 22) := ⟨_, rfl⟩
  obtain ⟨w2, hw2⟩ : ∃ z, z = w1.alloc (.cells RL.toArray 24) := ⟨_, rfl⟩
  obtain ⟨w3, hw3⟩ : ∃ z, z = w2.alloc (.cells #[.slice A k c] 25) := ⟨_, rfl⟩
  have s1 : w1.heap.size = w.heap.size + 1 := by rw [hw1]; simp
  have s2 : w2.heap.size = w.heap.size + 1 + 1 := by rw [hw2]; simp [s1]
  have b1 : Boxed w3 w.heap.size 22 (.int .u64 n) := by
    rw [hw3, hw2, hw1]; exact ((Boxed.new w _ _).alloc _).alloc _
  have b2 : Arr w3 (w.heap.size + 1) 24 RL := by
    rw [hw3, hw2, ← s1]; exact (Arr.new w1 _ _).alloc _
  have b3 : Boxed w3 (w.heap.size + 1 + 1) 25 (.slice A k c) := by
    rw [hw3, ← s2]; exact Boxed.new w2 _ _
  have hb : Below w.heap.size w w3 := by
    rw [hw3, hw2, hw1]; exact (((Below.refl _ w).alloc (Nat.le_refl _) _).alloc (by simp) _).alloc (by simp; omega) _
  have HW := Lib.hid (show w3 = ((w.alloc (.cells #[.int .u64 n] 22)).alloc (.cells RL.toArray 24)).alloc (.cells #[.slice A k c] 25) by rw [hw3, hw2, hw1])
  clear hw1 hw2 hw3 s1 s2
  go_enter Try.func16, Try.ntmps16
  go_wp2
  go_ret
  rw [← HW.out]
  exact ⟨rfl, b1, b2, b3, hb⟩

set_option maxRecDepth 100000 in
set_option maxHeartbeats 4000000 in
/-- Of no commits nothing comes. -/
theorem linked0_stops (n : Nat) (hn : 1 ≤ n) (encs : Empty → Array Value) (Kp : World → World → Prop) (ep : Nat) (RL : List Value) (hRL : RL.length = 32) (hR1 : ∀ v ∈ RL, v.oneCell' = true) (A : Option Addr) (c : Nat) (w : World) (B1 B2 B3 : Nat)
    (h1 : Boxed w B1 22 (.int .u64 ep)) (h2 : Arr w B2 24 RL) (h3 : Boxed w B3 25 (.slice A 0 c)) :
    SeqStopsK Fence.wide n Try.prog 27 #[.pointer (some ⟨B1, 0, none⟩), .pointer (some ⟨B2, 0, none⟩), .pointer (some ⟨B3, 0, none⟩)] encs Kp (fun _ => True) (fun _ => False) 0 w := by
  intro l J Jx W hW hJ hJx hY h0
  have HJ := Lib.hid hJ
  have k1 : Boxed W B1 22 (.int .u64 ep) := (hW.block _ h1.lt).trans h1
  have k2 : W.heap[B2]? = some (.cells RL.toArray 24 (0, 0)) := h2.below hW h2.lt
  have k3 : Boxed W B3 25 (.slice A 0 c) := (hW.block _ h3.lt).trans h3
  have Hki := Lib.hid (show (Try.prog.info? 24).map (·.size) = some RL.length by rw [hRL]; kernel_rfl)
  have HR1 := Lib.hid (show RL.toArray.all (·.oneCell') = true by rw [List.all_toArray, List.all_eq_true]; exact hR1)
  clear hY hJ hJx h1 h2 h3 hR1
  refine callsIn_of_wp Try.func27 rfl trivial ?_ rfl
  simp only [Try.ntmps27, List.size_toArray, List.length_cons, List.length_nil, Nat.reduceAdd, Nat.reduceSub, Array.replicate_succ, Array.replicate_zero, List.push_toArray, List.append_toArray, List.nil_append, List.cons_append]
  refine wpIn_seq (wpIn_wide.2 ?_)
  refine wp_region_held_drew (S := fun w' => Boxed w' B1 22 (.int .u64 ep) ∧ Arr w' B2 24 RL) (by kernel_rfl) ⟨k1, k2⟩ (fun hHeld => ?_)
  refine anyH_take (i := 0) (v := .int .u64 ep) (some 12) rfl rfl (by kernel_rfl) (by kernel_rfl) (by kernel_rfl) (fun _ _ _ h => h) (Or.inl ⟨by rfl, fun w' hw => by (have hc := hw.1.cell; go_simp)⟩) (by assumption) ?_
  simp only [Act.put, List.setIfInBounds_toArray, List.set_cons_zero, List.set_cons_succ]
  refine anyH_take (i := 1) (v := .agg RL.toArray) (some 13) rfl rfl (by kernel_rfl) (by kernel_rfl) (by kernel_rfl) (fun _ _ _ h => h) (yieldsIf_load_mid (by rfl) 24 (.tmp 2) rfl B2 0 rfl RL _ (fun w' h => Arr.range h.2) Try.underlying24 rfl Hki.out) (by assumption) ?_
  simp only [Act.put, List.setIfInBounds_toArray, List.set_cons_zero, List.set_cons_succ]
  refine wpAnyH_ready (rs := [2]) (by kernel_rfl) (by simp) ?_
  refine AllReadyH.cons rfl (fun K hK => ?_) AllReadyH.nil
  go_simp
  change K _ ((W.alloc (.cells (Lib.byteCells zeros).toArray 24)).drew)
  obtain ⟨V, hV⟩ : ∃ z, z = (W.alloc (.cells (Lib.byteCells zeros).toArray 24)).drew := ⟨_, rfl⟩
  have hN0 : Arr V W.heap.size 24 (Lib.byteCells zeros) := by rw [hV]; exact Arr.new W _ _
  have hbV : Below W.heap.size W V := by rw [hV]; exact ((Below.refl _ W).alloc (Nat.le_refl _) _).drew
  rw [← hV]
  refine hK.out _ _ ⟨(hbV.block _ k1.lt).trans k1, (hbV.block _ (Arr.lt (w := W) k2)).trans k2⟩ (fun hHeldx => ?_)
  clear hK K hHeld hV
  try simp only [Act.put, List.setIfInBounds_toArray, List.set_cons_zero, List.set_cons_succ]
  refine anyH_take (i := 3) (v := .int .u64 ep) (some 5) rfl rfl (by kernel_rfl) (by kernel_rfl) (by kernel_rfl) (fun _ _ _ h => h) (Or.inl ⟨by rfl, fun w' hw => by rfl⟩) (by assumption) ?_
  simp only [Act.put, List.setIfInBounds_toArray, List.set_cons_zero, List.set_cons_succ]
  refine wpAnyH_ready (rs := [4]) (by kernel_rfl) (by simp) ?_
  refine AllReadyH.cons rfl (fun K hK => ?_) AllReadyH.nil
  rw [if_pos (by rfl)]
  obtain ⟨hth, hN, hO⟩ := put_arrA hN0 (show (Lib.byteCells zeros).length = RL.length by rw [hRL]; rfl)
  refine wp_store_mid 24 _ _ rfl W.heap.size 0 RL.toArray rfl rfl (by rw [List.size_toArray]; exact hth) (by rw [List.size_toArray]; exact Hki.out) HR1.out ?_
  obtain ⟨V2, hV2⟩ : ∃ z, z = V.setCells W.heap.size 0 RL := ⟨_, rfl⟩
  rw [show RL.toArray.toList = RL from rfl, ← hV2]
  rw [← hV2] at hN hO
  have hbW : Below W.heap.size W V2 := hbV.trans (hO.below hbV.size (by rintro j rfl; exact Nat.le_refl _))
  have q1 : Boxed V2 B1 22 (.int .u64 ep) := (hbW.block _ k1.lt).trans k1
  have q2 : Arr V2 B2 24 RL := (hbW.block _ (Arr.lt (w := W) k2)).trans k2
  have q3 := (hbW.block _ k3.lt).trans k3
  refine hK.out _ _ ⟨q1, q2⟩ (fun hHeldy => ?_)
  clear hK K hHeldx hHeldy hV2 hO hth hN0 hbV q1 q2
  try simp only [Act.put, List.setIfInBounds_toArray, List.set_cons_zero, List.set_cons_succ]
  refine wpAnyH_done (by kernel_rfl) ?_ _
  have hc3 := Boxed.cell q3
  have hJ2 : J [] V2 := abides_belowA HJ.out h0 hbW
  gi_wp2
  gi_loopw [16] (fun p wr => p = .int .i64 0 ∧ J [] wr) (fun _ _ => 0)
  case atStart => exact ⟨rfl, hJ2⟩
  case round =>
    obtain ⟨rfl, hJr⟩ := hrel
    gi_wp2
    go_end0
    exact ⟨⟨_, rfl⟩, .inl ⟨[], trivial, hJr⟩⟩


theorem backward0_run (A : Option Addr) (k c : Nat) (w : World) :
    Calls Try.prog 30 #[.slice A k c] w fun e w' => e = .returned (.func (.func 54) #[] #[.pointer (some ⟨w.heap.size, 0, none⟩)]) ∧
      Boxed w' w.heap.size 50 (.slice A k c) ∧ Below w.heap.size w w' := by
  have hmf : ∀ (fn : Fn) (first cap : Array Value) (w : World), (Instr.makeFunc fn first cap).run Try.prog w = .ok (.func fn first cap) w := fun _ _ _ _ => rfl
  have hb : Below w.heap.size w (w.alloc (.cells #[.slice A k c] 50)) := (Below.refl _ w).alloc (Nat.le_refl _) _
  have hx := Boxed.new w 50 (.slice A k c)
  go_enter Try.func30, Try.ntmps30
  go_wp2
  go_ret
  exact ⟨rfl, hx, hb⟩

set_option maxRecDepth 100000 in
set_option maxHeartbeats 4000000 in
theorem backward0_stops (n : Nat) (hn : 1 ≤ n) (encs : Empty → Array Value) (Kp : World → World → Prop) (A : Option Addr) (c : Nat) (w : World) (B1 : Nat)
    (h1 : Boxed w B1 50 (.slice A 0 c)) :
    SeqStopsK Fence.wide n Try.prog 54 #[.pointer (some ⟨B1, 0, none⟩)] encs Kp (fun _ => True) (fun _ => False) 0 w := by
  intro l J Jx W hW hJ hJx hY h0
  have k1 : Boxed W B1 50 (.slice A 0 c) := (hW.block _ h1.lt).trans h1
  have hc1 := k1.cell
  have hk63 : IntKind.i64.wrap (0 - 1) = -1 := by rfl
  clear hY hJ hJx h1
  refine callsIn_of_wp Try.func54 rfl trivial ?_ rfl
  simp only [Try.ntmps54, List.size_toArray, List.length_cons, List.length_nil, Nat.reduceAdd, Nat.reduceSub, Array.replicate_succ, Array.replicate_zero, List.push_toArray, List.append_toArray, List.nil_append, List.cons_append]
  gi_wp2
  gi_loopw [3] (fun p wr => p = .int .i64 (-1) ∧ J [] wr) (fun _ _ => 0)
  case atStart => exact ⟨rfl, h0⟩
  case round =>
    obtain ⟨rfl, hJr⟩ := hrel
    gi_wp2
    go_end0
    exact ⟨⟨_, rfl⟩, .inl ⟨[], trivial, hJr⟩⟩

def stZ : List Value := [.int .u64 0, .slice none 0 0, .slice none 0 0]
set_option maxRecDepth 100000 in
set_option maxHeartbeats 4000000 in
theorem story0_in (w : World) :
    CallsIn Fence.wide 5 Try.prog 17 #[.slice none 0 0] w fun e W' => e = .returned (.agg stZ.toArray) ∧ Below w.heap.size w W' := by
  have h15 : 1 ≤ 5 := by omega
  refine callsIn_of_wp_marks Try.func17 rfl trivial ?_ rfl
  simp only [Try.ntmps17, List.size_toArray, List.length_cons, List.length_nil, Nat.reduceAdd, Nat.reduceSub, Array.replicate_succ, Array.replicate_zero, List.push_toArray, List.append_toArray, List.nil_append, List.cons_append]
  gi_wp2_with (refine ⟨trivial, ?_⟩; gi_at_call 30; refine (callsIn_wide.2 (backward0_run none 0 0 _)).mono ?_; rintro e w3 ⟨rfl, hBx, hb33⟩)
  rename_i Q1 K1 hK1
  obtain ⟨W0, hW0⟩ : ∃ z, z = (w.alloc (.cells #[.int .u64 0, .slice none 0 0, .slice none 0 0] 30)).alloc (.cells #[.int .u64 0, .slice none 0 0, .slice none 0 0] 30) := ⟨_, rfl⟩
  have hs0 : W0.heap.size = w.heap.size + 2 := by rw [hW0]; simp
  have r1 : Arr W0 w.heap.size 30 stZ := by rw [hW0]; exact (Arr.new w _ stZ).alloc _
  have r2 : Arr W0 (w.heap.size + 1) 30 stZ := by
    rw [hW0]
    have h := Arr.new (w.alloc (.cells #[.int .u64 0, .slice none 0 0, .slice none 0 0] 30)) 30 stZ
    rw [World.size_alloc] at h
    exact h
  have hB0 : Below w.heap.size w W0 := by rw [hW0]; exact ((Below.refl _ w).alloc (Nat.le_refl _) _).alloc (by simp) _
  rw [← hW0] at hBx hb33
  rw [hs0] at hBx
  have hB3 : Below w.heap.size w w3 := hB0.trans (hb33.mono hB0.size)
  have p1 := r1.up hb33
  have p2 := r2.up hb33
  clear r1 r2 hB0 hb33 hW0 hs0
  refine wpIn_rangeFunc_ownG (α := Empty) rfl h15 (gf := 54) (lb := #[.pointer (some ⟨w.heap.size + 1 + 1, 0, none⟩)]) rfl trivial (enters_of Try.func54 (by kernel_rfl) rfl)
    (backward0_stops (5 - 1) (by omega) (fun x => x.elim) (fun _ _ => True) none 0 w3 (w.heap.size + 1 + 1) hBx) (fun _ _ => trivial) (fun _ _ _ _ _ _ _ _ => trivial) (Below.refl _ _) (fun x => x.elim)
    (fun _ W => (Arr W w.heap.size 30 stZ ∧ Arr W (w.heap.size + 1) 30 stZ) ∧ Below w.heap.size w W) (fun _ _ _ => False)
    (OwnFrom.and (Own.from (fun s X Y row h hg hr => ⟨h.1.grownA hg hr, h.2.grownA hg hr⟩) _) (ownFrom_below (Nat.le_refl _) hB3.size)) (fun _ _ _ _ _ hs _ _ => hs)
    ⟨⟨p1, p2⟩, hB3⟩ (fun x => x.elim) (fun _ x => x.elim) (fun _ _ x => x.elim) ?done (fun _ _ _ _ _ h => h.elim)
  case done =>
    rintro D ys W hD - ⟨⟨h1, h2⟩, hB⟩ hK
    have hx2 : W.heap[w.heap.size + 1]? = some (.cells stZ.toArray 30 (0, 0)) := h2
    have hx1 : W.heap[w.heap.size]? = some (.cells stZ.toArray 30 (0, 0)) := h1
    have hSi : (Try.prog.info? 30).map (·.size) = some stZ.toArray.size := by kernel_rfl
    have hS1 : stZ.toArray.all (·.oneCell') = true := by rw [List.all_toArray, List.all_eq_true]; intro v hv; simp only [stZ, List.mem_cons, List.not_mem_nil, or_false] at hv; rcases hv with rfl | rfl | rfl <;> rfl
    have hS2 : stZ.toArray.size = stZ.toArray.size := rfl
    have hg7 := h1.setRow stZ
    have ho7 : Only (fun k => k = w.heap.size) W (W.setRow w.heap.size stZ.toArray) := (Only.refl (fun k => k = w.heap.size) W).setRow (.inl rfl) _
    have hK7 : (W.setRow w.heap.size stZ.toArray).heap[D]? = some (.deferred (some [])) := (ho7.block D (Array.getElem?_eq_some_iff.1 hK).1 (by have := hB3.size; have := Arr.lt p2; omega)).trans hK
    have hB7 : Below w.heap.size w (W.setRow w.heap.size stZ.toArray) := hB.trans (ho7.below hB.size (by rintro k rfl; exact Nat.le_refl _))
    obtain ⟨W7, hW7⟩ : ∃ z, z = W.setRow w.heap.size stZ.toArray := ⟨_, rfl⟩
    rw [← hW7] at hg7 hK7 hB7
    have HW7 := Lib.hid hW7
    clear hW7 ho7
    refine hK1 _ _ (wpIn_wide.2 ?_)
    go_wp2_with (first | (refine wpList_load_row rfl _ _ rfl (w.heap.size + 1) rfl 30 stZ.toArray (0, 0) _ hx2 Try.underlying30 rfl hSi ?_) | (refine wpList_store_row rfl _ _ _ rfl w.heap.size stZ.toArray rfl rfl 30 stZ.toArray hx1 hSi hS2 hS1 ?_; rw [← HW7.out]))
    refine ⟨by simp, .inl ⟨_, _, rfl, run_takeDeferred hK7, ?_⟩⟩
    have hg8 : Arr (W7.putObj D (.deferred none)) w.heap.size 30 stZ := hg7.grownA (grownBy_putObj' W7 D (.deferred none)) (fun r e => by injection e with e; subst e; exact ⟨_, hK7, rfl⟩)
    exact ⟨_, results_cell_row (by rfl) _ _ w.heap.size 30 stZ.toArray (0, 0) _ (by rfl) hg8 Try.underlying30 rfl hSi, rfl, hB7.trans (belowK_b (w := w) (Nat.le_refl _) W7 D _ _ (by have := hB3.size; omega) hK7 rfl rfl)⟩

theorem results_cellsA {P : Program} {fn : Func} {p u : Tmp} {t1 t2 : TypeId} (h : fn.results = #[.cell p t1, .cell u t2]) (tmps : Array Value) (w : World) (a b : Addr) (x y : Value) (hp : tmps.getD p undef = .pointer (some a)) (hu : tmps.getD u undef = .pointer (some b)) (hx : (loadVar t1 a).run P w = .ok x w) (hy : (loadVar t2 b).run P w = .ok y w) :
    (results fn tmps).run P w = .ok (.tuple #[x, y]) w := by
  have hp' : tmps[p]?.getD undef = .pointer (some a) := by simpa using hp
  have hu' : tmps[u]?.getD undef = .pointer (some b) := by simpa using hu
  simp [results, h, hp', hu', asAddr, Sem.run_bind, Result.andThen, hx, hy]
theorem wpList_allocZA {P : Program} {ops : Array Oper} {rest : List Oper} {o : Oper} {a : Act} {w : World} {Q : Exit → Act → World → Prop} (hg : o.guard = none) (t : TypeId) (ho : o.op = .alloc t) (Z : Array Value) (hz : (zeroValue t).run P w = .ok (.agg Z) w)
    (h : wpList P ops Q rest (a.put o.dst (.pointer (some ⟨w.heap.size, 0, none⟩))) (w.alloc (.cells Z t))) : wpList P ops Q (o :: rest) a w := by
  refine wpList_plain hg fun K hK => ?_
  unfold Oper.wp execOp
  simp only [ho, Instr.alloc, Sem.run_bind, hz, Result.andThen_ok]
  exact hK _ _ h
/-- A Check's variables, as they are laid. -/
theorem check_laid (w : World) (RL : List Value) : ∃ W, W = (((w.alloc (.cells RL.toArray 24)).alloc (.cells #[.int .u64 0, .slice none 0 0, .slice none 0 0] 30)).alloc (.cells #[.int .i64 0] 31)).alloc (.cells #[.slice none 0 0] 50) ∧
    W.heap.size = w.heap.size + 4 ∧ Arr W w.heap.size 24 RL ∧ Arr W (w.heap.size + 1) 30 stZ ∧ Boxed W (w.heap.size + 2) 31 (.int .i64 0) ∧ Boxed W (w.heap.size + 3) 50 (.slice none 0 0) ∧ Below w.heap.size w W := by
  obtain ⟨w1, hw1⟩ : ∃ z, z = w.alloc (.cells RL.toArray 24) := ⟨_, rfl⟩
  obtain ⟨w2, hw2⟩ : ∃ z, z = w1.alloc (.cells #[.int .u64 0, .slice none 0 0, .slice none 0 0] 30) := ⟨_, rfl⟩
  obtain ⟨w3, hw3⟩ : ∃ z, z = w2.alloc (.cells #[.int .i64 0] 31) := ⟨_, rfl⟩
  obtain ⟨w4, hw4⟩ : ∃ z, z = w3.alloc (.cells #[.slice none 0 0] 50) := ⟨_, rfl⟩
  have s1 : w1.heap.size = w.heap.size + 1 := by rw [hw1]; simp
  have s2 : w2.heap.size = w.heap.size + 2 := by rw [hw2]; simp [s1]
  have s3 : w3.heap.size = w.heap.size + 3 := by rw [hw3]; simp [s2]
  have s4 : w4.heap.size = w.heap.size + 4 := by rw [hw4]; simp [s3]
  refine ⟨w4, by rw [hw4, hw3, hw2, hw1], s4, ?_, ?_, ?_, ?_, ?_⟩
  · rw [hw4, hw3, hw2, hw1]; exact (((Arr.new w _ _).alloc _).alloc _).alloc _
  · rw [hw4, hw3, ← s1, hw2]; exact ((Arr.new w1 _ stZ).alloc _).alloc _
  · rw [hw4, ← s2, hw3]; exact (Boxed.new w2 _ _).alloc _
  · rw [← s3, hw4]; exact Boxed.new w3 _ _
  · rw [hw4, hw3, hw2, hw1]; exact ((((Below.refl _ w).alloc (Nat.le_refl _) _).alloc (by simp) _).alloc (by simp; omega) _).alloc (by simp; omega) _
theorem wpList_atA {P : Program} {ops : Array Oper} {rest : List Oper} {o : Oper} {a : Act} {w : World} {Q : Exit → Act → World → Prop} (n : Nat) (hd : o.dst = some n) (h : wpList P ops Q (o :: rest) a w) : wpList P ops Q (o :: rest) a w := h
theorem wpList_neqA {P : Program} {ops : Array Oper} {rest : List Oper} {o : Oper} {a : Act} {w : World} {Q : Exit → Act → World → Prop} (hw : Region.wanted o (yielded ops a.tmps) = true) (ty ty2 : TypeId) (x y : Operand) (ho : o.op = .binOp .neq ty x y ty2)
    (X Y : List Value) (hx : a.eval x = .agg X.toArray) (hy : a.eval y = .agg Y.toArray) (b : Bool) (he : ∀ w, (Op.equalIn 10000 ty (.agg X.toArray) (.agg Y.toArray)).run P w = .ok b w) (hm : P.eqGuardType P.depth ty = false)
    (h : wpList P ops Q rest (a.put o.dst (.bool (!b))) w) : wpList P ops Q (o :: rest) a w :=
  wpList_step fun K hK => by
    rw [if_pos hw]
    unfold Oper.wp execOp
    simp only [ho, hx, hy, Sem.run_bind, Sem.run_pure, Result.andThen_ok, run_eqGuard_agg, run_neq_struct, he, hm]
    exact hK _ _ h

/-- What a Check answers, stored. -/
theorem check_stored (w W : World) (D : Nat) (SL XL : List Value) (k0 k : Value) (hS : Arr W (w.heap.size + 1) 30 SL) (hE : Boxed W (w.heap.size + 2) 31 k0) (hK : W.heap[D]? = some (.deferred (some []))) (hD : w.heap.size + 2 < D) (hB : Below w.heap.size w W) :
    ∃ V1 V, V1 = W.setRow (w.heap.size + 1) XL.toArray ∧ V = V1.setCell ⟨w.heap.size + 2, 0, none⟩ k ∧ V1.cell? ⟨w.heap.size + 2, 0, none⟩ = some k0 ∧ V1.frozen? ⟨w.heap.size + 2, 0, none⟩ = false ∧ Arr V (w.heap.size + 1) 30 XL ∧ Boxed V (w.heap.size + 2) 31 k ∧ V.heap[D]? = some (.deferred (some [])) ∧ Below w.heap.size w V := by
  obtain ⟨V1, hV1⟩ : ∃ z, z = W.setRow (w.heap.size + 1) XL.toArray := ⟨_, rfl⟩
  obtain ⟨V, hV⟩ : ∃ z, z = V1.setCell ⟨w.heap.size + 2, 0, none⟩ k := ⟨_, rfl⟩
  have o1 : Only (fun k => k = w.heap.size + 1) W V1 := by rw [hV1]; exact (Only.refl (fun k => k = w.heap.size + 1) W).setRow (.inl rfl) _
  have o2 : Only (fun k => k = w.heap.size + 2) V1 V := by rw [hV]; exact (Only.refl (fun k => k = w.heap.size + 2) V1).setCell (p := ⟨w.heap.size + 2, 0, none⟩) (.inl rfl) _
  have s1 : Arr V1 (w.heap.size + 1) 30 XL := by rw [hV1]; exact hS.setRow XL
  have e1 : Boxed V1 (w.heap.size + 2) 31 k0 := (o1.block _ hE.lt (by omega)).trans hE
  have hKl := (Array.getElem?_eq_some_iff.1 hK).1
  have k1 : V1.heap[D]? = some (.deferred (some [])) := (o1.block D hKl (by omega)).trans hK
  have b1 : Below w.heap.size w V1 := hB.trans (o1.below hB.size (by rintro k rfl; omega))
  refine ⟨V1, V, hV1, hV, e1.cell, e1.frozen, s1.only o2 (by omega), ?_, (o2.block D (Array.getElem?_eq_some_iff.1 k1).1 (by omega)).trans k1, b1.trans (o2.below b1.size (by rintro k rfl; omega))⟩
  rw [hV]; exact Boxed.set k e1

set_option maxRecDepth 100000 in
set_option maxHeartbeats 4000000 in
/-- The story of no commits: empty, under a zero root alone. -/
theorem check0_in (root : List UInt8) (hr : root.length = 32) (RL : List Value) (hRL : RL = Lib.byteCells root) (w : World) :
    CallsIn Fence.wide 6 Try.prog 8 #[.int .u64 0, .agg RL.toArray, .slice none 0 0] w fun e W' => e = .returned (.tuple #[.agg stZ.toArray, .int .i64 (if root = List.replicate 32 0 then 0 else 3)]) ∧ Below w.heap.size w W' := by
  have h15 : 1 ≤ 6 := by omega
  have hRl : RL.length = 32 := by rw [hRL, Lib.byteCells_length, hr]
  have hR1 : ∀ v ∈ RL, v.oneCell' = true := by rw [hRL]; exact byteCells_one _
  have Hki := Lib.hid (show (Try.prog.info? 24).map (·.size) = some RL.toArray.size by rw [List.size_toArray, hRl]; exact digInfo)
  obtain ⟨PL, hPL⟩ : ∃ z, z = refC root 0 0 := ⟨_, rfl⟩
  have hPl : PL.length = 34 := by rw [hPL]; exact refC_length hr _ _
  have HPb := Lib.hid (show Try.prog.built 47 [(0, .agg RL.toArray)] = some PL.toArray by rw [hPL]; exact ref_built1 root RL hRL hr)
  have HPi := Lib.hid (show (Try.prog.info? 47).map (·.size) = some PL.toArray.size by rw [List.size_toArray, hPl]; exact refSize)
  have HP1 := Lib.hid (show PL.toArray.all (·.oneCell') = true by rw [List.all_toArray, List.all_eq_true, hPL]; exact refC_cell _ _ _)
  obtain ⟨ZL, hZL⟩ : ∃ z, z = refZ := ⟨_, rfl⟩
  have HZ := Lib.hid (fun w : World => show (zeroValue 47).run Try.prog w = .ok (.agg ZL.toArray) w by rw [hZL]; kernel_rfl)
  have HZb := Lib.hid (show Try.prog.built 47 [] = some ZL.toArray by rw [hZL]; kernel_rfl)
  have HZs := Lib.hid (show ZL.toArray.size = PL.toArray.size by rw [List.size_toArray, List.size_toArray, hPl, hZL]; rfl)
  obtain ⟨rz, hrz⟩ : ∃ z, z = decide (root = List.replicate 32 0) := ⟨_, rfl⟩
  have Heq := Lib.hid (fun w : World => show (Op.equalIn 10000 47 (.agg PL.toArray) (.agg ZL.toArray)).run Try.prog w = .ok rz w by
    rw [ref_eqv root (List.replicate 32 0) hr rfl 0 0 0 0 PL ZL hPL hZL w, hrz]; simp)
  have Hans := Lib.hid (show (if root = List.replicate 32 0 then (0 : Int) else 3) = if rz = true then 0 else 3 by rw [hrz]; simp)
  rw [Hans.out]
  have HRl := Lib.hid hRl
  have HR1 := Lib.hid hR1
  clear hRL hRl hR1 hPL hPl hZL hrz Hans
  refine callsIn_of_wp_marks Try.func8 rfl trivial ?_ rfl
  simp only [Try.ntmps8, List.size_toArray, List.length_cons, List.length_nil, Nat.reduceAdd, Nat.reduceSub, Array.replicate_succ, Array.replicate_zero, List.push_toArray, List.append_toArray, List.nil_append, List.cons_append]
  obtain ⟨W4, hW4, hs4, hA, hS, hE, hT, hB4⟩ := check_laid w RL
  obtain ⟨W5, hW5⟩ : ∃ z, z = (W4.alloc (.cells ZL.toArray 47)).setRow W4.heap.size PL.toArray := ⟨_, rfl⟩
  obtain ⟨hP5, hb5⟩ := alloc_row W4 47 ZL.toArray PL
  rw [← hW5] at hP5 hb5
  rw [hs4] at hP5
  have hB5 := hB4.trans (hb5.mono hB4.size)
  have hA5 := hA.up hb5
  have hS5 := hS.up hb5
  have hE5 : Boxed W5 (w.heap.size + 2) 31 (.int .i64 0) := (hb5.block _ hE.lt).trans hE
  have hT5 : Boxed W5 (w.heap.size + 3) 50 (.slice none 0 0) := (hb5.block _ hT.lt).trans hT
  have hA' : W4.heap[w.heap.size]? = some (.cells RL.toArray 24 (0, 0)) := hA
  have hA5' : W5.heap[w.heap.size]? = some (.cells RL.toArray 24 (0, 0)) := hA5
  have HW4 := Lib.hid hW4
  have HW5 := Lib.hid hW5
  clear hW4 hW5 hA hS hE hT hb5
  refine wpIn_wide.2 ?_
  go_upto_region 4 with fail
  change Code.wp _ _ _ _ ((((w.alloc (.cells RL.toArray 24)).alloc (.cells #[.int .u64 0, .slice none 0 0, .slice none 0 0] 30)).alloc (.cells #[.int .i64 0] 31)).alloc (.cells #[.slice none 0 0] 50))
  rw [← HW4.out]
  go_wp2_with (first
    | ((with_reducible refine wpList_atA 18 (by rfl) ?_); refine wpList_load_row rfl _ _ rfl w.heap.size rfl 24 RL.toArray (0, 0) _ hA' Try.underlying24 rfl Hki.out ?_)
    | ((with_reducible refine wpList_atA 19 (by rfl) ?_); refine wpList_builtD rfl _ _ rfl _ rfl PL.toArray HPb.out ?_)
    | ((with_reducible refine wpList_atA 9 (by rfl) ?_); refine wpList_allocZA rfl 47 rfl ZL.toArray (HZ.out _) ?_)
    | (refine wpList_store_row rfl _ _ _ rfl W4.heap.size PL.toArray rfl rfl 47 ZL.toArray (heap_alloc_new W4 _) HPi.out HZs.out HP1.out ?_; rw [← HW5.out])
    | ((with_reducible refine wpList_atA 21 (by rfl) ?_); refine wpList_load_row rfl _ _ rfl w.heap.size rfl 24 RL.toArray (0, 0) _ hA5' Try.underlying24 rfl Hki.out ?_))
  refine Calls.mono (linked_run 0 RL none 0 0 W5) ?_
  rintro e w6 ⟨rfl, b1, b2, b3, hb6⟩
  have hB6 := hB5.trans (hb6.mono hB5.size)
  have hP6 := hP5.up hb6
  have hS6 := hS5.up hb6
  have hE6 : Boxed w6 (w.heap.size + 2) 31 (.int .i64 0) := (hb6.block _ hE5.lt).trans hE5
  have hT6 : Boxed w6 (w.heap.size + 3) 50 (.slice none 0 0) := (hb6.block _ hT5.lt).trans hT5
  have hl6 := linked0_stops (6 - 1) (by omega) (fun x => x.elim) (fun _ _ => True) 0 RL HRl.out HR1.out none 0 w6 W5.heap.size (W5.heap.size + 1) (W5.heap.size + 1 + 1) b1 b2 b3
  clear hP5 hS5 hE5 hT5 hA5 hA5' hA' hb6 b1 b2 b3
  go_wp2_with fail
  rename_i Q1 K1 hK1
  have hSi : (Try.prog.info? 30).map (·.size) = some stZ.toArray.size := by kernel_rfl
  have hS1 : stZ.toArray.all (·.oneCell') = true := by rw [List.all_toArray, List.all_eq_true]; intro v hv; simp only [stZ, List.mem_cons, List.not_mem_nil, or_false] at hv; rcases hv with rfl | rfl | rfl <;> rfl
  have hSb : Try.prog.built 30 [] = some stZ.toArray := by kernel_rfl
  refine (wpIn_wide (n := 6)).1 ?_
  refine wpIn_rangeFunc_ownG (α := Empty) rfl h15 (gf := 27) (lb := #[.pointer (some ⟨W5.heap.size, 0, none⟩), .pointer (some ⟨W5.heap.size + 1, 0, none⟩), .pointer (some ⟨W5.heap.size + 1 + 1, 0, none⟩)]) rfl trivial (enters_of Try.func27 (by kernel_rfl) rfl)
    hl6 (fun _ _ => trivial) (fun _ _ _ _ _ _ _ _ => trivial) (Below.refl _ _) (fun x => x.elim)
    (fun _ W => (Arr W (w.heap.size + 4) 47 PL ∧ Arr W (w.heap.size + 1) 30 stZ ∧ Boxed W (w.heap.size + 2) 31 (.int .i64 0) ∧ Boxed W (w.heap.size + 3) 50 (.slice none 0 0)) ∧ Below w.heap.size w W) (fun _ _ _ => False)
    (OwnFrom.and (Own.from (fun s X Y row h hg hr => ⟨h.1.grownA hg hr, h.2.1.grownA hg hr, boxed_grownA h.2.2.1 hg hr, boxed_grownA h.2.2.2 hg hr⟩) _) (ownFrom_below (Nat.le_refl _) hB6.size)) (fun _ _ _ _ _ hs _ _ => hs)
    ⟨⟨hP6, hS6, hE6, hT6⟩, hB6⟩ (fun x => x.elim) (fun _ x => x.elim) (fun _ _ x => x.elim) ?done (fun _ _ _ _ _ h => h.elim)
  case done =>
    have h56 := hB6.size
    have hTl := hT6.lt
    have hPl6 := Arr.lt hP6
    rintro D ys W hD - ⟨⟨hP, hS, hE, hT⟩, hB⟩ hK
    clear hP6 hS6 hE6 hT6 hl6 hB6 hB5 HW4 HW5 hB4 hs4
    refine hK1 _ _ ?_
    clear hK1
    have hP' : W.heap[w.heap.size + 4]? = some (.cells PL.toArray 47 (0, 0)) := hP
    have hE' := hE.cell
    have hEf := hE.frozen
    have hT' := hT.cell
    go_upto_if 37 with (first
      | ((with_reducible refine wpList_atA 35 (by rfl) ?_); refine wpList_load_row rfl _ _ rfl (w.heap.size + 4) rfl 47 PL.toArray (0, 0) _ hP' Try.underlying47 rfl HPi.out ?_)
      | ((with_reducible refine wpList_atA 36 (by rfl) ?_); refine wpList_builtD rfl _ _ rfl _ rfl ZL.toArray HZb.out ?_)
      | ((with_reducible refine wpList_atA 37 (by rfl) ?_); refine wpList_neqA (by rfl) _ _ _ _ rfl PL ZL rfl rfl _ Heq.out gtR ?_))
    cases rz with
    | false =>
      obtain ⟨V1, V, e1, e2, k2, k3, k4, k5, k6, k7⟩ := check_stored w W D stZ stZ (.int .i64 0) (.int .i64 3) hS hE hK (by omega) hB
      have E1 := Lib.hid e1
      have E2 := Lib.hid e2
      have hS' : W.heap[w.heap.size + 1]? = some (.cells stZ.toArray 30 (0, 0)) := hS
      clear e1 e2 hS hE hT hP hP'
      go_wp2_with (first
        | ((with_reducible refine wpList_atA 38 (by rfl) ?_); refine wpList_builtD rfl _ _ rfl _ rfl stZ.toArray hSb ?_)
        | (refine wpList_store_row rfl _ _ _ rfl (w.heap.size + 1) stZ.toArray rfl rfl 30 stZ.toArray hS' hSi (Eq.refl _) hS1 ?_; rw [← E1.out]))
      (try rw [← E2.out])
      refine ⟨by simp, .inl ⟨_, _, rfl, run_takeDeferred k6, ?_⟩⟩
      have hg := grownBy_putObj' V D (.deferred none)
      have hr : ∀ r, some D = some r → ∃ o : Obj, V.heap[r]? = some o ∧ o.isCells = false := fun r e => by injection e with e; subst e; exact ⟨_, k6, rfl⟩
      have s7 : (V.putObj D (.deferred none)).heap[w.heap.size + 1]? = some (.cells stZ.toArray 30 (0, 0)) := k4.grownA hg hr
      have e7 := (boxed_grownA k5 hg hr).cell
      exact ⟨_, results_cellsA rfl _ _ ⟨w.heap.size + 1, 0, none⟩ ⟨w.heap.size + 2, 0, none⟩ _ _ rfl rfl (run_loadVar_row _ _ _ _ _ _ _ s7 Try.underlying30 rfl hSi) (by go_simp), rfl, k7.trans (belowK_b (w := w) (Nat.le_refl _) V D _ _ (by omega) k6 rfl rfl)⟩
    | true =>
      go_wp2_with fail
      refine Calls.mono (callsIn_wide.1 (story0_in W)) ?_
      rintro e wx ⟨rfl, hbx⟩
      have hSx := hS.up hbx
      have hEx : Boxed wx (w.heap.size + 2) 31 (.int .i64 0) := (hbx.block _ hE.lt).trans hE
      have hKx : wx.heap[D]? = some (.deferred (some [])) := (hbx.block D (Array.getElem?_eq_some_iff.1 hK).1).trans hK
      obtain ⟨V1, V, e1, e2, k2, k3, k4, k5, k6, k7⟩ := check_stored w wx D stZ stZ (.int .i64 0) (.int .i64 0) hSx hEx hKx (by omega) (hB.trans (hbx.mono hB.size))
      have E1 := Lib.hid e1
      have E2 := Lib.hid e2
      have hS' : wx.heap[w.heap.size + 1]? = some (.cells stZ.toArray 30 (0, 0)) := hSx
      clear e1 e2 hS hE hT hP hP' hSx hEx hKx hbx hE' hEf hT'
      go_wp2_with (refine wpList_store_row rfl _ _ _ rfl (w.heap.size + 1) stZ.toArray rfl rfl 30 stZ.toArray hS' hSi (Eq.refl _) hS1 ?_; rw [← E1.out])
      (try rw [← E2.out])
      refine ⟨by simp, .inl ⟨_, _, rfl, run_takeDeferred k6, ?_⟩⟩
      have hg := grownBy_putObj' V D (.deferred none)
      have hr : ∀ r, some D = some r → ∃ o : Obj, V.heap[r]? = some o ∧ o.isCells = false := fun r e => by injection e with e; subst e; exact ⟨_, k6, rfl⟩
      have s7 : (V.putObj D (.deferred none)).heap[w.heap.size + 1]? = some (.cells stZ.toArray 30 (0, 0)) := k4.grownA hg hr
      have e7 := (boxed_grownA k5 hg hr).cell
      exact ⟨_, results_cellsA rfl _ _ ⟨w.heap.size + 1, 0, none⟩ ⟨w.heap.size + 2, 0, none⟩ _ _ rfl rfl (run_loadVar_row _ _ _ _ _ _ _ s7 Try.underlying30 rfl hSi) (by go_simp), rfl, k7.trans (belowK_b (w := w) (Nat.le_refl _) V D _ _ (by omega) k6 rfl rfl)⟩

theorem zeros_cells : Lib.byteCells (List.replicate 32 0) = List.replicate 32 (Value.int .u8 0) := by rfl
theorem dig_b1 : Try.prog.built 24 [(0, .int .u8 1)] = some (Lib.byteCells (1 :: List.replicate 31 0)).toArray := by kernel_rfl
theorem dig_b0 : Try.prog.built 24 [] = some (Lib.byteCells (List.replicate 32 0)).toArray := by kernel_rfl

set_option maxHeartbeats 4000000 in
set_option maxRecDepth 100000 in
/-- The law's example. -/
theorem speaks17_any (w : World) : Calls Try.prog 6 #[] w fun e w' => e = .returned (.bool true) ∧ Below w.heap.size w w' := by
  obtain ⟨OL, hOL⟩ : ∃ z, z = Lib.byteCells (1 :: List.replicate 31 0) := ⟨_, rfl⟩
  obtain ⟨ZL, hZL⟩ : ∃ z, z = Lib.byteCells (List.replicate 32 0) := ⟨_, rfl⟩
  have HOb := Lib.hid (show Try.prog.built 24 [(0, .int .u8 1)] = some OL.toArray by rw [hOL]; exact dig_b1)
  have HZb := Lib.hid (show Try.prog.built 24 [] = some ZL.toArray by rw [hZL]; exact dig_b0)
  have H0 := Lib.hid (fun w : World => show Calls Try.prog 8 #[.int .u64 0, .agg ZL.toArray, .slice none 0 0] w fun e W' => e = .returned (.tuple #[.agg stZ.toArray, .int .i64 0]) ∧ Below w.heap.size w W' by
    have h := callsIn_wide.1 (check0_in (List.replicate 32 0) rfl ZL hZL w)
    rwa [if_pos rfl] at h)
  have H1 := Lib.hid (fun w : World => show Calls Try.prog 8 #[.int .u64 0, .agg OL.toArray, .slice none 0 0] w fun e W' => e = .returned (.tuple #[.agg stZ.toArray, .int .i64 3]) ∧ Below w.heap.size w W' by
    have h := callsIn_wide.1 (check0_in (1 :: List.replicate 31 0) rfl OL hOL w)
    rwa [if_neg (by decide)] at h)
  clear hOL hZL
  go_enter Try.func6, Try.ntmps6
  go_wp2_with (first | ((with_reducible refine wpList_atA 6 (by rfl) ?_); refine wpList_builtD rfl _ _ rfl _ rfl ZL.toArray HZb.out ?_))
  refine Calls.mono (H0.out _) ?_
  rintro e w1 ⟨rfl, hb1⟩
  have hSi : (Try.prog.info? 30).map (·.size) = some stZ.toArray.size := by kernel_rfl
  have hS1 : stZ.toArray.all (·.oneCell') = true := by rw [List.all_toArray, List.all_eq_true]; intro v hv; simp only [stZ, List.mem_cons, List.not_mem_nil, or_false] at hv; rcases hv with rfl | rfl | rfl <;> rfl
  obtain ⟨w2, hw2⟩ : ∃ z, z = (w1.alloc (.cells stZ.toArray 30)).setRow w1.heap.size stZ.toArray := ⟨_, rfl⟩
  obtain ⟨hR2, hb2⟩ := alloc_row w1 30 stZ.toArray stZ
  rw [← hw2] at hR2 hb2
  have HW2 := Lib.hid hw2
  clear hw2
  go_upto_region 2 with (change wpList _ _ _ _ _ (w1.alloc (.cells stZ.toArray 30)); refine wpList_store_row rfl _ _ _ rfl w1.heap.size stZ.toArray rfl rfl 30 stZ.toArray (heap_alloc_new w1 _) hSi (Eq.refl _) hS1 ?_; rw [← HW2.out])
  go_wp2_with (first | ((with_reducible refine wpList_atA 11 (by rfl) ?_); refine wpList_builtD rfl _ _ rfl _ rfl OL.toArray HOb.out ?_))
  refine Calls.mono (H1.out _) ?_
  rintro e w3 ⟨rfl, hb3⟩
  obtain ⟨w4, hw4⟩ : ∃ z, z = (w3.alloc (.cells stZ.toArray 30)).setRow w3.heap.size stZ.toArray := ⟨_, rfl⟩
  obtain ⟨hR4, hb4⟩ := alloc_row w3 30 stZ.toArray stZ
  rw [← hw4] at hR4 hb4
  have HW4 := Lib.hid hw4
  clear hw4
  have hR4' := (hR2.up hb3).up hb4
  have hc0 : w4.cell? ⟨w1.heap.size, 0, none⟩ = some (.int .u64 0) := hR4'.cell 0
  have hc1 : w4.cell? ⟨w1.heap.size, 1, none⟩ = some (.slice none 0 0) := hR4'.cell 1
  have Hb := Lib.hid (show Below w.heap.size w w4 from ((hb1.trans (hb2.mono hb1.size)).trans (hb3.mono (Nat.le_trans hb1.size hb2.size))).trans (hb4.mono (Nat.le_trans (Nat.le_trans hb1.size hb2.size) hb3.size)))
  clear hR2 hb2 hb1 hb3 hR4 hb4 hR4'
  go_upto_region 3 with (change wpList _ _ _ _ _ (w3.alloc (.cells stZ.toArray 30)); refine wpList_store_row rfl _ _ _ rfl w3.heap.size stZ.toArray rfl rfl 30 stZ.toArray (heap_alloc_new w3 _) hSi (Eq.refl _) hS1 ?_; rw [← HW4.out])
  go_wp2_with fail
  go_ret
  exact ⟨rfl, Hb.out⟩

end Go.Proofs.Ytlailhjpfadpcaa

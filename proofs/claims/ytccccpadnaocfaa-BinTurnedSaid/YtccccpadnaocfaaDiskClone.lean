/-
  A disk's Image.
-/
import Derived.Test.YtccccpadnaocfaaDiskBad
import Derived.Lib.SliceRun
namespace Go.Proofs.Ytccccpadnaocfaa
open Go.RowKit
set_option linter.unusedVariables false
set_option linter.unusedSimpArgs false

theorem gtS : Try.prog.eqGuardType Try.prog.depth 37 = false := by kernel_rfl
set_option maxRecDepth 100000 in
theorem sec_eqv (X Y : List UInt8) (hX : X.length = 64) (hY : Y.length = 64) (XL YL : List Value) (hXL : XL = Lib.byteCells X) (hYL : YL = Lib.byteCells Y) (w : World) :
    (Op.equalIn 10000 37 (.agg XL.toArray) (.agg YL.toArray)).run Try.prog w = .ok (decide (X = Y)) w := by
  subst hXL hYL
  have hi : Try.prog.info? 5 = some ((Try.prog.info? 5).get (by kernel_rfl)) := (Option.some_get _).symm
  have h1 := run_equalIn_array (P := Try.prog) (w := w) 9999 (Lib.byteCells X).toArray (Lib.byteCells Y).toArray Try.underlying37 hi
  have hc : Try.prog.cellsOf 5 = 1 := by kernel_rfl
  rw [hc, eqItems_bytesD 9998 X Y w (List.range 64) (fun i hi => by have := List.mem_range.1 hi; omega), all_getDD hX hY] at h1
  exact h1

theorem wpList_run_append {P : Program} {ops : Array Oper} {rest : List Oper} {o : Oper} {a : Act} {w w' : World} {Q : Exit → Act → World → Prop} {v v' x : Value} {T : TypeId} (hg : o.guard = none) (s y : Operand) (ho : o.op = .call { callee := .builtin .append, args := #[s, y], argTypes := #[T, T] })
    (hs : a.eval s = v) (hy : a.eval y = x) (hty : o.type = T) (hrun : (Builtin.append_ #[T, T] T #[v, x]).run P w = .ok v' w') (h : wpList P ops Q rest (a.put o.dst v') w') : wpList P ops Q (o :: rest) a w := by
  refine wpList_plain hg fun K hK => ?_
  unfold Oper.wp execOp
  simp only [ho, hty, resolve, invoke, builtin, Sem.run_bind, Sem.run_pure, Result.andThen_ok, List.map_toArray, List.map_cons, List.map_nil, hs, hy, hrun]
  exact hK _ _ h

theorem secC_cells {S : List (List UInt8)} : ∀ v ∈ secC S, v.oneCell' = true := by
  intro v hv
  unfold secC at hv
  obtain ⟨d, _, hd⟩ := List.mem_flatMap.1 hv
  exact byteCells_one d v hd

def ImagePost (S : List (List UInt8)) (n : Nat) (w : World) (e : Ending) (w' : World) : Prop :=
  ∃ g c, e = .returned (.slice (some ⟨g, 0, none⟩) n c) ∧ w'.rangeAt g 0 (secC S) ∧ w.heap.size ≤ g ∧ g < w'.heap.size ∧ n ≤ c ∧ c ≤ 9223372036854775807 ∧ Below w.heap.size w w'

set_option maxHeartbeats 4000000 in
set_option maxRecDepth 100000 in
theorem clone_any (gs n : Nat) (S : List (List UInt8)) (w : World) (hs : Arr w gs 37 (secC S)) (h64 : ∀ s ∈ S, s.length = 64) (hS : S.length = n) (h1 : 1 ≤ n) (h2 : n ≤ 65536) :
    Calls Try.prog 31 #[.slice (some ⟨gs, 0, none⟩) n n] w (ImagePost S n w) := by
  obtain ⟨i0, hi, hz0, hz1, hz2⟩ := info_parts secsInfo
  have hl : (secC S).length = n * 64 := by rw [secC_length h64, hS]
  obtain ⟨w1, hw1⟩ : ∃ x, x = w.alloc (.cells #[] 37) := ⟨_, rfl⟩
  have hb1 : Below w.heap.size w w1 := by rw [hw1]; exact (Below.refl _ _).alloc (Nat.le_refl _) _
  have hs1 : Arr w1 gs 37 (secC S) := hs.upD hb1
  have hown : w1.ownsRow w.heap.size 37 64 (.slice (some ⟨w.heap.size, 0, none⟩) 0 0) 0 [] := by
    rw [hw1]
    exact ⟨rfl, .inr ⟨w.heap.size, 0, #[], rfl, Nat.le_refl _, heap_alloc_new w _, Nat.le_refl _, by unfold maxLen; omega, rfl, rfl⟩⟩
  have hadd : ∀ k, (⟨gs, 0, none⟩ : Addr).add k = ⟨gs, k, none⟩ := fun k => by unfold Addr.add; split <;> simp_all
  obtain ⟨v', w2, hrun, ho2, hg2, _, _⟩ := run_append_own_at (P := Try.prog) w1 w.heap.size 34 34 37 i0 (.agg (Lib.byteCells zero64).toArray) 64 64 Try.underlying34 hi hz0 hz1 hz2 rfl (by decide) _ 0 [] hown ⟨gs, 0, none⟩ n n (secC S) hl (fun j u hj => by rw [hadd, hs1.cell]; exact hj) secC_cells (by unfold maxLen; omega) (by omega) hb1.size
  have hb2 : Below w.heap.size w w2 := hb1.trans ((Below.refl w.heap.size w1).grown hg2 hb1.size (fun j hj => by simp [Value.ownBlock] at hj; omega))
  rw [List.nil_append, Nat.zero_add] at ho2
  have hfin : ImagePost S n w (.returned v') w2 := by
    rcases ho2.2 with ⟨_, h0⟩ | ⟨g, cap, cur, rfl, e1, e2, e3, e4, e5, e6⟩
    · omega
    · refine ⟨g, cap, rfl, fun j v hj => ?_, e1, (Array.getElem?_eq_some_iff.1 e2).1, e3, by unfold maxLen at e4; omega, hb2⟩
      have hj' := hj
      rw [← e6] at hj'
      have hlt := (List.getElem?_eq_some_iff.1 hj).1
      rw [List.getElem?_take_of_lt (by omega)] at hj'
      rw [Nat.zero_add, cell_of_row w2 g _ cur 37 (0, 0) e2]
      simpa using hj'
  have q22 : ∀ (w : World) (a : Option Addr) (n c n' c' : Nat), (binOp .eql 34 (.slice a n c) (.slice none n' c')).run Try.prog w = .ok (.bool a.isNone) w := fun w a n c n' c' => Lib.run_eql_slice_nil w _ _ a n c n' c' Try.underlying34
  have HW1 := Lib.hid hw1
  have Hfin := Lib.hid hfin
  clear hi hz0 hz1 hz2 hl hs hs1 hown hg2 ho2 hb2 hb1 hfin hadd hw1
  go_enter Try.func31, Try.ntmps31
  go_wp2_with (first | (at_builtin; change wpList _ _ _ _ _ (w.alloc (.cells #[] 37)); rw [← HW1.out]; refine wpList_run_append rfl _ _ rfl rfl rfl rfl hrun ?_))
  go_ret
  exact Hfin.out

set_option maxHeartbeats 4000000 in
theorem image_any (k gs n : Nat) (S : List (List UInt8)) (w : World) (hc : w.cell? ⟨k, 0, none⟩ = some (.slice (some ⟨gs, 0, none⟩) n n)) (hs : Arr w gs 37 (secC S)) (h64 : ∀ s ∈ S, s.length = 64) (hS : S.length = n) (h1 : 1 ≤ n) (h2 : n ≤ 65536) :
    Calls Try.prog 9 #[.pointer (some ⟨k, 0, none⟩)] w (ImagePost S n w) := by
  go_enter Try.func9, Try.ntmps9
  go_wp2_with fail
  refine Calls.mono (clone_any gs n S w hs h64 hS h1 h2) ?_
  rintro e w1 ⟨g, c, rfl, h3, h4, h5, h6, h7, h8⟩
  go_wp2_with fail
  go_ret
  exact ⟨g, c, rfl, h3, h4, h5, h6, h7, h8⟩
theorem Disk.image {w : World} {F : Nat → Prop} {k n : Nat} {S L : List (List UInt8)} {W : List WrF} {fu : Bool} {left : Int} (h : Disk w F k n S L W fu left) : Calls Try.prog 9 #[.pointer (some ⟨k, 0, none⟩)] w (ImagePost S n w) := by
  obtain ⟨gs, gl, bm, vw, base, nm, D, hD, r⟩ := h
  exact image_any k gs n S w hD.c0 hD.hs hD.s64 hD.lS hD.n1 hD.n2

end Go.Proofs.Ytccccpadnaocfaa

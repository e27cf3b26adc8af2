/-
  The block that stands in a sector.
-/
import Derived.Test.YtccccpadnaocfaaBinMath
import Derived.Test.YtccccpadnaocfaaDiskRead
namespace Go.Proofs.Ytccccpadnaocfaa
open Go.RowKit
set_option linter.unusedVariables false
set_option linter.unusedSimpArgs false

/-- A disk's sectors, as they are seen. -/
structure SeenN (w : World) (k gs n : Nat) (S : List (List UInt8)) : Prop where
  c0 : w.cell? ⟨k, 0, none⟩ = some (.slice (some ⟨gs, 0, none⟩) n n)
  hs : Arr w gs 37 (secC S)
  n2 : n ≤ 65536
  lS : S.length = n
  s64 : ∀ s ∈ S, s.length = 64
  klt : k < w.heap.size
theorem SeenN.kept {w w' : World} {k gs n : Nat} {S : List (List UInt8)} (h : SeenN w k gs n S) (hs : w.heap.size ≤ w'.heap.size) (hb : ∀ b, (b = k ∨ b = gs) → w'.heap[b]? = w.heap[b]?) : SeenN w' k gs n S :=
  ⟨(World.cell?_of_block (hb k (.inl rfl))).trans h.c0, (hb gs (.inr rfl)).trans h.hs, h.n2, h.lS, h.s64, Nat.lt_of_lt_of_le h.klt hs⟩
theorem SeenN.lt {w : World} {k gs n : Nat} {S : List (List UInt8)} (h : SeenN w k gs n S) : ∀ b, (b = k ∨ b = gs) → b < w.heap.size := fun b hb => hb.elim (fun e => e ▸ h.klt) (fun e => e ▸ h.hs.lt)
theorem SeenN.below {w w' : World} {k gs n : Nat} {S : List (List UInt8)} (h : SeenN w k gs n S) (hb : Below w.heap.size w w') : SeenN w' k gs n S := h.kept hb.size (fun b hF => hb.block b (h.lt b hF))
theorem Disk.seenN {w : World} {F : Nat → Prop} {k n : Nat} {S L : List (List UInt8)} {W : List WrF} {fu : Bool} {left : Int} (h : Disk w F k n S L W fu left) : ∃ gs, SeenN w k gs n S := by
  obtain ⟨gs, gl, bm, vw, base, nm, D, hD, hr⟩ := h
  exact ⟨gs, hD.c0, hD.hs, hD.n2, hD.lS, hD.s64, hD.Flt k hD.Fk⟩
theorem SeenN.read {w : World} {k gs n : Nat} {S : List (List UInt8)} (h : SeenN w k gs n S) {a : Nat} (ha : a < n) (SL : List Value) (hSL : SL = Lib.byteCells (S.getD a [])) :
    Calls Try.prog 25 #[.pointer (some ⟨k, 0, none⟩), .int .i64 (a : Nat)] w fun e w' => e = .returned (.tuple #[.agg SL.toArray, .int .i64 0]) ∧ Below w.heap.size w w' :=
  read_yes k gs n a S SL w h.c0 h.hs h.s64 h.lS ha h.n2 h.klt hSL

set_option maxHeartbeats 4000000 in
theorem dlen_any (k gs n : Nat) (w : World) (h : w.cell? ⟨k, 0, none⟩ = some (.slice (some ⟨gs, 0, none⟩) n n)) (hn : n ≤ 65536) :
    Calls Try.prog 45 #[.pointer (some ⟨k, 0, none⟩)] w fun e w' => e = .returned (.int .i64 (n : Nat)) ∧ w' = w := by
  go_enter Try.func45, Try.ntmps45
  go_wp2
  go_ret
  exact ⟨rfl, rfl⟩

set_option maxHeartbeats 4000000 in
theorem nthere_is (k gs n : Nat) (a m : Int) (ok : Bool) (w : World) (h : w.cell? ⟨k, 0, none⟩ = some (.slice (some ⟨gs, 0, none⟩) n n)) (hn : n ≤ 65536) (ha : a ≤ 9223372036854775807) (hok : decide (0 ≤ a ∧ m ≤ n - a) = ok) :
    Calls Try.prog 28 #[.pointer (some ⟨k, 0, none⟩), .int .i64 a, .int .i64 m] w fun e w' => e = .returned (.bool ok) ∧ w' = w := by
  have hd : (decide ((0 : Int) ≤ a) = false ∧ ok = false) ∨ (decide ((0 : Int) ≤ a) = true ∧ 0 ≤ a ∧ decide (m ≤ (n : Int) - a) = ok) := by
    rw [← hok]
    by_cases h0 : 0 ≤ a
    · exact .inr ⟨by simp [h0], h0, by simp [h0]⟩
    · exact .inl ⟨by simp; omega, by simp; omega⟩
  clear hok
  rcases hd with ⟨h1, rfl⟩ | ⟨h1, h0, h2⟩
  · go_enter Try.func28, Try.ntmps28
    go_wp2
    go_ret
    exact ⟨rfl, rfl⟩
  · go_enter Try.func28, Try.ntmps28
    go_wp2_with fail
    go_at_call 45
    refine Calls.mono (dlen_any k gs n _ h hn) ?_
    rintro e w2 ⟨rfl, rfl⟩
    have Hh2 := Lib.hid h2
    clear h2
    go_wp2_with fail
    go_ret
    exact ⟨by rw [← Hh2.out]; rfl, rfl⟩

theorem run_arrayAt48 (g : Nat) (w : World) : (Instr.arrayAt 40 (.slice (some ⟨g, 0, none⟩) 48 64)).run Try.prog w = .ok (.pointer (some ⟨g, 0, none⟩)) w := by
  have hu : Try.prog.underlying 40 = some (.array 48 5) := Try.underlying40
  unfold Instr.arrayAt
  simp [Sem.run_bind, hu]
theorem wpList_arrayAt {P : Program} {ops : Array Oper} {rest : List Oper} {o : Oper} {a : Act} {w : World} {Q : Exit → Act → World → Prop} (hg : o.guard = none) (t : TypeId) (x : Operand) (ho : o.op = .sliceToArrayPointer t x)
    (sv v : Value) (hx : a.eval x = sv) (hr : (Instr.arrayAt t sv).run P w = .ok v w) (h : wpList P ops Q rest (a.put o.dst v) w) : wpList P ops Q (o :: rest) a w := by
  refine wpList_plain hg fun K hK => ?_
  unfold Oper.wp execOp
  simp only [ho, hx, Sem.run_bind, Sem.run_pure, hr, Result.andThen_ok]
  exact hK _ _ h

set_option maxHeartbeats 8000000 in
set_option maxRecDepth 100000 in
theorem standing_at (k gs n a : Nat) (S : List (List UInt8)) (w : World) (hS : SeenN w k gs n S) (ha : a < n) (BL : List Value) (hBL : BL = Lib.byteCells (standF S a)) :
    Calls Try.prog 32 #[.pointer (some ⟨k, 0, none⟩), .int .i64 (a : Nat)] w fun e w' => e = .returned (.agg BL.toArray) ∧ Below w.heap.size w w' := by
  obtain ⟨W, hW⟩ : ∃ W, W = w.alloc (.cells (Lib.byteCells z48).toArray 40) := ⟨_, rfl⟩
  have hR : Arr W w.heap.size 40 (Lib.byteCells z48) := by rw [hW]; exact Arr.new w _ _
  have hB : Below w.heap.size w W := by rw [hW]; exact (Below.refl _ w).alloc (Nat.le_refl _) _
  obtain ⟨SL, hSL⟩ : ∃ SL, SL = Lib.byteCells (S.getD a []) := ⟨_, rfl⟩
  have hl64 : (S.getD a []).length = 64 := hS.s64 _ (by have := hS.lS; simp [List.getD, show a < S.length by omega])
  have hSl : SL.length = 64 := by rw [hSL, Lib.byteCells_length, hl64]
  have hBl : BL.length = 48 := by rw [hBL, Lib.byteCells_length]; exact standF_length hS.s64 (by have := hS.lS; omega)
  have HSi := Lib.hid (show (Try.prog.info? 37).map (·.size) = some SL.toArray.size by rw [List.size_toArray, hSl]; exact secInfo)
  have HSs := Lib.hid (show (Lib.byteCells zero64).toArray.size = SL.toArray.size by rw [List.size_toArray, List.size_toArray, hSl]; rfl)
  have HS1 := Lib.hid (show SL.toArray.all (·.oneCell') = true by rw [hSL]; exact sec_one _)
  have HBi := Lib.hid (show (Try.prog.info? 40).map (·.size) = some BL.toArray.size by rw [List.size_toArray, hBl]; exact blkInfo)
  have HBn := Lib.hid (show (Try.prog.info? 40).map (·.size) = some BL.length by rw [hBl]; exact blkInfo)
  have HBs := Lib.hid (show (Lib.byteCells z48).toArray.size = BL.toArray.size by rw [List.size_toArray, List.size_toArray, hBl]; rfl)
  have HB1 := Lib.hid (show BL.toArray.all (·.oneCell') = true by rw [hBL]; exact sec_one _)
  have hSW : SeenN W k gs n S := hS.below hB
  have hpre : ∀ j v, BL[j]? = some v → SL[j]? = some v := fun j v hj => by
    have e : BL = SL.take 48 := by rw [hBL, hSL]; unfold standF Lib.byteCells; rw [List.map_take]
    rw [e] at hj
    rw [List.getElem?_take] at hj
    split at hj
    · exact hj
    · cases hj
  have HSL := Lib.hid hSL
  have HW := Lib.hid hW
  clear hW hSL hBL hl64
  go_enter Try.func32, Try.ntmps32
  go_upto_region 1 with fail
  change Code.wp _ _ _ _ (w.alloc (.cells (Lib.byteCells z48).toArray 40))
  rw [← HW.out]
  clear HW
  go_wp2_with fail
  go_at_call 25
  refine Calls.mono (hSW.read ha SL HSL.out) ?_
  rintro e w3 ⟨rfl, hb3⟩
  have hR3 : Arr w3 w.heap.size 40 (Lib.byteCells z48) := hR.below hb3 hR.lt
  have hB3 := hB.trans (hb3.mono hB.size)
  clear hR hSW hb3
  go_wp2_with (first
    | (change wpList _ _ _ _ _ (w3.alloc (.cells (Lib.byteCells zero64).toArray 37)); refine wpList_store_row rfl _ _ _ rfl w3.heap.size SL.toArray rfl rfl 37 (Lib.byteCells zero64).toArray (heap_alloc_new w3 _) HSi.out HSs.out HS1.out ?_; obtain ⟨w4, hw4⟩ : ∃ x, x = (w3.alloc (.cells (Lib.byteCells zero64).toArray 37)).setRow w3.heap.size SL.toArray := ⟨_, rfl⟩; rw [← hw4]; obtain ⟨hX4, hb4⟩ := alloc_rowD w3 37 (Lib.byteCells zero64).toArray SL; rw [← hw4] at hX4 hb4; clear hw4; have hR4 := Lib.hid (Arr.below hR3 hb4 hR3.lt); have hrng : w4.rangeAt w3.heap.size 0 BL := (fun j v hj => (by rw [Nat.zero_add, hX4.cell]; exact hpre j v hj)))
    | (refine wpList_arrayAt rfl 40 _ rfl (.slice (some ⟨w3.heap.size, 0, none⟩) 48 64) _ rfl (run_arrayAt48 _ _) ?_)
    | (refine wpList_load_mid rfl _ _ rfl w3.heap.size 0 rfl BL _ hrng Try.underlying40 rfl HBn.out ?_)
    | (refine wpList_store_row rfl _ _ _ rfl w.heap.size BL.toArray rfl rfl 40 (Lib.byteCells z48).toArray hR4.out HBi.out HBs.out HB1.out ?_))
  have hB4 := hB3.trans (hb4.mono hB3.size)
  have hset : Arr (w4.setRow w.heap.size BL.toArray) w.heap.size 40 BL := Arr.setRow hR4.out BL
  have hfin : Below w.heap.size w (w4.setRow w.heap.size BL.toArray) := hB4.trans (((Only.refl (fun k => k = w.heap.size) w4).setRow (.inl rfl) BL.toArray).below hB4.size (by rintro k rfl; exact Nat.le_refl _))
  exact bodyPost_ret (v := .agg BL.toArray) (results_cell_row (by rfl) _ _ w.heap.size 40 BL.toArray (0, 0) _ (by rfl) hset Try.underlying40 rfl HBi.out) rfl ⟨rfl, hfin⟩


end Go.Proofs.Ytccccpadnaocfaa

/-
  The law's example of a disk.
-/
import Derived.Test.YtkpgbgiamekhaacDiskImage
namespace Go.Proofs.Ytkpgbgiamekhaac
open Go.RowKit
set_option linter.unusedVariables false
set_option linter.unusedSimpArgs false

theorem wpList_load_row_if {P : Program} {ops : Array Oper} {rest : List Oper} {o : Oper} {a : Act} {w : World} {Q : Exit → Act → World → Prop} (hw : Region.wanted o (yielded ops a.tmps) = true) (ty : TypeId) (x : Operand) (ho : o.op = .load ty x) (g : Nat) (hx : a.eval x = .pointer (some ⟨g, 0, none⟩))
    (t : TypeId) (cs : Array Value) (d : TypeDesc) (hg : w.heap[g]? = some (.cells cs t (0, 0))) (hu : P.underlying ty = some d) (hd : (match d with | .struct _ | .array _ _ => true | _ => false) = true) (hi : (P.info? ty).map (·.size) = some cs.size)
    (h : wpList P ops Q rest (a.put o.dst (.agg cs)) w) : wpList P ops Q (o :: rest) a w :=
  wpList_step fun K hK => by
    rw [if_pos hw]
    unfold Oper.wp execOp
    simp only [ho, hx, Sem.run_bind, run_loadAt_row w g t ty cs d hg hu hd hi, Result.andThen_ok]
    exact hK _ _ h
theorem wpList_built_if {P : Program} {ops : Array Oper} {rest : List Oper} {o : Oper} {a : Act} {w : World} {Q : Exit → Act → World → Prop} (hw : Region.wanted o (yielded ops a.tmps) = true) (t : TypeId) (parts : Array (Nat × Operand)) (ho : o.op = .build t parts)
    (ps : List (Nat × Value)) (hp : parts.toList.map (fun x => (x.1, a.eval x.2)) = ps) (cells : Array Value) (hf : P.built t ps = some cells)
    (h : wpList P ops Q rest (a.put o.dst (.agg cells)) w) : wpList P ops Q (o :: rest) a w :=
  wpList_step fun K hK => by
    rw [if_pos hw]
    unfold Oper.wp execOp
    simp only [ho, Sem.run_bind, run_build w t _ cells (show P.built t (parts.map fun (i, x) => (i, a.eval x)).toList = some cells by rw [← hf, ← hp]; simp), Result.andThen_ok]
    exact hK _ _ h

def seven : List UInt8 := 7 :: List.replicate 63 0
theorem seven_built : Try.prog.built 30 [(0, .int .u8 7)] = some (Lib.byteCells seven).toArray := by kernel_rfl
theorem zero_built : Try.prog.built 30 [] = some (Lib.byteCells zero64).toArray := by kernel_rfl
def sp0 : List (List UInt8) := List.replicate 3 zero64
theorem sp_at : (sp0.set 1 seven).getD 1 [] = seven := rfl
theorem sp_lost : (seenF [(1, seven, false)] (sp0.set 1 seven) (lstF (keptF [0]) [(1, seven, false)] sp0 1)).getD 1 [] = zero64 := by decide +kernel

/-- A disk's calls turn only what is at least B. -/
theorem Only.up {F : Nat → Prop} {B : Nat} {w0 w w' : World} (h : Below B w0 w) (hO : Only F w w') (hF : ∀ b, F b → B ≤ b) (hB : B ≤ w0.heap.size) : Below B w0 w' := h.trans (hO.below (Nat.le_trans hB h.size) hF)
theorem Disk.read {w : World} {F : Nat → Prop} {k n : Nat} {S L : List (List UInt8)} {W : List WrF} {fu : Bool} {left : Int} (h : Disk w F k n S L W fu left) {a : Nat} (ha : a < n) {s : List UInt8} (hs : S.getD a [] = s) {SL : List Value} (hSL : SL = Lib.byteCells s) :
    Calls Try.prog 36 #[.pointer (some ⟨k, 0, none⟩), .int .i64 (a : Nat)] w fun e w' => e = .returned (.tuple #[.agg SL.toArray, .int .i64 0]) ∧ Below w.heap.size w w' := by
  obtain ⟨gs, gl, bm, vw, base, nm, D, hD, r⟩ := h
  exact read_yes k gs n a S SL w hD.c0 hD.hs hD.s64 hD.lS ha hD.n2 (hD.Flt k hD.Fk) (by rw [hs]; exact hSL)

set_option maxHeartbeats 16000000 in
set_option maxRecDepth 100000 in
theorem dspeaks_true (w : World) : Calls Try.prog 9 #[] w fun e w' => e = .returned (.bool true) ∧ Below w.heap.size w w' := by
  obtain ⟨SL, hSL⟩ : ∃ l, l = Lib.byteCells seven := ⟨_, rfl⟩
  obtain ⟨ZL, hZL⟩ : ∃ l, l = Lib.byteCells zero64 := ⟨_, rfl⟩
  have HSl := Lib.hid (show SL.length = 64 by rw [hSL]; rfl)
  have HZl := Lib.hid (show ZL.length = 64 by rw [hZL]; rfl)
  have HSi := Lib.hid (show (Try.prog.info? 30).map (·.size) = some SL.toArray.size by rw [List.size_toArray, HSl.out]; exact secInfo)
  have HZi := Lib.hid (show (Try.prog.info? 30).map (·.size) = some ZL.toArray.size by rw [List.size_toArray, HZl.out]; exact secInfo)
  have HS1 := Lib.hid (show SL.toArray.all (·.oneCell') = true by rw [hSL]; exact sec_one _)
  have HZ1 := Lib.hid (show ZL.toArray.all (·.oneCell') = true by rw [hZL]; exact sec_one _)
  have HSs := Lib.hid (show (Lib.byteCells zero64).toArray.size = SL.toArray.size by rw [List.size_toArray, List.size_toArray, HSl.out]; rfl)
  have HZs := Lib.hid (show (Lib.byteCells zero64).toArray.size = ZL.toArray.size by rw [List.size_toArray, List.size_toArray, HZl.out]; rfl)
  have HSb := Lib.hid (show Try.prog.built 30 [(0, .int .u8 7)] = some SL.toArray by rw [hSL]; exact seven_built)
  have HZb := Lib.hid (show Try.prog.built 30 [] = some ZL.toArray by rw [hZL]; exact zero_built)
  have heqS := fun w => sec_eqv seven seven rfl rfl SL SL hSL hSL w
  have heqZ := fun w => sec_eqv zero64 zero64 rfl rfl ZL ZL hZL hZL w
  rw [decide_eq_true rfl] at heqS heqZ
  have hgS := gtS
  have HSL := Lib.hid hSL
  have HZL := Lib.hid hZL
  clear hSL hZL
  go_enter Try.func9, Try.ntmps9
  go_wp2_with fail
  refine Calls.mono (show Calls Try.prog 10 #[.int .i64 3] w (NewPost 3 w) from new_yes 3 w (by omega) (by omega)) ?_
  rintro e w1 ⟨k, rfl, hD1, hB1⟩
  obtain ⟨F1, hF1⟩ : ∃ F, F = newF (fun _ => False) w w1 := ⟨_, rfl⟩
  have hF1b : ∀ b, F1 b → w.heap.size ≤ b := fun b h => by rw [hF1] at h; exact h.elim (fun h => h.elim) (fun h => h.1)
  rw [← hF1] at hD1
  clear hF1
  go_wp2_with (first | (refine wpList_built_if (by rfl) _ _ rfl [(0, .int .u8 7)] rfl SL.toArray HSb.out ?_))
  refine Calls.mono (show Calls Try.prog 11 #[.pointer (some ⟨k, 0, none⟩), .int .i64 1, .agg SL.toArray] w1 _ from write_live F1 k 3 1 sp0 sp0 [] false 0 seven SL w1 hD1 rfl (by omega) rfl HSL.out (by simp)) ?_
  rintro e w2 ⟨rfl, hD2, hO2⟩
  have hB2 := Only.up hB1 hO2 hF1b (Nat.le_refl _)
  obtain ⟨F2, hF2⟩ : ∃ F, F = newF F1 w1 w2 := ⟨_, rfl⟩
  have hF2b : ∀ b, F2 b → w.heap.size ≤ b := fun b h => by rw [hF2] at h; exact h.elim (hF1b b) (fun h => Nat.le_trans hB1.size h.1)
  rw [← hF2] at hD2
  clear hF2 hD1 hO2 hF1b
  go_wp2_with fail
  refine Calls.mono (show Calls Try.prog 36 #[.pointer (some ⟨k, 0, none⟩), .int .i64 1] w2 _ from hD2.read (a := 1) (by omega) sp_at HSL.out) ?_
  rintro e w3 ⟨rfl, hb3⟩
  have hD3 := hD2.below hb3
  have hB3 := hB2.trans (hb3.mono hB2.size)
  clear hD2 hB2 hb3
  go_wp2_with (change wpList _ _ _ _ _ (w3.alloc (.cells (Lib.byteCells zero64).toArray 30)); refine wpList_store_row rfl _ _ _ rfl w3.heap.size SL.toArray rfl rfl 30 (Lib.byteCells zero64).toArray (heap_alloc_new w3 _) HSi.out HSs.out HS1.out ?_; obtain ⟨w4, hw4⟩ : ∃ x, x = (w3.alloc (.cells (Lib.byteCells zero64).toArray 30)).setRow w3.heap.size SL.toArray := ⟨_, rfl⟩; rw [← hw4]; obtain ⟨hP4, hb4⟩ := alloc_row w3 30 (Lib.byteCells zero64).toArray SL; rw [← hw4] at hP4 hb4; clear hw4)
  have hD4 := hD3.below hb4
  have hB4 := hB3.trans (hb4.mono hB3.size)
  obtain ⟨g, hg⟩ : ∃ g, g = w3.heap.size := ⟨_, rfl⟩
  rw [← hg] at hP4 ⊢
  have hgF : ¬ F2 g := fun e => by have := hD3.Flt g e; omega
  clear hg hD3 hb4 hB3
  obtain ⟨w5, hw5⟩ : ∃ x, x = w4.alloc (.cells #[.int .u8 0] 5) := ⟨_, rfl⟩
  have hb5 : Below w4.heap.size w4 w5 := by rw [hw5]; exact (Below.refl _ _).alloc (Nat.le_refl _) _
  have hg5 : Arr w5 w4.heap.size 5 [.int .u8 0] := by rw [hw5]; exact Arr.new w4 _ _
  rw [← hw5]
  clear hw5
  have hA : 0 < ([0] : List UInt8).length → ∀ p : Addr, some (⟨w4.heap.size, 0, none⟩ : Addr) = some p → ¬ F2 p.block := fun _ p e h => by
    injection e with e
    subst e
    exact Nat.lt_irrefl _ (hD4.Flt _ h)
  have hbs : Bs w5 w5.heap.size (some ⟨w4.heap.size, 0, none⟩) [0] := fun _ => ⟨w4.heap.size, 0, rfl, hg5.lt, fun j hj => by
    obtain rfl : j = 0 := by simpa using hj
    rw [hg5.cell]; rfl⟩
  have hD5 := hD4.below hb5
  have hB5 := hB4.trans (hb5.mono hB4.size)
  have hP5 := hP4.up hb5
  refine Calls.mono (crash_any F2 k 3 _ _ _ false _ w5 hD5 [0] (some ⟨w4.heap.size, 0, none⟩) 1 1 hA hbs rfl (by omega)) ?_
  rintro e w6 ⟨rfl, hD6, hO6⟩
  have hP6 := hP5.only hO6 hgF
  have hB6 := Only.up hB5 hO6 hF2b (Nat.le_refl _)
  clear hD5 hbs hA hg5 hP4 hP5 hD4 hB4 hB5 hb5 hO6
  go_wp2_with fail
  refine Calls.mono (show Calls Try.prog 36 #[.pointer (some ⟨k, 0, none⟩), .int .i64 1] w6 _ from hD6.read (a := 1) (by omega) (show _ = zero64 from sp_lost) HZL.out) ?_
  rintro e w7 ⟨rfl, hb7⟩
  have hP7 := hP6.up hb7
  have hB7 := hB6.trans (hb7.mono hB6.size)
  clear hD6 hP6 hb7
  go_wp2_with (first | (change wpList _ _ _ _ _ (w7.alloc (.cells (Lib.byteCells zero64).toArray 30)); refine wpList_store_row rfl _ _ _ rfl w7.heap.size ZL.toArray rfl rfl 30 (Lib.byteCells zero64).toArray (heap_alloc_new w7 _) HZi.out HZs.out HZ1.out ?_; obtain ⟨w8, hw8⟩ : ∃ x, x = (w7.alloc (.cells (Lib.byteCells zero64).toArray 30)).setRow w7.heap.size ZL.toArray := ⟨_, rfl⟩; rw [← hw8]; obtain ⟨hQ8, hb8⟩ := alloc_row w7 30 (Lib.byteCells zero64).toArray ZL; rw [← hw8] at hQ8 hb8; have hP8 := hP7.up hb8; clear hw8) | (refine wpList_load_row rfl _ _ rfl g rfl 30 SL.toArray (0, 0) _ hP8 Try.underlying30 rfl HSi.out ?_) | (refine wpList_built rfl _ _ rfl [(0, .int .u8 7)] rfl SL.toArray HSb.out ?_) | (refine wpList_load_row_if (by rfl) _ _ rfl w7.heap.size rfl 30 ZL.toArray _ hQ8 Try.underlying30 rfl HZi.out ?_) | (refine wpList_built_if (by rfl) _ _ rfl [] rfl ZL.toArray HZb.out ?_))
  have hB8 := hB7.trans (hb8.mono hB7.size)
  go_ret
  exact ⟨rfl, hB8⟩

end Go.Proofs.Ytkpgbgiamekhaac

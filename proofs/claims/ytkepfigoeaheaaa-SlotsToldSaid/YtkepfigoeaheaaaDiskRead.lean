/-
  A disk's Read.
-/
import Derived.Test.YtkepfigoeaheaaaDiskOps
import Derived.Laws.ResultCell
import Derived.Great.BuildSlice
namespace Go.Proofs.Ytkepfigoeaheaaa
open Go.RowKit
set_option linter.unusedVariables false

def zero64 : List UInt8 := List.replicate 64 0
theorem zero64_length : zero64.length = 64 := rfl
theorem secInfo : (Try.prog.info? 49).map (·.size) = some 64 := by kernel_rfl
theorem sec_one (s : List UInt8) : (Lib.byteCells s).toArray.all (·.oneCell') = true := all_oneCell_toArray (byteCells_one s)
theorem secZ : (.agg (Lib.byteCells zero64).toArray : Value) = .agg #[.int .u8 0, .int .u8 0, .int .u8 0, .int .u8 0, .int .u8 0, .int .u8 0, .int .u8 0, .int .u8 0, .int .u8 0, .int .u8 0, .int .u8 0, .int .u8 0, .int .u8 0, .int .u8 0, .int .u8 0, .int .u8 0, .int .u8 0, .int .u8 0, .int .u8 0, .int .u8 0, .int .u8 0, .int .u8 0, .int .u8 0, .int .u8 0, .int .u8 0, .int .u8 0, .int .u8 0, .int .u8 0, .int .u8 0, .int .u8 0, .int .u8 0, .int .u8 0, .int .u8 0, .int .u8 0, .int .u8 0, .int .u8 0, .int .u8 0, .int .u8 0, .int .u8 0, .int .u8 0, .int .u8 0, .int .u8 0, .int .u8 0, .int .u8 0, .int .u8 0, .int .u8 0, .int .u8 0, .int .u8 0, .int .u8 0, .int .u8 0, .int .u8 0, .int .u8 0, .int .u8 0, .int .u8 0, .int .u8 0, .int .u8 0, .int .u8 0, .int .u8 0, .int .u8 0, .int .u8 0, .int .u8 0, .int .u8 0, .int .u8 0, .int .u8 0] := rfl

theorem Arr.secAt {w : World} {g : Nat} {T : TypeId} {S : List (List UInt8)} (h : Arr w g T (secC S)) (h64 : ∀ s ∈ S, s.length = 64) {i : Nat} (hi : i < S.length) : w.rangeAt g (i * 64) (Lib.byteCells (S.getD i [])) := fun j v hj => by
  rw [h.cell]
  exact secC_at h64 hi j v hj

theorem results_cell2 {P : Program} {fn : Func} {p u : Tmp} {ty : TypeId} (h : fn.results = #[.cell p ty, .tmp u]) (tmps : Array Value) (w : World) (g : Nat) (t : TypeId) (cs : Array Value) (fr : Nat × Nat) (d : TypeDesc)
    (hp : tmps.getD p undef = .pointer (some ⟨g, 0, none⟩)) (x : Value) (hx : tmps.getD u undef = x) (hg : w.heap[g]? = some (.cells cs t fr))
    (hu : P.underlying ty = some d) (hd : (match d with | .struct _ | .array _ _ => true | _ => false) = true) (hi : (P.info? ty).map (·.size) = some cs.size) :
    (results fn tmps).run P w = .ok (.tuple #[.agg cs, x]) w := by
  rw [results_cell_tmp h, hp, hx]
  simp only [asAddr, Sem.run_pure, Result.andThen_ok, run_loadVar_row w g t ty cs fr d hg hu hd hi]

set_option maxHeartbeats 8000000 in
set_option maxRecDepth 100000 in
theorem read_yes (k gs n a : Nat) (S : List (List UInt8)) (SL : List Value) (w : World) (h : w.cell? ⟨k, 0, none⟩ = some (.slice (some ⟨gs, 0, none⟩) n n)) (hs : Arr w gs 49 (secC S)) (h64 : ∀ s ∈ S, s.length = 64) (hS : S.length = n) (ha : a < n) (hn : n ≤ 65536) (hkl : k < w.heap.size) (hSL : SL = Lib.byteCells (S.getD a [])) :
    Calls Try.prog 28 #[.pointer (some ⟨k, 0, none⟩), .int .i64 (a : Nat)] w fun e w' => e = .returned (.tuple #[.agg SL.toArray, .int .i64 0]) ∧ Below w.heap.size w w' := by
  have hl : (S.getD a []).length = 64 := h64 _ (by simp [List.getD, show a < S.length by omega])
  have Hl := Lib.hid (show SL.length = 64 by rw [hSL, Lib.byteCells_length]; exact hl)
  have Hi := Lib.hid (show (Try.prog.info? 49).map (·.size) = some SL.toArray.size by rw [List.size_toArray, Hl.out]; exact secInfo)
  have Hz := Lib.hid (show (Try.prog.info? 49).map (·.size) = some SL.length by rw [Hl.out]; exact secInfo)
  have H1 := Lib.hid (show SL.toArray.all (·.oneCell') = true by rw [hSL]; exact sec_one _)
  have Hs := Lib.hid (show (Lib.byteCells zero64).toArray.size = SL.toArray.size by rw [List.size_toArray, List.size_toArray, Hl.out]; rfl)
  have hr := hs.secAt h64 (i := a) (by omega)
  rw [← hSL] at hr
  have haI : (a : Int) < (n : Int) := by omega
  obtain ⟨w1, hw1⟩ : ∃ x, x = w.alloc (.cells (Lib.byteCells zero64).toArray 49) := ⟨_, rfl⟩
  have hb1 : Below w.heap.size w w1 := by rw [hw1]; exact (Below.refl _ _).alloc (Nat.le_refl _) _
  have hg := Arr.new w 49 (Lib.byteCells zero64)
  rw [← hw1] at hg
  have h1 : w1.cell? ⟨k, 0, none⟩ = some (.slice (some ⟨gs, 0, none⟩) n n) := (hb1.cell (p := ⟨k, 0, none⟩) hkl).trans h
  have hr1 : w1.rangeAt gs (a * 64) SL := fun j v hj => (hb1.cell (p := ⟨gs, a * 64 + j, none⟩) hs.lt).trans (hr j v hj)
  have HW := Lib.hid hw1
  clear hl hSL hs h64 hS h hr hw1
  go_enter Try.func28, Try.ntmps28
  go_upto_region 1 with fail
  change Code.wp _ _ _ _ (w.alloc (.cells (Lib.byteCells zero64).toArray 49))
  rw [← HW.out]
  go_wp2_with fail
  refine Calls.mono (has_yes k gs n a w1 h1 ha hn) ?_
  rintro e w2 ⟨rfl, rfl⟩
  clear HW
  go_wp2_with (first | (refine wpList_load_mid rfl _ _ rfl gs (a * 64) rfl SL _ hr1 Try.underlying49 rfl Hz.out ?_) | (refine wpList_store_row rfl _ _ _ rfl w.heap.size SL.toArray rfl rfl 49 _ hg Hi.out Hs.out H1.out ?_))
  have hset := hg.setRow SL
  have hons := ((Only.refl (fun b => b = w.heap.size) w2).setRow (.inl rfl) SL.toArray).below (B := w.heap.size) hb1.size (by rintro i rfl; exact Nat.le_refl _)
  (try simp only [Exit.inBlock, Exit.then])
  obtain ⟨V, hV⟩ : ∃ V, V = Value.tuple #[.agg SL.toArray, .int .i64 0] := ⟨_, rfl⟩
  refine bodyPost_ret (v := V) ?hx1 ?h2 ?h3
  case hx1 => rw [hV]; exact results_cell2 (fn := Try.f28) (by rfl) _ _ w.heap.size 49 SL.toArray (0, 0) _ (by rfl) _ (by rfl) hset Try.underlying49 rfl Hi.out
  case h2 => rfl
  case h3 => exact ⟨by rw [hV], hb1.trans hons⟩

set_option maxHeartbeats 8000000 in
set_option maxRecDepth 100000 in
theorem read_no (k gs n : Nat) (a : Int) (w : World) (h : w.cell? ⟨k, 0, none⟩ = some (.slice (some ⟨gs, 0, none⟩) n n)) (ha : a < 0 ∨ (n : Int) ≤ a) (hn : n ≤ 65536) (hkl : k < w.heap.size) :
    Calls Try.prog 28 #[.pointer (some ⟨k, 0, none⟩), .int .i64 a] w fun e w' => e = .returned (.tuple #[.agg (Lib.byteCells zero64).toArray, .int .i64 2]) ∧ Below w.heap.size w w' := by
  obtain ⟨SL, hSL⟩ : ∃ V, V = Lib.byteCells zero64 := ⟨_, rfl⟩
  have Hl := Lib.hid (show SL.length = 64 by rw [hSL, Lib.byteCells_length]; rfl)
  have Hi := Lib.hid (show (Try.prog.info? 49).map (·.size) = some SL.toArray.size by rw [List.size_toArray, Hl.out]; exact secInfo)
  have H1 := Lib.hid (show SL.toArray.all (·.oneCell') = true by rw [hSL]; exact sec_one _)
  have Hs := Lib.hid (show (Lib.byteCells zero64).toArray.size = SL.toArray.size by rw [List.size_toArray, List.size_toArray, Hl.out]; rfl)
  obtain ⟨w1, hw1⟩ : ∃ x, x = w.alloc (.cells (Lib.byteCells zero64).toArray 49) := ⟨_, rfl⟩
  have hb1 : Below w.heap.size w w1 := by rw [hw1]; exact (Below.refl _ _).alloc (Nat.le_refl _) _
  have hg := Arr.new w 49 (Lib.byteCells zero64)
  rw [← hw1] at hg
  have h1 : w1.cell? ⟨k, 0, none⟩ = some (.slice (some ⟨gs, 0, none⟩) n n) := (hb1.cell (p := ⟨k, 0, none⟩) hkl).trans h
  have HW := Lib.hid hw1
  have HSL := Lib.hid hSL
  have HSb := Lib.hid (show Try.prog.built 49 [] = some SL.toArray by rw [hSL]; kernel_rfl)
  rw [← hSL]
  clear h hw1 hSL
  go_enter Try.func28, Try.ntmps28
  go_upto_region 1 with fail
  change Code.wp _ _ _ _ (w.alloc (.cells (Lib.byteCells zero64).toArray 49))
  rw [← HW.out]
  go_wp2_with fail
  refine Calls.mono (has_no k gs n a w1 h1 ha hn) ?_
  rintro e w2 ⟨rfl, rfl⟩
  clear HW
  go_wp2_with (first | (refine wpList_builtD rfl _ _ rfl [] rfl SL.toArray HSb.out ?_) | (refine wpList_store_row rfl _ _ _ rfl w.heap.size SL.toArray rfl rfl 49 _ hg Hi.out Hs.out H1.out ?_))
  have hset := hg.setRow SL
  have hons := ((Only.refl (fun b => b = w.heap.size) w2).setRow (.inl rfl) SL.toArray).below (B := w.heap.size) hb1.size (by rintro i rfl; exact Nat.le_refl _)
  (try simp only [Exit.inBlock, Exit.then])
  obtain ⟨V, hV⟩ : ∃ V, V = Value.tuple #[.agg SL.toArray, .int .i64 2] := ⟨_, rfl⟩
  refine bodyPost_ret (v := V) ?hx1 ?h2 ?h3
  case hx1 => rw [hV]; exact results_cell2 (fn := Try.f28) (by rfl) _ _ w.heap.size 49 SL.toArray (0, 0) _ (by rfl) _ (by rfl) hset Try.underlying49 rfl Hi.out
  case h2 => rfl
  case h3 => exact ⟨by rw [hV], hb1.trans hons⟩

end Go.Proofs.Ytkepfigoeaheaaa

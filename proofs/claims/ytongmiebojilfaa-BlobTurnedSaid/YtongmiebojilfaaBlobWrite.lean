/-
  blob's Write.
-/
import Derived.Test.YtongmiebojilfaaBlobOf
namespace Go.Proofs.Ytongmiebojilfaa
open Go.RowKit
set_option linter.unusedVariables false
set_option linter.unusedSimpArgs false

/-- The writes of bytes from a sector on. -/
def putW (a : Nat) (b : List UInt8) (i : Nat) : List WrF := (List.range i).map fun j => (a + j, secAtF b j, false)
theorem putW_length (a : Nat) (b : List UInt8) (i : Nat) : (putW a b i).length = i := by simp [putW]
theorem putW_succ (a : Nat) (b : List UInt8) (i : Nat) : putW a b (i + 1) = putW a b i ++ [(a + i, secAtF b i, false)] := by simp [putW, List.range_succ]

theorem Bs.onlyB {w w' : World} {B : Nat} {A : Option Addr} {l : List UInt8} {R : Nat → Prop} (h : Bs w B A l) (hO : Only R w w') (hR : 0 < l.length → ∀ x, A = some x → ¬ R x.block) (hB : B ≤ w.heap.size) : Bs w' B A l := fun hn => by
  obtain ⟨b, off, e, hb, hc⟩ := h hn
  refine ⟨b, off, e, hb, fun j hj => ?_⟩
  rw [← hc j hj]
  have h1 := hO.block b (by omega) (hR hn _ e)
  simp [World.cell?, h1]

theorem sec_splice (l : List UInt8) (i : Nat) : splice (Lib.byteCells zero64) 0 (Lib.byteCells ((l.drop (64 * i)).take 64)) = Lib.byteCells (secAtF l i) := by
  unfold splice secAtF zero64 Lib.byteCells
  rw [List.take_zero, List.nil_append, Nat.zero_add, List.length_map, List.map_append, ← List.map_drop, List.drop_replicate]

theorem byteSizeB : (Try.prog.info? 5).map (·.size) = some 1 := by kernel_rfl
/-- s[i:] in a region that draws. -/
theorem step_fromB {P : Program} {ops : Array Oper} {o : Oper} {a : Act} {w : World} {K : Act → World → Prop} {Q : Exit → Act → World → Prop} {E : Prop} (hgd : o.guard = none) (T : TypeId) (x y : Operand) (ho : o.op = .slice T x (some y) none none)
    (sv : Value) (z : Value) (hx : a.eval x = sv) (hy : a.eval y = z) (v : Value) (hr : (Instr.sliceAt T sv (some z) none none).run P w = .ok v w) (h : K (a.put o.dst v) w) :
    if Region.wanted o (yielded ops a.tmps) = true then Oper.wp P o a w K Q else E := by
  have hw : Region.wanted o (yielded ops a.tmps) = true := by simp [Region.wanted, hgd]
  rw [if_pos hw]
  unfold Oper.wp execOp
  simp only [ho, Option.map_some, Option.map_none, hx, hy, Sem.run_bind, Sem.run_pure, hr, Result.andThen_ok]
  exact h

/-- A disk at blocks of which each is an elder one of F, or new. -/
def DiskAft (F : Nat → Prop) (w : World) (k n : Nat) (S L : List (List UInt8)) (W : List WrF) (w' : World) : Prop :=
  ∃ F', Disk w' F' k n S L W false 0 ∧ (∀ b, F' b → F b ∨ w.heap.size ≤ b) ∧ Only F w w'

set_option maxHeartbeats 8000000 in
set_option maxRecDepth 100000 in
theorem bwrite_yes (F : Nat → Prop) (k n a : Nat) (S L : List (List UInt8)) (W : List WrF) (l : List UInt8) (DL : List Value) (A : Option Addr) (m c : Nat) (w : World) (h : Disk w F k n S L W false 0)
    (hm : l.length = m) (hm2 : m ≤ 65536) (hc : m ≤ c) (hcm : c ≤ maxLen) (hb : Bs w w.heap.size A l) (hA : 0 < l.length → ∀ x, A = some x → ¬ F x.block) (ha : a + secsF m ≤ n) (hWN : W.length + secsF m ≤ 100000) (hDL : DL = refC (blobDig l) a m) :
    Calls Try.prog 12 #[.pointer (some ⟨k, 0, none⟩), .int .i64 (a : Nat), .slice A m c] w fun e w' => e = .returned (.tuple #[.agg DL.toArray, .int .i64 0]) ∧ DiskAft F w k n (putF S a l (secsF m)) L (W ++ putW a l (secsF m)) w' := by
  have hn2 : n ≤ 65536 := by obtain ⟨gs, gl, bm, vw, base, nm, D, hD, _⟩ := h; exact hD.n2
  have hd1 : decide ((65536 : Int) < (m : Int)) = false := by simp; omega
  obtain ⟨W1, hW1⟩ : ∃ x, x = w.alloc (.cells refZ.toArray 36) := ⟨_, rfl⟩
  have hR1 : Arr W1 w.heap.size 36 refZ := by rw [hW1]; exact Arr.new w _ _
  have hW1s : W1.heap.size = w.heap.size + 1 := by rw [hW1]; simp
  have hb1 : Below w.heap.size w W1 := by rw [hW1]; exact (Below.refl _ w).alloc (Nat.le_refl _) _
  have HW1 := Lib.hid hW1
  clear hW1
  obtain ⟨s, hs⟩ : ∃ s, secsF m = s := ⟨_, rfl⟩
  have hsB : s ≤ n := by omega
  have hsP : 1 ≤ s := by rw [← hs]; exact secsF_pos m
  have Hs := Lib.hid hs
  rw [hs] at ha hWN ⊢
  clear hs
  have hD1 : Disk W1 F k n S L W false 0 := by
    obtain ⟨gs, gl, bm, vw, base, nm, D, hD, hr⟩ := h
    exact ⟨gs, gl, bm, vw, base, nm, D, hD.kept hb1.size (fun b hF => hb1.block b (hD.Flt b hF)), hr⟩
  have hFlt : ∀ b, F b → b < w.heap.size := by obtain ⟨gs, gl, bm, vw, base, nm, D, hD, _⟩ := h; exact hD.Flt
  have hk0 : ∃ gs, W1.cell? ⟨k, 0, none⟩ = some (.slice (some ⟨gs, 0, none⟩) n n) := by obtain ⟨gs, gl, bm, vw, base, nm, D, hD, _⟩ := hD1; exact ⟨gs, hD.c0⟩
  obtain ⟨gs, hk0⟩ := hk0
  go_enter Try.func12, Try.ntmps12
  go_upto_region 1 with fail
  change Code.wp _ _ _ _ (w.alloc (.cells refZ.toArray 36))
  rw [← HW1.out]
  clear HW1
  go_wp2_with fail
  refine Calls.mono (there_yes k gs n a m W1 hk0 hn2 (by omega) (by omega) (by rw [Hs.out]; exact ha)) ?_
  rintro e wx ⟨rfl, rfl⟩
  go_wp2_with fail
  go_at_call 18
  refine Calls.mono (sectors_any m (by omega) wx) ?_
  rintro e wy ⟨rfl, rfl⟩
  rw [Hs.out]
  go_wp2_with fail
  go_loopw [24] (fun v wr => ∃ i : Nat, i ≤ s ∧ v = .int .i64 i ∧ (∃ F', Disk wr F' k n (putF S a l i) L (W ++ putW a l i) false 0 ∧ (∀ b, F' b → F b ∨ wy.heap.size ≤ b)) ∧ Only F wy wr) (fun v _ => s - (intOf v).toNat)
  case atStart => exact ⟨0, by omega, rfl, ⟨F, by simpa [putF, putW] using hD1, fun b h => Or.inl h⟩, Only.refl _ _⟩
  case round =>
    clear hD1
    obtain ⟨i, hi, rfl, ⟨F', hD, hF'⟩, hO⟩ := by assumption
    obtain ⟨w1, rfl⟩ : ∃ wo : World, wo = wr := ⟨_, rfl⟩
    by_cases hlt : i < s
    · have hd2 : decide ((i : Int) < (s : Int)) = true := by simp; exact hlt
      have hd3 : decide (i < s) = true := by simp; exact hlt
      have hix : 64 * i ≤ m := by
        by_cases h0 : 0 < m
        · exact Nat.le_of_lt (secsF_fits (by rw [Hs.out]; exact hlt) h0)
        · have := Hs.out; unfold secsF at this; omega
      obtain ⟨x, hx⟩ : ∃ x, 64 * i = x := ⟨_, rfl⟩
      have hxI : (i : Int) * 64 = (x : Int) := by omega
      have hxm : x ≤ m := by omega
      have hq : ∀ w, (Instr.sliceAt 22 (.slice A m c) (some (.int .i64 (x : Nat))) none none).run Try.prog w = .ok (.slice (cutA A c x) (m - x) (c - x)) w := fun w => run_from 22 underB sizeB A m c x .i64 _ rfl hxm w
      obtain ⟨W2, hW2⟩ : ∃ W2, W2 = w1.alloc (.cells (Lib.byteCells zero64).toArray 30) := ⟨_, rfl⟩
      have hW2s : W2.heap.size = w1.heap.size + 1 := by rw [hW2]; simp
      have hZ2 : Hid (W2.drew.heap[w1.heap.size]? = some (.cells (Lib.byteCells zero64).toArray 30 (0, 0))) := by rw [hW2]; exact Arr.new w1 _ _
      have hb2 : Below w1.heap.size w1 W2 := by rw [hW2]; exact (Below.refl _ w1).alloc (Nat.le_refl _) _
      have hbsW : Bs W2 wy.heap.size A l := ((hb.below hb1 (Nat.le_refl _)).more hb1.size |>.onlyB hO hA (Nat.le_refl _)).below hb2 hO.size
      have hcs := Lib.hid ((((hbsW.cutA (c := c) (k := x) (by omega) (by omega)).upto 64).drewN 1).cells)
      have HN := Lib.hid (show (Lib.byteCells ((l.drop x).take 64)).length = Nat.min (m - x) 64 by rw [Lib.byteCells_length, List.length_take, List.length_drop, hm]; exact Nat.min_comm _ _)
      have HF := Lib.hid (show 0 + (Lib.byteCells ((l.drop x).take 64)).length ≤ (Lib.byteCells zero64).length by rw [Lib.byteCells_length, Lib.byteCells_length, List.length_take, zero64_length]; omega)
      have H1 := Lib.hid (byteCells_one ((l.drop x).take 64))
      have hxw : IntKind.i64.wrap (x : Int) = (x : Int) := IntWalk.i64_in _ (by omega)
      have hx0 : (0 : Int) ≤ (x : Int) := by omega
      have hx1 : (x : Int) ≤ (m : Int) := by omega
      have Hx := Lib.hid hx
      have HW2 := Lib.hid hW2
      clear hx hW2 hbsW
      go_wp2_with fail
      change Code.wp _ _ _ _ (w1.alloc (.cells (Lib.byteCells zero64).toArray 30))
      rw [← HW2.out]
      go_region_held3 (fun w' => True) (trivial)
        (first
          | (refine step_copy_any (by rfl) _ _ _ _ (by rfl) 5 Try.underlying22 byteSizeB _ _ _ _ _ _ (by rfl) (by rfl) w1.heap.size 0 (Lib.byteCells zero64) 30 hZ2.out (Lib.byteCells ((l.drop x).take 64)) HN.out (fun hp => ⟨rfl, hcs.out hp⟩) HF.out H1.out ?_
             intro w2 hw2D hw2)
          | (refine step_fromB (by rfl) 22 _ _ (by rfl) (.slice A m c) (.int .i64 (x : Nat)) (by rfl) (by rfl) _ (hq _) ?_))
      obtain ⟨SL, hSL⟩ : ∃ SL, SL = Lib.byteCells (secAtF l i) := ⟨_, rfl⟩
      have hl64 := secAtF_length l i
      have hSLl : SL.length = 64 := by rw [hSL, Lib.byteCells_length]; exact hl64
      have hD2 : Hid (w2.heap[w1.heap.size]? = some (.cells SL.toArray 30 (0, 0))) := by
        show _ = _
        rw [hSL, ← sec_splice, Hx.out]
        exact hw2D.out
      have HSi := Lib.hid (show (Try.prog.info? 30).map (·.size) = some SL.toArray.size by rw [List.size_toArray, hSLl]; exact secInfo)
      have hbw : Below w1.heap.size w1 w2 := by
        have hbd : Below w1.heap.size w1 W2.drew := ⟨hb2.os, hb2.tape, hb2.output, hb2.size, hb2.block⟩
        exact hbd.trans ⟨hw2.1.os, hw2.1.tape, hw2.1.output, hw2.1.size, fun j hj => hw2.1.block j (by have := hbd.size; omega) (fun e => by injection e with e; omega)⟩
      have hDk : Disk w2 F' k n (putF S a l i) L (W ++ putW a l i) false 0 := by
        obtain ⟨gs, gl, bm, vw, base, nm, D, hD, hr⟩ := hD
        exact ⟨gs, gl, bm, vw, base, nm, D, hD.kept hbw.size (fun b hF => hbw.block b (hD.Flt b hF)), hr⟩
      obtain ⟨q, hqq⟩ : ∃ q, a + i = q := ⟨_, rfl⟩
      have hqI : (a : Int) + (i : Int) = (q : Int) := by omega
      have hqB : q ≤ 65536 := by omega
      have Hq := Lib.hid hqq
      have HSL := Lib.hid hSL
      clear hSL hqq
      go_wp2_with (first
        | (refine wpList_load_row rfl _ _ rfl w1.heap.size rfl 30 SL.toArray (0, 0) _ hD2.out Try.underlying30 rfl HSi.out ?_))
      go_at_call 10
      refine Calls.mono (write_live F' k n q (putF S a l i) L (W ++ putW a l i) false 0 (secAtF l i) SL w2 hDk rfl (by have := Hq.out; omega) hl64 HSL.out (by rw [List.length_append, putW_length]; omega)) ?_
      rintro e w3 ⟨rfl, hD3, hO3⟩
      go_wp2_with fail
      case roundEnd =>
        refine ⟨⟨i + 1, by omega, by simp, ⟨newF F' w2 w3, ?_, ?_⟩, ?_⟩, by simp [intOf]; omega⟩
        · rw [putF, putW_succ, ← List.append_assoc, Hq.out]
          exact hD3
        · rintro b (hb' | hb')
          · exact hF' b hb'
          · exact Or.inr (Nat.le_trans (Nat.le_trans hO.size hbw.size) hb'.1)
        · exact (hO.step hbw).then hO3 (fun j hj => hF' j hj)
    · obtain rfl : i = s := by omega
      have hd2 : decide ((i : Int) < (i : Int)) = false := by simp
      have hR8 : Arr w1 w.heap.size 36 refZ := hR1.only hO (fun hF => Nat.lt_irrefl _ (hFlt _ hF))
      have hbsW : Bs w1 w1.heap.size A l := ((hb.below hb1 (Nat.le_refl _)).more hb1.size |>.onlyB hO hA (Nat.le_refl _)).more hO.size
      have HI := Lib.hid (show (Try.prog.info? 36).map (·.size) = some DL.toArray.size by rw [List.size_toArray, hDL, refC_length (blobDig_length l)]; exact refSize)
      have HS := Lib.hid (show refZ.toArray.size = DL.toArray.size by rw [List.size_toArray, List.size_toArray, hDL, refC_length (blobDig_length l)]; rfl)
      have H1 := Lib.hid (show DL.toArray.all (·.oneCell') = true by rw [hDL]; exact all_oneCell_toArray (refC_cell _ _ _))
      have HDL := Lib.hid hDL
      clear hDL
      go_wp2_with fail
      go_at_call 16
      refine Calls.mono (of_any a l DL A m c w1 hm (by omega) hc hcm hbsW (by omega) (by omega) HDL.out) ?_
      rintro e w9 ⟨rfl, hb9⟩
      have hR9 := hR8.below hb9 hR8.lt
      have H0 : Hid (w9.heap[w.heap.size]? = some (.cells refZ.toArray 36 (0, 0))) := Lib.hid hR9
      go_wp2_with (first | (refine wpList_store_row rfl _ _ _ rfl w.heap.size DL.toArray rfl rfl 36 refZ.toArray H0.out HI.out HS.out H1.out ?_))
      have hset := hR9.setRow DL
      have hO9 : Only (fun j => j = w.heap.size) w9 (w9.setRow w.heap.size DL.toArray) := (Only.refl (fun j => j = w.heap.size) w9).setRow (.inl rfl) DL.toArray
      (try simp only [Exit.inBlock, Exit.then])
      obtain ⟨V, hV⟩ : ∃ V, V = Value.tuple #[.agg DL.toArray, .int .i64 0] := ⟨_, rfl⟩
      refine bodyPost_ret (v := V) ?hx1 ?h2 ?h3
      case hx1 => rw [hV]; exact results_cell2 (fn := Try.f12) (by rfl) _ _ w.heap.size 36 DL.toArray (0, 0) _ (by rfl) _ (by rfl) hset Try.underlying36 rfl HI.out
      case h2 => rfl
      case h3 =>
        refine ⟨by rw [hV], F', ?_, ?_, ?_⟩
        · have hbl : ∀ b, F' b → (w9.setRow w.heap.size DL.toArray).heap[b]? = w1.heap[b]? := fun b hb' => by
            have hlt : b < w1.heap.size := by obtain ⟨gs, gl, bm, vw, base, nm, D, hD, hr⟩ := hD; exact hD.Flt b hb'
            have hne : ¬ b = w.heap.size := by
              rcases hF' b hb' with h1 | h1
              · exact Nat.ne_of_lt (hFlt b h1)
              · omega
            rw [hO9.block b (by have := hb9.size; omega) hne]
            exact hb9.block b hlt
          obtain ⟨gs, gl, bm, vw, base, nm, D, hD, hr⟩ := hD
          exact ⟨gs, gl, bm, vw, base, nm, D, hD.kept (Nat.le_trans hb9.size hO9.size) hbl, hr⟩
        · intro b hb'
          rcases hF' b hb' with h1 | h1
          · exact Or.inl h1
          · exact Or.inr (by omega)
        · exact ((Only.of_below hb1).trans (hO.step hb9)).then hO9 (fun j hj => Or.inr (by omega))

end Go.Proofs.Ytongmiebojilfaa

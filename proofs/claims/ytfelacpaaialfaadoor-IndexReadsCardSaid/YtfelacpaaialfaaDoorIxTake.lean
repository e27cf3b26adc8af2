/-
  What the index takes behind a fingerprint.
-/
import Derived.Test.YtfelacpaaialfaaDoorIxMath
import Derived.Test.YtfelacpaaialfaaDoorDig
import Derived.Test.YtfelacpaaialfaaDoorGen
import Derived.Deep.DeepCutAuto
import Derived.Deep.CutBlock
import Derived.Outline
import Derived.IntWalk
namespace Go.Proofs.YtfelacpaaialfaaDoor
open Go.RowKit
set_option linter.unusedVariables false
set_option linter.unusedSimpArgs false

variable {lo : Nat}
/-- One block was turned; nothing else. -/
def Wrote1 (g : Nat) (w w' : World) : Prop := (w'.os = w.os ∧ w'.tape = w.tape ∧ w'.output = w.output ∧ w'.heap.size = w.heap.size) ∧ ∀ k, k ≠ g → w'.heap[k]? = w.heap[k]?
theorem Wrote1.set (g i : Nat) (w : World) (v : Value) : Wrote1 g w (w.setCell ⟨g, i, none⟩ v) := by
  have h := Only.setCell (R := fun k => k = g) (Only.refl _ w) (p := ⟨g, i, none⟩) (.inl rfl) v
  exact ⟨⟨h.os, h.tape, h.output, by simp⟩, fun k hk => Below.heap_setCell w ⟨g, i, none⟩ v k hk⟩
theorem Wrote1.row (g : Nat) (w : World) (c : Array Value) : Wrote1 g w (w.setRow g c) := by
  have h := (Wrote.set g w c)
  exact ⟨⟨h.1.os, h.1.tape, h.1.output, h.2⟩, fun k hk => setRow_other w g k c hk⟩
theorem Turn.wrote {p g : Nat} {a b c : World} (h : Turn p a b) (hw : Wrote1 g b c) (hg : a.heap.size ≤ g) : Turn p a c :=
  ⟨hw.1.1.trans h.os, hw.1.2.1.trans h.tape, hw.1.2.2.1.trans h.output, by rw [hw.1.2.2.2]; exact h.size,
    fun k hk hne => (hw.2 k (by omega)).trans (h.block k hk hne)⟩
/-- A place and its uses, as three cells. -/
def stC (b s u : Nat) : List Value := [.int .i64 ((b : Int) - 1), .int .i64 (s : Nat), .int .i64 (u : Nat)]
theorem stInfo : (Tryd.prog.info? 50).map (·.size) = some 3 := by kernel_rfl
theorem inumber_fl (p most : Nat) (s : St) (w : World) (h : PInL lo w p s.1 s.2) (hm : most < 18446744073709551616) :
    Calls Tryd.prog 15 #[.pointer (some ⟨p, 0, none⟩), .int .u64 most] w fun e w' => e = .returned (.int .u64 (numS most s).1) ∧ PInL lo w' p (numS most s).2.1 (numS most s).2.2 ∧ Turn p w w' := number_in p most s.1 s.2 w h hm
theorem idigest_fl (p : Nat) (s : St) (w : World) (h : PInL lo w p s.1 s.2) :
    Calls Tryd.prog 16 #[.pointer (some ⟨p, 0, none⟩)] w fun e w' => e = .returned (.agg (Lib.byteCells (digS s).1).toArray) ∧ PInL lo w' p (digS s).2.1 (digS s).2.2 ∧ Turn p w w' := digest_in p s.1 s.2 w h

set_option maxHeartbeats 8000000 in
set_option maxRecDepth 100000 in
theorem itake_any (p : Nat) (s : St) (w : World) (h : PInL lo w p s.1 s.2) :
    Calls Tryd.prog 17 #[.pointer (some ⟨p, 0, none⟩)] w fun e w' => e = .returned (.agg (stC (takeI s).1.1 (takeI s).1.2.1 (takeI s).1.2.2).toArray) ∧ PInL lo w' p (takeI s).2.1 (takeI s).2.2 ∧ Turn p w w' := by
  have hp := h.lt
  obtain ⟨b, hb⟩ : ∃ z, (numS 2147483648 s).1 = z := ⟨_, rfl⟩
  obtain ⟨s1, hs1⟩ : ∃ z, (numS 2147483648 s).2 = z := ⟨_, rfl⟩
  obtain ⟨sl, hsl⟩ : ∃ z, (numS 65535 s1).1 = z := ⟨_, rfl⟩
  obtain ⟨s2, hs2⟩ : ∃ z, (numS 65535 s1).2 = z := ⟨_, rfl⟩
  obtain ⟨u, hu⟩ : ∃ z, (numS 2147483647 s2).1 = z := ⟨_, rfl⟩
  obtain ⟨s3, hs3⟩ : ∃ z, (numS 2147483647 s2).2 = z := ⟨_, rfl⟩
  have hb2 : b ≤ 2147483648 := by rw [← hb]; exact numS_le _ _
  have hsl2 : sl ≤ 65535 := by rw [← hsl]; exact numS_le _ _
  have hu2 : u ≤ 2147483647 := by rw [← hu]; exact numS_le _ _
  have ht : takeI s = ((b, sl, u), s3) := by unfold takeI; rw [hs1, hb, hs2, hsl, hs3, hu]
  rw [ht]
  have H1 := Lib.hid (fun (w : World) (h : PInL lo w p s.1 s.2) => inumber_fl p 2147483648 s w h (by omega))
  rw [hb, hs1] at H1
  have H2 := Lib.hid (fun (w : World) (h : PInL lo w p s1.1 s1.2) => inumber_fl p 65535 s1 w h (by omega))
  rw [hsl, hs2] at H2
  have H3 := Lib.hid (fun (w : World) (h : PInL lo w p s2.1 s2.2) => inumber_fl p 2147483647 s2 w h (by omega))
  rw [hu, hs3] at H3
  clear hb hs1 hsl hs2 hu hs3 ht
  dsimp only
  obtain ⟨DV, hDV⟩ : ∃ z, z = (stC b sl u) := ⟨_, rfl⟩
  have HDV := Lib.hid hDV
  have HDi := Lib.hid (show (Tryd.prog.info? 50).map (·.size) = some DV.toArray.size by rw [hDV]; exact stInfo)
  have HDz := Lib.hid (show (#[.int .i64 0, .int .i64 0, .int .i64 0] : Array Value).size = DV.toArray.size by rw [hDV]; rfl)
  have HD1 := Lib.hid (show DV.toArray.all (·.oneCell') = true by rw [hDV]; simp [stC, Value.oneCell'])
  clear hDV
  go_enter Tryd.func17, Tryd.ntmps17
  go_upto_region 2 with fail
  obtain ⟨g, hg⟩ : ∃ z, z = w.heap.size := ⟨_, rfl⟩
  obtain ⟨w0, hw0⟩ : ∃ z, z = (w.alloc (.cells #[.int .i64 0, .int .i64 0, .int .i64 0] 50)).alloc (.cells #[.int .i64 0, .int .i64 0, .int .i64 0] 50) := ⟨_, rfl⟩
  have hR0 : Arr w0 g 50 [.int .i64 0, .int .i64 0, .int .i64 0] := by rw [hw0, hg]; exact (Arr.new w _ _).alloc _
  have hI0 : Arr w0 (g + 1) 50 [.int .i64 0, .int .i64 0, .int .i64 0] := by
    have := Arr.new (w.alloc (.cells #[.int .i64 0, .int .i64 0, .int .i64 0] 50)) 50 [.int .i64 0, .int .i64 0, .int .i64 0]
    rw [hw0, hg]
    simpa using this
  have hb0 : Below w.heap.size w w0 := by rw [hw0]; exact ((Below.refl _ w).alloc (Nat.le_refl _) _).alloc (by simp) _
  have hP0 : PInL lo w0 p s.1 s.2 := h.kept fun k hk => hb0.block k (by omega)
  have ht0 : Turn p w w0 := ⟨hb0.os, hb0.tape, hb0.output, hb0.size, fun i hi _ => hb0.block i hi⟩
  change Code.wp _ _ _ _ ((w.alloc (.cells #[.int .i64 0, .int .i64 0, .int .i64 0] 50)).alloc (.cells #[.int .i64 0, .int .i64 0, .int .i64 0] 50))
  rw [← hw0, ← hg]
  have Hg := Lib.hid hg
  have hpg : p < g := by omega
  clear hw0 hb0 h hg
  go_wp2_with fail
  refine Calls.mono (H1.out w0 hP0) ?_
  rintro e w1 ⟨rfl, hP1, ht1⟩
  have hR1 : Arr w1 g 50 [.int .i64 0, .int .i64 0, .int .i64 0] := (ht1.block _ hR0.lt (fun e => by injection e; omega)).trans hR0
  have hI1 : Arr w1 (g + 1) 50 [.int .i64 0, .int .i64 0, .int .i64 0] := (ht1.block _ hI0.lt (fun e => by injection e; omega)).trans hI0
  have htw1 := ht0.trans ht1
  clear hR0 hI0 hP0 ht0 ht1 H1
  have hc := hI1.cell 0
  have hf := hI1.frozen 0
  simp only [List.getElem?_cons_zero] at hc
  go_upto_region 3 with fail
  obtain ⟨x1, hx1⟩ : ∃ z, z = w1.setCell ⟨g + 1, 0, none⟩ (.int .i64 ((b : Int) - 1)) := ⟨_, rfl⟩
  have hR1x : Arr x1 g 50 [.int .i64 0, .int .i64 0, .int .i64 0] := by rw [hx1]; exact hR1.setOther (by simp only; omega) _
  have hI1x : Arr x1 (g + 1) 50 [.int .i64 ((b : Int) - 1), .int .i64 0, .int .i64 0] := by
    have := hI1.set 0 (.int .i64 ((b : Int) - 1))
    rw [hx1]
    simpa using this
  have hw1x : Wrote1 (g + 1) w1 x1 := by rw [hx1]; exact Wrote1.set _ _ _ _
  have hP1x : PInL lo x1 p s1.1 s1.2 := hP1.kept fun k hk => hw1x.2 k (by omega)
  have htx1 : Turn p w x1 := htw1.wrote hw1x (by have := Hg.out; omega)
  rw [← hx1]
  clear hx1 hR1 hI1 hw1x hP1 htw1 hc hf
  go_wp2_with fail
  refine Calls.mono (H2.out x1 hP1x) ?_
  rintro e w2 ⟨rfl, hP2, ht2⟩
  have hR2 : Arr w2 g 50 [.int .i64 0, .int .i64 0, .int .i64 0] := (ht2.block _ hR1x.lt (fun e => by injection e; omega)).trans hR1x
  have hI2 : Arr w2 (g + 1) 50 [.int .i64 ((b : Int) - 1), .int .i64 0, .int .i64 0] := (ht2.block _ hI1x.lt (fun e => by injection e; omega)).trans hI1x
  have htw2 := htx1.trans ht2
  clear hR1x hI1x hP1x htx1 ht2 H2
  have hc := hI2.cell 1
  have hf := hI2.frozen 1
  simp only [List.getElem?_cons_zero, List.getElem?_cons_succ] at hc
  go_upto_region 4 with fail
  obtain ⟨x2, hx2⟩ : ∃ z, z = w2.setCell ⟨g + 1, 1, none⟩ (.int .i64 (sl : Nat)) := ⟨_, rfl⟩
  have hR2x : Arr x2 g 50 [.int .i64 0, .int .i64 0, .int .i64 0] := by rw [hx2]; exact hR2.setOther (by simp only; omega) _
  have hI2x : Arr x2 (g + 1) 50 [.int .i64 ((b : Int) - 1), .int .i64 (sl : Nat), .int .i64 0] := by
    have := hI2.set 1 (.int .i64 (sl : Nat))
    rw [hx2]
    simpa using this
  have hw2x : Wrote1 (g + 1) w2 x2 := by rw [hx2]; exact Wrote1.set _ _ _ _
  have hP2x : PInL lo x2 p s2.1 s2.2 := hP2.kept fun k hk => hw2x.2 k (by omega)
  have htx2 : Turn p w x2 := htw2.wrote hw2x (by have := Hg.out; omega)
  rw [← hx2]
  clear hx2 hR2 hI2 hw2x hP2 htw2 hc hf
  go_wp2_with fail
  refine Calls.mono (H3.out x2 hP2x) ?_
  rintro e w3 ⟨rfl, hP3, ht3⟩
  have hR3 : Arr w3 g 50 [.int .i64 0, .int .i64 0, .int .i64 0] := (ht3.block _ hR2x.lt (fun e => by injection e; omega)).trans hR2x
  have hI3 : Arr w3 (g + 1) 50 [.int .i64 ((b : Int) - 1), .int .i64 (sl : Nat), .int .i64 0] := (ht3.block _ hI2x.lt (fun e => by injection e; omega)).trans hI2x
  have htw3 := htx2.trans ht3
  clear hR2x hI2x hP2x htx2 ht3 H3
  have hc := hI3.cell 2
  have hf := hI3.frozen 2
  simp only [List.getElem?_cons_zero, List.getElem?_cons_succ] at hc
  go_upto_region 5 with fail
  obtain ⟨x3, hx3⟩ : ∃ z, z = w3.setCell ⟨g + 1, 2, none⟩ (.int .i64 (u : Nat)) := ⟨_, rfl⟩
  have hR3x : Arr x3 g 50 [.int .i64 0, .int .i64 0, .int .i64 0] := by rw [hx3]; exact hR3.setOther (by simp only; omega) _
  have hI3x : Arr x3 (g + 1) 50 DV := by
    have := hI3.set 2 (.int .i64 (u : Nat))
    rw [hx3]
    rw [HDV.out]
    simpa [stC] using this
  have hw3x : Wrote1 (g + 1) w3 x3 := by rw [hx3]; exact Wrote1.set _ _ _ _
  have hP3x : PInL lo x3 p s3.1 s3.2 := hP3.kept fun k hk => hw3x.2 k (by omega)
  have htx3 : Turn p w x3 := htw3.wrote hw3x (by have := Hg.out; omega)
  rw [← hx3]
  clear hx3 hR3 hI3 hw3x hP3 htw3 hc hf
  obtain ⟨x4, hx4⟩ : ∃ z, z = x3.setRow g DV.toArray := ⟨_, rfl⟩
  have hR4 : Arr x4 g 50 DV := by rw [hx4]; exact hR3x.setRow DV
  have hw4 : Wrote1 g x3 x4 := by rw [hx4]; exact Wrote1.row _ _ _
  have hP4 : PInL lo x4 p s3.1 s3.2 := hP3x.kept fun k hk => hw4.2 k (by omega)
  have ht4 : Turn p w x4 := htx3.wrote hw4 (by have := Hg.out; omega)
  have Hx4 := Lib.hid hx4
  clear hx4 hw4
  go_wp2_with (first
    | (refine wpList_load_row rfl _ _ rfl (g + 1) rfl 50 DV.toArray (0, 0) _ hI3x Tryd.underlying50 rfl HDi.out ?_)
    | (refine wpList_store_row rfl _ _ _ rfl g DV.toArray rfl rfl 50 _ hR3x HDi.out HDz.out HD1.out ?_; rw [← Hx4.out]))
  refine bodyPost_ret (v := .agg DV.toArray) (results_cell_row (by rfl) _ _ g 50 DV.toArray (0, 0) _ (by rfl) hR4 Tryd.underlying50 rfl HDi.out) rfl ?_
  exact ⟨by rw [HDV.out], hP4, ht4⟩

end Go.Proofs.YtfelacpaaialfaaDoor

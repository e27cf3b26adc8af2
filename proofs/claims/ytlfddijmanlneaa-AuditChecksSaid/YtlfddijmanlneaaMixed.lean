/-
  mixed: the state behind one chunk more.
-/
import Derived.Test.YtlfddijmanlneaaSched
import Derived.Deep.RegionHeld3
import Derived.Deep.QuietTactic
import Derived.BigQuiet
namespace Go.Proofs.Ytlfddijmanlneaa
open Go.RowKit
set_option linter.unusedVariables false

def zeros8 : List Nat := List.replicate 8 0
theorem sizeS : (Try.prog.info? 118).map (·.size) = some 8 := by kernel_rfl
theorem sizeWord : (Try.prog.info? 115).map (·.size) = some 1 := by kernel_rfl

def MixPost (ks h : List Nat) (l : List UInt8) (w : World) (e : Ending) (w' : World) : Prop :=
  e = .returned (.agg (wordCells (mixF ks h l)).toArray) ∧ Below w.heap.size w w'

set_option maxHeartbeats 8000000 in
set_option maxRecDepth 100000 in
theorem mixed_any (ks h : List Nat) (l : List UInt8) (A : Option Addr) (c kb : Nat) (w : World) (hh : h.length = 8) (hf : Fit h) (hk : ks.length = 64) (hkf : Fit ks)
    (hK : Arr w kb 119 (wordCells ks)) (hl : l.length = 64) (hb : Bs w w.heap.size A l) :
    Calls Try.prog 82 #[.agg (wordCells h).toArray, .pointer (some ⟨kb, 0, none⟩), .slice A 64 c] w (MixPost ks h l w) := by
  obtain ⟨V, hV⟩ : ∃ V, V = (wordCells h).toArray := ⟨_, rfl⟩
  have sV : V.size = 8 := by rw [hV]; simp [wordCells_length, hh]
  have iV : (Try.prog.info? 118).map (·.size) = some V.size := by rw [sV]; exact sizeS
  have oV : V.all (·.oneCell') = true := by rw [hV]; simpa using wordCells_one h
  rw [← hV]
  have HV := Lib.hid hV
  have HsV := Lib.hid sV
  have HiV := Lib.hid iV
  have HoV := Lib.hid oV
  clear hV sV iV oV
  go_enter Try.func82, Try.ntmps82
  obtain ⟨W0, hW0⟩ : ∃ W0, W0 = (w.alloc (.cells V 118)).alloc (.cells (wordCells zeros8).toArray 118) := ⟨_, rfl⟩
  have hW0s : W0.heap.size = w.heap.size + 2 := by rw [hW0]; simp
  have hW0b : Below w.heap.size w W0 := by rw [hW0]; exact ((Below.refl _ w).alloc (Nat.le_refl _) _).alloc (by simp) _
  have hS0 : W0.heap[w.heap.size]? = some (.cells V 118 (0, 0)) := by rw [hW0, Below.heap_alloc _ _ _ (by simp)]; exact heap_alloc_new w _
  have hR0 : Arr W0 (w.heap.size + 1) 118 (wordCells zeros8) := by
    have h1 := Arr.new (w.alloc (.cells V 118)) 118 (wordCells zeros8)
    rw [show (w.alloc (.cells V 118)).heap.size = w.heap.size + 1 from by simp] at h1
    rw [hW0]; exact h1
  have hkb := hK.lt
  have hK0 : Arr W0 kb 119 (wordCells ks) := hK.below hW0b hkb
  have hb0 : Bs W0 W0.heap.size A l := (hb.below hW0b (Nat.le_refl _)).more (by omega)
  have HW0 := Lib.hid hW0
  have HS0 := Lib.hid hS0
  clear hW0 hS0 hb hK
  go_wp2_with fail
  change Calls _ _ _ ((w.alloc (.cells V 118)).alloc (.cells (wordCells zeros8).toArray 118)) _
  rw [← HW0.out]
  refine (sched_any l A c W0 hl hb0).mono ?_
  rintro e w1 ⟨rfl, hb1⟩
  have hws := wordsF_length l
  have hwf := wordsF_fit l
  obtain ⟨ws, hwse⟩ : ∃ ws, wordsF l = ws := ⟨_, rfl⟩
  rw [hwse] at hws hwf ⊢
  have Hwse := Lib.hid hwse
  obtain ⟨WV, hWV⟩ : ∃ V, V = (wordCells ws).toArray := ⟨_, rfl⟩
  have sWV : WV.size = 64 := by rw [hWV]; simp [wordCells_length, hws]
  have iWV : (Try.prog.info? 119).map (·.size) = some WV.size := by rw [sWV]; exact sizeW
  have oWV : WV.all (·.oneCell') = true := by rw [hWV]; simpa using wordCells_one ws
  rw [← hWV]
  have hz64 : (wordCells zeros64).toArray.size = WV.size := by rw [sWV]; simp [wordCells_length, zeros64]
  have hz8 : (wordCells zeros8).toArray.size = V.size := by rw [HsV.out]; simp [wordCells_length, zeros8]
  have hs1 : w.heap.size + 2 ≤ w1.heap.size := by have := hb1.size; omega
  have n1 := heap_alloc_new w1 (.cells (wordCells zeros64).toArray 119)
  have s1 : (w1.alloc (.cells (wordCells zeros64).toArray 119)).heap.size = w1.heap.size + 1 := by simp
  have n2 := heap_alloc_new ((w1.alloc (.cells (wordCells zeros64).toArray 119)).setRow w1.heap.size WV) (.cells (wordCells zeros8).toArray 118)
  have s2 : ((w1.alloc (.cells (wordCells zeros64).toArray 119)).setRow w1.heap.size WV).heap.size = w1.heap.size + 1 := by simp
  rw [s2] at n2
  have l2 : ((w1.alloc (.cells (wordCells zeros64).toArray 119)).setRow w1.heap.size WV).heap[w.heap.size]? = some (.cells V 118 (0, 0)) := by
    rw [setRow_other _ _ _ _ (by omega), Below.heap_alloc _ _ _ (by omega), hb1.block _ (by omega)]
    exact HS0.out
  have N1 := Lib.hid n1
  have N2 := Lib.hid n2
  have L2 := Lib.hid l2
  have HWV := Lib.hid hWV
  have HiWV := Lib.hid iWV
  have HoWV := Lib.hid oWV
  have Hz64 := Lib.hid hz64
  have Hz8 := Lib.hid hz8
  have HsWV := Lib.hid sWV
  clear n1 n2 l2 hWV iWV oWV hz64 hz8 s1 s2 hwse sWV
  go_wp2_with (first
    | (refine wpList_store_row rfl _ _ _ rfl w1.heap.size WV rfl rfl 119 (wordCells zeros64).toArray N1.out HiWV.out Hz64.out HoWV.out ?_)
    | (refine wpList_load_row rfl _ _ rfl w.heap.size rfl 118 V (0, 0) _ L2.out Try.underlying118 rfl HiV.out ?_)
    | (refine wpList_store_row rfl _ _ _ rfl (w1.heap.size + 1) V rfl rfl 118 (wordCells zeros8).toArray N2.out HiV.out Hz8.out HoV.out ?_))
  obtain ⟨W2, hW2⟩ : ∃ W2, W2 = (((w1.alloc (.cells (wordCells zeros64).toArray 119)).setRow w1.heap.size WV).alloc (.cells (wordCells zeros8).toArray 118)).setRow (w1.heap.size + 1) V := ⟨_, rfl⟩
  have hW2s : W2.heap.size = w1.heap.size + 2 := by rw [hW2]; simp
  have hW2b : Below w1.heap.size w1 W2 := by
    rw [hW2]
    have h1 : Only (fun k => w1.heap.size ≤ k) w1 _ := ((((Only.refl (fun k => w1.heap.size ≤ k) w1).alloc (.cells (wordCells zeros64).toArray 119)).setRow (.inl (Nat.le_refl _)) WV).alloc (.cells (wordCells zeros8).toArray 118)).setRow (g := w1.heap.size + 1) (.inl (by simp)) V
    exact h1.below (Nat.le_refl _) (fun k hk => hk)
  have hV2 : Arr W2 (w1.heap.size + 1) 118 (wordCells h) := by
    rw [hW2]; unfold Arr; rw [← HV.out]; exact setRow_heap _ _ _ _ _ _ N2.out
  have hWW2 : Arr W2 w1.heap.size 119 (wordCells ws) := by
    rw [hW2]; unfold Arr; rw [← HWV.out, setRow_other _ _ _ _ (by omega), Below.heap_alloc _ _ _ (by simp)]; exact setRow_heap _ _ _ _ _ _ N1.out
  have hS2 : Arr W2 w.heap.size 118 (wordCells h) := by
    unfold Arr; rw [hW2b.block _ (by omega), hb1.block _ (by omega), ← HV.out]; exact HS0.out
  have hR2 : Arr W2 (w.heap.size + 1) 118 (wordCells zeros8) := (hR0.below hb1 (by omega)).below hW2b (by omega)
  have hK2 : Arr W2 kb 119 (wordCells ks) := (hK0.below hb1 (by omega)).below hW2b (by omega)
  have hbW2 : Below w.heap.size w W2 := (hW0b.trans (hb1.mono (by omega))).trans (hW2b.mono (by omega))
  change Code.wp _ _ _ _ ((((w1.alloc (.cells (wordCells zeros64).toArray 119)).setRow w1.heap.size WV).alloc (.cells (wordCells zeros8).toArray 118)).setRow (w1.heap.size + 1) V)
  rw [← hW2]
  have hsep : w.heap.size + 2 ≤ w1.heap.size ∧ kb < w.heap.size := ⟨hs1, hkb⟩
  clear hW2 N1 N2 L2 hR0 hK0 hb0 hb1 hW2b HS0 HW0 hW0b hW0s hl Hz64 Hz8 hkb
  obtain ⟨g8, hg8⟩ : ∃ g, g = w1.heap.size + 1 := ⟨_, rfl⟩
  obtain ⟨g7, hg7⟩ : ∃ g, g = w1.heap.size := ⟨_, rfl⟩
  rw [← hg8] at hV2 ⊢
  rw [← hg7] at hWW2 ⊢
  have hsep2 : g7 < W2.heap.size ∧ g8 < W2.heap.size ∧ g7 ≠ g8 ∧ w.heap.size + 2 ≤ g7 ∧ w.heap.size + 2 ≤ g8 := by omega
  obtain ⟨hq1, hq2, hq3, hq4, hq5⟩ := hsep2
  clear hg8 hg7 hW2s
  go_loopw [22] (fun i wr => ∃ k : Nat, k ≤ 64 ∧ i = .int .i64 k ∧ Arr wr g8 118 (wordCells (roundsF h ks ws k)) ∧ Only (fun k => k = g8) W2 wr ∧ wr.heap.size = W2.heap.size) (fun i _ => 64 - (intOf i).toNat)
  case atStart => exact ⟨0, by omega, rfl, hV2, Only.refl _ _, rfl⟩
  case round =>
    obtain ⟨k, hk', rfl, hAr, hor, hsz⟩ := hrel
    by_cases hlt : k < 64
    · have hvl := roundsF_length ks ws k hh
      have hvf := roundsF_fit ks ws k hf
      have hnx : roundsF h ks ws (k + 1) = roundF (roundsF h ks ws k) (ks.getD k 0) (ws.getD k 0) := rfl
      obtain ⟨v, hv⟩ : ∃ v, roundsF h ks ws k = v := ⟨_, rfl⟩
      rw [hv] at hvl hvf hnx hAr
      have hWr : wr.cell? ⟨g7, k, none⟩ = some (.int .u32 (ws.getD k 0 : Nat)) := by
        rw [(hWW2.only hor hq3).cell]; exact wordCells_get (by omega)
      have hKr : wr.cell? ⟨kb, k, none⟩ = some (.int .u32 (ks.getD k 0 : Nat)) := by
        rw [(hK2.only hor (show ¬ kb = g8 by omega)).cell]; exact wordCells_get (by omega)
      have hkx := hkf.get k
      have hwx := hwf.get k
      obtain ⟨kk, ekk⟩ : ∃ x, ks.getD k 0 = x := ⟨_, rfl⟩
      obtain ⟨ww, eww⟩ : ∃ x, ws.getD k 0 = x := ⟨_, rfl⟩
      rw [ekk] at hKr hkx hnx
      rw [eww] at hWr hwx hnx
      have he := eight hvl
      have b0 := hvf.get 0
      have b1 := hvf.get 1
      have b2 := hvf.get 2
      have b3 := hvf.get 3
      have b4 := hvf.get 4
      have b5 := hvf.get 5
      have b6 := hvf.get 6
      have b7 := hvf.get 7
      unfold roundF at hnx
      obtain ⟨v0, e0⟩ : ∃ x, v.getD 0 0 = x := ⟨_, rfl⟩
      obtain ⟨v1, e1⟩ : ∃ x, v.getD 1 0 = x := ⟨_, rfl⟩
      obtain ⟨v2, e2⟩ : ∃ x, v.getD 2 0 = x := ⟨_, rfl⟩
      obtain ⟨v3, e3⟩ : ∃ x, v.getD 3 0 = x := ⟨_, rfl⟩
      obtain ⟨v4, e4⟩ : ∃ x, v.getD 4 0 = x := ⟨_, rfl⟩
      obtain ⟨v5, e5⟩ : ∃ x, v.getD 5 0 = x := ⟨_, rfl⟩
      obtain ⟨v6, e6⟩ : ∃ x, v.getD 6 0 = x := ⟨_, rfl⟩
      obtain ⟨v7, e7⟩ : ∃ x, v.getD 7 0 = x := ⟨_, rfl⟩
      rw [e0, e1, e2, e3, e4, e5, e6, e7] at he
      simp only [e0, e1, e2, e3, e4, e5, e6, e7] at hnx b0 b1 b2 b3 b4 b5 b6 b7
      clear e0 e1 e2 e3 e4 e5 e6 e7 ekk eww
      rw [he] at hAr
      have c0 : wr.cell? ⟨g8, 0, none⟩ = some (.int .u32 (v0 : Nat)) := by rw [hAr.cell]; rfl
      have c1 : wr.cell? ⟨g8, 1, none⟩ = some (.int .u32 (v1 : Nat)) := by rw [hAr.cell]; rfl
      have c2 : wr.cell? ⟨g8, 2, none⟩ = some (.int .u32 (v2 : Nat)) := by rw [hAr.cell]; rfl
      have c3 : wr.cell? ⟨g8, 3, none⟩ = some (.int .u32 (v3 : Nat)) := by rw [hAr.cell]; rfl
      have c4 : wr.cell? ⟨g8, 4, none⟩ = some (.int .u32 (v4 : Nat)) := by rw [hAr.cell]; rfl
      have c5 : wr.cell? ⟨g8, 5, none⟩ = some (.int .u32 (v5 : Nat)) := by rw [hAr.cell]; rfl
      have c6 : wr.cell? ⟨g8, 6, none⟩ = some (.int .u32 (v6 : Nat)) := by rw [hAr.cell]; rfl
      have c7 : wr.cell? ⟨g8, 7, none⟩ = some (.int .u32 (v7 : Nat)) := by rw [hAr.cell]; rfl
      have i0 : 0 ≤ (k : Int) := by omega
      have i1 : (k : Int) < 64 := by omega
      have Hnx := Lib.hid hnx
      have Hv := Lib.hid hv
      have He := Lib.hid he
      have Hsz := Lib.hid hsz
      have Hvl := Lib.hid hvl
      have HAr := Lib.hid hAr
      have hcs : Hid (∀ j u, (wordCells [v0, v1, v2, v3, v4, v5, v6])[j]? = some u → wr.cell? ⟨g8, j, none⟩ = some u) := by
        intro j u hj
        rw [hAr.cell]
        have hj7 : j < 7 := by have := (List.getElem?_eq_some_iff.1 hj).1; simpa [wordCells] using this
        match j, hj7 with
        | 0, _ => exact hj
        | 1, _ => exact hj
        | 2, _ => exact hj
        | 3, _ => exact hj
        | 4, _ => exact hj
        | 5, _ => exact hj
        | 6, _ => exact hj
      clear hnx hv he hsz hvl hAr
      obtain ⟨a1, a2, a3, a4, a5, a6, x1, x2, x3, h1, h2, h3, h4, h5, h6, ⟨h7, h7'⟩, ⟨h8, h8'⟩, ⟨h9, h9'⟩, ⟨h10, h10'⟩⟩ := x_steps (h := v7) (k := kk) (w := ww) b4 b5 b6
      obtain ⟨X, hX⟩ : ∃ X, xN v4 v5 v6 v7 kk ww = X := ⟨_, rfl⟩
      rw [hX] at h10 h10'
      have HX := Lib.hid hX
      clear hX
      go_wp2_with fail
      go_quiet (fail)
      go_wp2_with fail
      go_quiet ((go_at_call 89; exact calls_joined (rot_at _ _ (by assumption) (by decide) (by decide))))
      clear h1 h2 h3 h4 h5 h6 h7 h7' h8 h8' h9 h9' h10 h10'
      obtain ⟨d1, d2, d3, d4, d5, d6, d7, h1, h2, h3, h4, h5, h6, h7, ⟨h8, h8'⟩⟩ := y_steps b0 b1 b2
      obtain ⟨Y, hY⟩ : ∃ Y, yN v0 v1 v2 = Y := ⟨_, rfl⟩
      rw [hY] at h8 h8'
      have HY := Lib.hid hY
      clear hY
      go_wp2_with (go_at_call 89; refine Calls.mono (rot_at _ _ (by assumption) (by decide) (by decide) _) ?_; rintro e w' ⟨rfl, rfl⟩)
      clear h1 h2 h3 h4 h5 h6 h7 h8 h8' hKr hWr
      have HO7 := Lib.hid (wordCells_one [v0, v1, v2, v3, v4, v5, v6])
      go_region_held3 (fun w' => True) (trivial)
        (first
          | (refine step_copy_any (by rfl) _ _ _ _ (by rfl) 115 Try.underlying113 sizeWord _ _ _ _ _ _ (by rfl) (by rfl) g8 1 (wordCells [v0, v1, v2, v3, v4, v5, v6, v7]) 118 HAr.out (wordCells [v0, v1, v2, v3, v4, v5, v6]) (by rfl)
              (fun _ => ⟨rfl, ⟨g8, 0, none⟩, rfl, fun j u hj => by
                have hadd : (⟨g8, 0, none⟩ : Addr).add j = ⟨g8, j, none⟩ := by unfold Addr.add; split <;> simp_all
                rw [hadd]; exact hcs.out j u hj⟩) (by simp [wordCells]) HO7.out ?_
             intro w2 hw2D hw2))
      have hA2 : Arr w2 g8 118 (wordCells [v0, v0, v1, v2, v3, v4, v5, v6]) := hw2D.out
      have ho2 : Only (fun k => k = g8) W2 w2 := by
        have h1 : Only (fun k => k = g8) wr w2 := ⟨hw2.1.os, hw2.1.tape, hw2.1.output, hw2.1.size, fun i hi hn => hw2.1.block i hi (fun e => hn (by injection e))⟩
        exact hor.trans h1
      have hsz2 : w2.heap.size = W2.heap.size := hw2.2.trans Hsz.out
      obtain ⟨h11, h11'⟩ := SumIs.mk v3 X
      obtain ⟨h12, h12'⟩ := SumIs.mk X Y
      obtain ⟨D, hD⟩ : ∃ D, wadd v3 X = D := ⟨_, rfl⟩
      obtain ⟨T, hT⟩ : ∃ D, wadd X Y = D := ⟨_, rfl⟩
      rw [hD] at h11 h11'
      rw [hT] at h12 h12'
      have p4 : w2.cell? ⟨g8, 4, none⟩ = some (.int .u32 (v3 : Nat)) := by rw [hA2.cell]; rfl
      have q4 := hA2.frozen 4
      have hA3 : Arr (w2.setCell ⟨g8, 4, none⟩ (.int .u32 (D : Nat))) g8 118 (wordCells [v0, v0, v1, v2, D, v4, v5, v6]) := hA2.set 4 _
      have p0 : (w2.setCell ⟨g8, 4, none⟩ (.int .u32 (D : Nat))).cell? ⟨g8, 0, none⟩ = some (.int .u32 (v0 : Nat)) := by rw [hA3.cell]; rfl
      have q0 := hA3.frozen 0
      have hA4 : Arr ((w2.setCell ⟨g8, 4, none⟩ (.int .u32 (D : Nat))).setCell ⟨g8, 0, none⟩ (.int .u32 (T : Nat))) g8 118 (wordCells (roundsF h ks ws (k + 1))) := by
        rw [Hnx.out, HX.out, HY.out, hD, hT]
        exact hA3.set 0 _
      have ho4 := (ho2.setCell (p := ⟨g8, 4, none⟩) (.inl rfl) (.int .u32 (D : Nat))).setCell (p := ⟨g8, 0, none⟩) (.inl rfl) (.int .u32 (T : Nat))
      have HA4 := Lib.hid hA4
      have HO4 := Lib.hid ho4
      have Hsz2 := Lib.hid hsz2
      have HD := Lib.hid hD
      have HT := Lib.hid hT
      clear hA4 ho4 hsz2 hA3 hA2 ho2 hw2 hw2D hD hT c0 c1 c2 c3 c4 c5 c6 c7
      go_wp2
      go_roundw
      case rel => exact ⟨k + 1, by omega, by go_num, HA4.out, HO4.out, by simpa [World.setCell] using Hsz2.out⟩
      case measure => simp [intOf]; omega
    · obtain ⟨k0, rfl⟩ : ∃ k0, k0 = k := ⟨_, rfl⟩
      have hk64 : k0 = 64 := by omega
      rw [hk64] at hAr
      have hvl := roundsF_length ks ws 64 hh
      have hmix : mixF ks h l = addF h (roundsF h ks ws 64) := by unfold mixF; rw [Hwse.out]
      obtain ⟨v, hv⟩ : ∃ v, roundsF h ks ws 64 = v := ⟨_, rfl⟩
      rw [hv] at hAr hvl hmix
      have hS : Arr wr w.heap.size 118 (wordCells h) := hS2.only hor (show ¬ w.heap.size = g8 by omega)
      have hR : Arr wr (w.heap.size + 1) 118 (wordCells zeros8) := hR2.only hor (show ¬ w.heap.size + 1 = g8 by omega)
      have hBr : Below w.heap.size w wr := hbW2.trans (hor.below (by omega) (by rintro k rfl; omega))
      have hadl : (addF h v).length = v.length := by rw [addF_length, hvl]
      rw [← takeDrop_zero (addF h v) v] at hAr
      have Hmix := Lib.hid hmix
      have Hadl := Lib.hid hadl
      have Hvl := Lib.hid hvl
      obtain ⟨wo, rfl⟩ : ∃ wo : World, wo = wr := ⟨_, rfl⟩
      have Hszo := Lib.hid hsz
      clear hk64 hv hmix hadl hvl hV2 hWW2 hS2 hR2 hK2 hbW2 hor hsz
      have hd : decide ((k0 : Int) < 64) = false := by simp; omega
      go_wp2_with fail
      clear hd
      go_loopw [100] (fun i wr => ∃ k : Nat, k ≤ 8 ∧ i = .int .i64 k ∧ Arr wr g8 118 (wordCells (takeDrop (addF h v) v k)) ∧ Only (fun k => k = g8) wo wr ∧ wr.heap.size = wo.heap.size) (fun i _ => 8 - (intOf i).toNat)
      case atStart => exact ⟨0, by omega, rfl, hAr, Only.refl _ _, rfl⟩
      case round =>
        clear hAr
        obtain ⟨k, hk', rfl, hAr, hor, hsz⟩ := hrel
        by_cases hlt : k < 8
        · have hc1 : wr.cell? ⟨g8, k, none⟩ = some (.int .u32 (v.getD k 0 : Nat)) := by
            rw [hAr.cell, wordCells_get (by rw [takeDrop_length Hadl.out (by rw [addF_length]; omega), addF_length]; exact hlt), takeDrop_get Hadl.out (by rw [addF_length]; exact hlt)]
          have hf1 := hAr.frozen k
          have hc2 : wr.cell? ⟨w.heap.size, k, none⟩ = some (.int .u32 (h.getD k 0 : Nat)) := by
            rw [(hS.only hor (show ¬ w.heap.size = g8 by omega)).cell]; exact wordCells_get (by omega)
          have hset := takeDrop_set (a := addF h v) (b := v) (k := k) Hadl.out (by rw [addF_length]; exact hlt)
          rw [addF_get h v hlt] at hset
          obtain ⟨hs1, hs1'⟩ := SumIs.mk (v.getD k 0) (h.getD k 0)
          rw [show wadd (v.getD k 0) (h.getD k 0) = wadd (h.getD k 0) (v.getD k 0) from by unfold wadd; rw [Nat.add_comm]] at hs1 hs1'
          obtain ⟨x, hx⟩ : ∃ x, wadd (h.getD k 0) (v.getD k 0) = x := ⟨_, rfl⟩
          rw [hx] at hs1 hs1' hset
          obtain ⟨a, ha⟩ : ∃ x, v.getD k 0 = x := ⟨_, rfl⟩
          obtain ⟨b, hb⟩ : ∃ x, h.getD k 0 = x := ⟨_, rfl⟩
          rw [ha] at hc1 hs1 hs1'
          rw [hb] at hc2 hs1 hs1'
          have hA4 : Arr (wr.setCell ⟨g8, k, none⟩ (.int .u32 (x : Nat))) g8 118 (wordCells (takeDrop (addF h v) v (k + 1))) := by
            rw [← hset, ← wordCells_set]; exact hAr.set _ _
          have ho4 := hor.setCell (p := ⟨g8, k, none⟩) (.inl rfl) (.int .u32 (x : Nat))
          have HA4 := Lib.hid hA4
          have HO4 := Lib.hid ho4
          have Hsz2 := Lib.hid hsz
          have i0 : 0 ≤ (k : Int) := by omega
          have i1 : (k : Int) < 8 := by omega
          clear hA4 ho4 hsz ha hb hset hx hAr hor
          go_wp2_with fail
          refine wp_region_still_tail 7 (by kernel_rfl) (by kernel_rfl) ?_
          simp only [List.take_succ_cons, List.take_zero, List.drop_succ_cons, List.drop_zero]
          change wpStill _ _ wr.drew (fun a' => wpList _ _ _ _ a' wr.drew) _ _
          repeat still_step
          refine wpStill_nil ?_
          go_wp2_with fail
          go_roundw
          case rel => exact ⟨k + 1, by omega, by go_num, HA4.out, Only.step HO4.out ⟨rfl, rfl, rfl, Nat.le_refl _, fun _ _ => rfl⟩, by simpa [World.setCell] using Hsz2.out⟩
          case measure => simp [intOf]; omega
        · obtain ⟨k1, rfl⟩ : ∃ k0, k0 = k := ⟨_, rfl⟩
          rw [takeDrop_done Hadl.out (by rw [addF_length]; omega), ← Hmix.out] at hAr
          have hR' : Arr wr (w.heap.size + 1) 118 (wordCells zeros8) := hR.only hor (show ¬ w.heap.size + 1 = g8 by omega)
          obtain ⟨DV, hDV⟩ : ∃ DV, DV = (wordCells (mixF ks h l)).toArray := ⟨_, rfl⟩
          have hDs : DV.size = 8 := by rw [hDV]; simp [wordCells_length, mixF_length]
          have HDi := Lib.hid (show (Try.prog.info? 118).map (·.size) = some DV.size by rw [hDs]; exact sizeS)
          have HDb := Lib.hid hDV
          have HD1 := Lib.hid (show DV.all (·.oneCell') = true by rw [hDV]; simpa using wordCells_one (mixF ks h l))
          have hD2 : Hid (wr.heap[g8]? = some (.cells DV 118 (0, 0))) := by
            show _ = _
            rw [hDV]; exact hAr
          have hR2 : Hid (wr.heap[w.heap.size + 1]? = some (.cells (wordCells zeros8).toArray 118 (0, 0))) := hR'
          have Hzs := Lib.hid (show (wordCells zeros8).toArray.size = DV.size by rw [hDs]; simp [wordCells_length, zeros8])
          have hset : Hid ((wr.setRow (w.heap.size + 1) DV).heap[w.heap.size + 1]? = some (.cells DV 118 (0, 0))) := setRow_heap wr (w.heap.size + 1) _ DV _ _ hR2.out
          have hbel : Below w.heap.size w (wr.setRow (w.heap.size + 1) DV) :=
            hBr.trans ((hor.below (by have := hBr.size; omega) (by rintro k rfl; omega)).trans (((Only.refl (fun k => k = w.heap.size + 1) wr).setRow (.inl rfl) DV).below (by have := hBr.size; omega) (by rintro k rfl; omega)))
          have hd : decide ((k1 : Int) < 8) = false := by simp; omega
          clear hDV hDs hk' hAr hR hor hsz hR' hS
          go_wp2_with (first
            | (refine wpList_load_row rfl _ _ rfl g8 rfl 118 DV (0, 0) _ hD2.out Try.underlying118 rfl HDi.out ?_)
            | (refine wpList_store_row rfl _ _ _ rfl (w.heap.size + 1) DV rfl rfl 118 _ hR2.out HDi.out Hzs.out HD1.out ?_))
          exact bodyPost_ret (v := .agg DV) (results_cell_row (by rfl) _ _ (w.heap.size + 1) 118 DV (0, 0) _ (by rfl) hset.out Try.underlying118 rfl HDi.out) rfl ⟨by rw [HDb.out], hbel⟩

end Go.Proofs.Ytlfddijmanlneaa

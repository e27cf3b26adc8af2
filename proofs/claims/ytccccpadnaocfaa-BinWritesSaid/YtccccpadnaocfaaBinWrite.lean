/-
  bin's Write.
-/
import Derived.Test.YtccccpadnaocfaaBinRoot
import Derived.Test.YtccccpadnaocfaaBinStand
import Derived.Test.YtccccpadnaocfaaDiskWrite
import Derived.Test.YtccccpadnaocfaaDiskBad
namespace Go.Proofs.Ytccccpadnaocfaa
open Go.RowKit
set_option linter.unusedVariables false
set_option linter.unusedSimpArgs false

/-- A disk at blocks of which each is an elder one of F, or new. -/
def NAft (F : Nat → Prop) (w : World) (k n : Nat) (S L : List (List UInt8)) (W : List WrF) (w' : World) : Prop :=
  ∃ F', Disk w' F' k n S L W false 0 ∧ (∀ b, F' b → F b ∨ w.heap.size ≤ b) ∧ Only F w w'
theorem blk_splice {b : List UInt8} (h : b.length = 48) : splice (Lib.byteCells zero64) 0 (Lib.byteCells b) = Lib.byteCells (laidB b) := by
  unfold splice laidB zero64 Lib.byteCells
  rw [List.take_zero, List.nil_append, Nat.zero_add, List.length_map, List.map_append, ← List.map_drop, List.drop_replicate, h]
theorem byteSizeN : (Try.prog.info? 5).map (·.size) = some 1 := by kernel_rfl
theorem bs_cells {w : World} {B : Nat} {A : Option Addr} {l : List UInt8} (h : Bs w B A l) (hp : 0 < (Lib.byteCells l).length) : ∃ ad, A = some ad ∧ ∀ j v, (Lib.byteCells l)[j]? = some v → w.cell? (ad.add j) = some v := h.cells hp

set_option maxHeartbeats 16000000 in
set_option maxRecDepth 100000 in
theorem nwrite_yes (F : Nat → Prop) (k n a number : Nat) (S L : List (List UInt8)) (W : List WrF) (bs : List (List UInt8)) (DL : List Value) (b off m c : Nat) (w : World) (h : Disk w F k n S L W false 0)
    (hm : bs.length = m) (hm1 : 1 ≤ m) (hc : m ≤ c) (hcm : c ≤ 9223372036854775807) (h48 : ∀ s ∈ bs, s.length = 48) (hb : b < w.heap.size) (hr : ∀ i, i < m → w.rangeAt b (off + i * 48) (Lib.byteCells (bs.getD i []))) (hA : ¬ F b) (ha : a + m ≤ n) (hWN : W.length + m ≤ 100000) (hnum : number ≤ 9223372036854775807) (hDL : DL = binC (number : Nat) (a : Nat) (m : Nat) (rootF bs)) :
    Calls Try.prog 8 #[.pointer (some ⟨k, 0, none⟩), .int .i64 (number : Nat), .int .i64 (a : Nat), .slice (some ⟨b, off, none⟩) m c] w fun e w' => e = .returned (.tuple #[.agg DL.toArray, .int .i64 0]) ∧ NAft F w k n (putB S a bs m) L (W ++ putBW a bs m) w' := by
  have hn2 : n ≤ 65536 := by obtain ⟨gs, gl, bm, vw, base, nm, D, hD, _⟩ := h; exact hD.n2
  have hSn : S.length = n := by obtain ⟨gs, gl, bm, vw, base, nm, D, hD, _⟩ := h; exact hD.lS
  have hd0 : decide ((number : Int) < (0 : Int)) = false := by simp
  have hd1 : ((m : Int) == (0 : Int)) = false := by rw [beq_eq_false_iff_ne]; omega
  obtain ⟨W1, hW1⟩ : ∃ x, x = w.alloc (.cells binZ.toArray 31) := ⟨_, rfl⟩
  have hR1 : Arr W1 w.heap.size 31 binZ := by rw [hW1]; exact Arr.new w _ _
  have hb1 : Below w.heap.size w W1 := by rw [hW1]; exact (Below.refl _ w).alloc (Nat.le_refl _) _
  have HW1 := Lib.hid hW1
  clear hW1
  have hD1 : Disk W1 F k n S L W false 0 := h.below hb1
  have hFlt : ∀ b, F b → b < w.heap.size := h.Flt
  obtain ⟨gs, hseen⟩ := hD1.seenN
  have hk0 := hseen.c0
  have Hm := Lib.hid hm
  have HhS := Lib.hid hSn
  clear hm hseen hSn
  go_enter Try.func8, Try.ntmps8
  go_upto_region 1 with fail
  change Code.wp _ _ _ _ (w.alloc (.cells binZ.toArray 31))
  rw [← HW1.out]
  clear HW1
  go_wp2_with fail
  refine Calls.mono (nthere_is k gs n a m true W1 hk0 hn2 (by omega) (by simp; omega)) ?_
  rintro e wx ⟨rfl, rfl⟩
  go_wp2_with fail
  go_loopw [30] (fun v wr => ∃ i : Nat, i ≤ m ∧ v = .int .i64 i ∧ (∃ F', Disk wr F' k n (putB S a bs i) L (W ++ putBW a bs i) false 0 ∧ (∀ b, F' b → F b ∨ wx.heap.size ≤ b)) ∧ Only F wx wr) (fun v _ => m - (intOf v).toNat)
  case atStart => exact ⟨0, by omega, rfl, ⟨F, by simpa [putB, putBW] using hD1, fun b h => Or.inl h⟩, Only.refl _ _⟩
  case round =>
    clear hD1
    obtain ⟨i, hi, rfl, ⟨F', hD, hF'⟩, hO⟩ := hrel
    obtain ⟨w1, hwq⟩ : ∃ x, x = wr := ⟨_, rfl⟩
    subst hwq
    have hlw : b < wx.heap.size := Nat.lt_of_lt_of_le hb hb1.size
    by_cases hlt : i < m
    · have hd2 : decide ((i : Int) < (m : Int)) = true := by simp; exact hlt
      have hd3 : decide (i < m) = true := by simp; exact hlt
      obtain ⟨Y, hY⟩ : ∃ Y, Y = bs.getD i [] := ⟨_, rfl⟩
      have hYl : Y.length = 48 := by rw [hY]; exact h48 _ (by have := Hm.out; simp [List.getD, show i < bs.length by omega])
      have hrq : w1.rangeAt b (off + i * 48) (Lib.byteCells Y) := fun j v hj => by
        rw [hY] at hj
        rw [← hr i hlt j v hj]
        rw [World.cell?_of_block (w := wx) (hO.block b hlw hA)]
        exact hb1.cell (p := ⟨b, _, none⟩) hb
      obtain ⟨BL, hBL⟩ : ∃ BL, BL = Lib.byteCells Y := ⟨_, rfl⟩
      rw [← hBL] at hrq
      have hBl : BL.length = 48 := by rw [hBL, Lib.byteCells_length, hYl]
      have HBLi := Lib.hid (show (Try.prog.info? 40).map (·.size) = some BL.toArray.size by rw [List.size_toArray, hBl]; exact blkInfo)
      have HBLn := Lib.hid (show (Try.prog.info? 40).map (·.size) = some BL.length by rw [hBl]; exact blkInfo)
      have HBLs := Lib.hid (show (Lib.byteCells z48).toArray.size = BL.toArray.size by rw [List.size_toArray, List.size_toArray, hBl]; rfl)
      have HBL1 := Lib.hid (show BL.toArray.all (·.oneCell') = true by rw [hBL]; exact sec_one _)
      have HBL := Lib.hid hBL
      have HYe := Lib.hid hY
      clear hY hBL
      go_wp2_with (first
        | (refine wpList_load_mid rfl _ _ rfl b (off + i * 48) rfl BL _ hrq Try.underlying40 rfl HBLn.out ?_)
        | (change wpList _ _ _ _ _ (w1.alloc (.cells (Lib.byteCells z48).toArray 40)); refine wpList_store_row rfl _ _ _ rfl w1.heap.size BL.toArray rfl rfl 40 (Lib.byteCells z48).toArray (heap_alloc_new w1 _) HBLi.out HBLs.out HBL1.out ?_; obtain ⟨wa, hwa⟩ : ∃ x, x = (w1.alloc (.cells (Lib.byteCells z48).toArray 40)).setRow w1.heap.size BL.toArray := ⟨_, rfl⟩; rw [← hwa]; obtain ⟨hXa, hba⟩ := alloc_rowD w1 40 (Lib.byteCells z48).toArray BL; rw [← hwa] at hXa hba; clear hwa))
      obtain ⟨W2, hW2⟩ : ∃ W2, W2 = wa.alloc (.cells (Lib.byteCells zero64).toArray 37) := ⟨_, rfl⟩
      have hW2s : W2.heap.size = wa.heap.size + 1 := by rw [hW2]; simp
      have hZ2 : Hid (W2.drew.heap[wa.heap.size]? = some (.cells (Lib.byteCells zero64).toArray 37 (0, 0))) := by rw [hW2]; exact Arr.new wa _ _
      have hba2 : Below wa.heap.size wa W2 := by rw [hW2]; exact (Below.refl _ wa).alloc (Nat.le_refl _) _
      have hXl := hXa.lt
      have hX2 : Arr W2 w1.heap.size 40 (Lib.byteCells Y) := by rw [← HBL.out]; exact hXa.below hba2 hXl
      have hcs := Lib.hid ((hX2.bs.drewN 1).cells)
      have HN := Lib.hid (show (Lib.byteCells Y).length = Nat.min 48 64 by rw [Lib.byteCells_length, hYl]; rfl)
      have HF := Lib.hid (show 0 + (Lib.byteCells Y).length ≤ (Lib.byteCells zero64).length by rw [Lib.byteCells_length, Lib.byteCells_length, hYl, zero64_length]; omega)
      have H1 := Lib.hid (byteCells_one Y)
      have HW2 := Lib.hid hW2
      clear hW2
      change Code.wp _ _ _ _ (wa.alloc (.cells (Lib.byteCells zero64).toArray 37))
      rw [← HW2.out]
      go_region_held3 (fun w' => True) (trivial)
        (first
          | (refine step_copy_any (by rfl) _ _ _ _ (by rfl) 5 Try.underlying49 byteSizeN _ _ _ _ _ _ (by rfl) (by rfl) wa.heap.size 0 (Lib.byteCells zero64) 37 hZ2.out (Lib.byteCells Y) HN.out (fun hp => ⟨rfl, hcs.out hp⟩) HF.out H1.out ?_
             intro w2 hw2D hw2))
      obtain ⟨SL, hSL⟩ : ∃ SL, SL = Lib.byteCells (laidB Y) := ⟨_, rfl⟩
      have hl64 := laidB_length hYl
      have hSLl : SL.length = 64 := by rw [hSL, Lib.byteCells_length]; exact hl64
      have hD2 : Hid (w2.heap[wa.heap.size]? = some (.cells SL.toArray 37 (0, 0))) := by
        show _ = _
        rw [hSL, ← blk_splice hYl]
        exact hw2D.out
      have HSi := Lib.hid (show (Try.prog.info? 37).map (·.size) = some SL.toArray.size by rw [List.size_toArray, hSLl]; exact secInfo)
      have hbwa : Below wa.heap.size wa w2 := by
        have hbd : Below wa.heap.size wa W2.drew := ⟨hba2.os, hba2.tape, hba2.output, hba2.size, hba2.block⟩
        exact hbd.trans ⟨hw2.1.os, hw2.1.tape, hw2.1.output, hw2.1.size, fun j hj => hw2.1.block j (by have := hbd.size; omega) (fun e => by injection e with e; omega)⟩
      have hbw : Below w1.heap.size w1 w2 := hba.trans (hbwa.mono hba.size)
      have hDk := hD.below hbw
      obtain ⟨q, hqq⟩ : ∃ q, a + i = q := ⟨_, rfl⟩
      have hqI : (a : Int) + (i : Int) = (q : Int) := by omega
      have hqB : q ≤ 65536 := by omega
      have Hq := Lib.hid hqq
      have HSL := Lib.hid hSL
      clear hSL hqq
      go_wp2_with (first
        | (refine wpList_load_row rfl _ _ rfl wa.heap.size rfl 37 SL.toArray (0, 0) _ hD2.out Try.underlying37 rfl HSi.out ?_))
      go_at_call 29
      refine Calls.mono (write_live F' k n q (putB S a bs i) L (W ++ putBW a bs i) false 0 (laidB Y) SL w2 hDk rfl (by have := Hq.out; omega) hl64 HSL.out (by rw [List.length_append, putBW_length]; omega)) ?_
      rintro e w3 ⟨rfl, hD3, hO3⟩
      go_wp2_with fail
      case roundEnd =>
        refine ⟨⟨i + 1, by omega, by simp, ⟨newF F' w2 w3, ?_, ?_⟩, ?_⟩, by simp [intOf]; omega⟩
        · rw [putB, putBW_succ, ← List.append_assoc, Hq.out, ← HYe.out]
          exact hD3
        · rintro b (hb' | hb')
          · exact hF' b hb'
          · exact Or.inr (Nat.le_trans (Nat.le_trans hO.size hbw.size) hb'.1)
        · exact (hO.step hbw).then hO3 (fun j hj => hF' j hj)
    · obtain rfl : i = m := by omega
      have hd2 : decide ((i : Int) < (i : Int)) = false := by simp
      have hd3 : decide (i < i) = false := by simp
      have hR8 : Arr w1 w.heap.size 31 binZ := hR1.only hO (fun hF => Nat.lt_irrefl _ (hFlt _ hF))
      have hrq : ∀ j, j < i → w1.rangeAt b (off + j * 48) (Lib.byteCells (bs.getD j [])) := fun j hj u v hv => by
        rw [← hr j hj u v hv]
        rw [World.cell?_of_block (w := wx) (hO.block b hlw hA)]
        exact hb1.cell (p := ⟨b, _, none⟩) hb
      have hdl : DL.length = 35 := by rw [hDL]; exact binC_length _ _ _ (rootF_length bs)
      have HI := Lib.hid (show (Try.prog.info? 31).map (·.size) = some DL.toArray.size by rw [List.size_toArray, hdl]; exact binSize)
      have HS := Lib.hid (show binZ.toArray.size = DL.toArray.size by rw [List.size_toArray, List.size_toArray, hdl]; rfl)
      have H1 := Lib.hid (show DL.toArray.all (·.oneCell') = true by rw [hDL]; exact all_oneCell_toArray (binC_cell _ _ _ _))
      obtain ⟨RL, hRL⟩ : ∃ RL, RL = Lib.byteCells (rootF bs) := ⟨_, rfl⟩
      have HB := Lib.hid (show Try.prog.built 31 [(0, .int .i64 (number : Nat)), (1, .int .i64 (a : Nat)), (2, .int .i64 (i : Nat)), (3, .agg RL.toArray)] = some DL.toArray by rw [hDL]; exact bin_built number a i (rootF bs) RL hRL (rootF_length bs))
      have HRL := Lib.hid hRL
      clear hDL hRL
      go_wp2_with fail
      go_at_call 30
      refine Calls.mono (nroot_at bs i c b off RL w1 Hm.out (by omega) hc hcm h48 (Nat.lt_of_lt_of_le hlw hO.size) hrq HRL.out) ?_
      rintro e w9 ⟨rfl, hb9⟩
      have hR9 := hR8.below hb9 hR8.lt
      have H0 : Hid (w9.heap[w.heap.size]? = some (.cells binZ.toArray 31 (0, 0))) := Lib.hid hR9
      go_wp2_with (first
        | (refine wpList_builtD rfl _ _ rfl _ rfl DL.toArray HB.out ?_)
        | (refine wpList_store_row rfl _ _ _ rfl w.heap.size DL.toArray rfl rfl 31 binZ.toArray H0.out HI.out HS.out H1.out ?_))
      have hset := hR9.setRow DL
      have hO9 : Only (fun j => j = w.heap.size) w9 (w9.setRow w.heap.size DL.toArray) := (Only.refl (fun j => j = w.heap.size) w9).setRow (.inl rfl) DL.toArray
      (try simp only [Exit.inBlock, Exit.then])
      obtain ⟨V, hV⟩ : ∃ V, V = Value.tuple #[.agg DL.toArray, .int .i64 0] := ⟨_, rfl⟩
      refine bodyPost_ret (v := V) ?hx1 ?h2 ?h3
      case hx1 => rw [hV]; exact results_cell2 (fn := Try.f8) (by rfl) _ _ w.heap.size 31 DL.toArray (0, 0) _ (by rfl) _ (by rfl) hset Try.underlying31 rfl HI.out
      case h2 => rfl
      case h3 =>
        refine ⟨by rw [hV], F', ?_, ?_, ?_⟩
        · refine hD.kept (Nat.le_trans hb9.size hO9.size) fun b hb' => ?_
          have hlt : b < w1.heap.size := hD.Flt b hb'
          have hne : ¬ b = w.heap.size := by
            rcases hF' b hb' with h1 | h1
            · exact Nat.ne_of_lt (hFlt b h1)
            · have := hR1.lt; omega
          rw [hO9.block b (by have := hb9.size; omega) hne]
          exact hb9.block b hlt
        · intro b hb'
          rcases hF' b hb' with h1 | h1
          · exact .inl h1
          · exact .inr (Nat.le_trans hb1.size h1)
        · exact (((Only.of_below hb1).trans (hO.trans (Only.of_below hb9))).then hO9 (fun j hj => .inr (by omega)))


end Go.Proofs.Ytccccpadnaocfaa

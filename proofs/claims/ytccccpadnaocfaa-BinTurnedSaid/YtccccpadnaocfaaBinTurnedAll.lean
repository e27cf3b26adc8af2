/-
  The document's comparison of rows of blocks.
-/
import Derived.Test.YtccccpadnaocfaaBinStand
import Derived.Test.YtccccpadnaocfaaBinRead
import Derived.Test.YtccccpadnaocfaaBinRoot
import Derived.Test.YtccccpadnaocfaaDiskWrite
import Derived.Test.YtccccpadnaocfaaDiskBad
import Derived.Test.YtccccpadnaocfaaDiskTurn
import Derived.Test.YtccccpadnaocfaaDiskNew
import Derived.Test.YtccccpadnaocfaaBinFinger
import Derived.Test.YtccccpadnaocfaaRTagged
import Derived.Test.YtccccpadnaocfaaTagged
import Derived.Maps.AppendAt
import Derived.Test.YtccccpadnaocfaaRRoot
import Derived.Test.YtccccpadnaocfaaBinMath
import Derived.Deep.Slices
import Derived.Deep.Fields
namespace Go.Proofs.Ytccccpadnaocfaa
open Go.RowKit
set_option linter.unusedVariables false
set_option linter.unusedSimpArgs false

theorem bin_fields : (Try.prog.fieldsOf 31).toList.map (fun f => (f.name == "_", f.type, f.offset)) = [(false, 3, 0), (false, 3, 1), (false, 3, 2), (false, 29, 3)] := by kernel_rfl
theorem bin_held : Try.prog.stoodInHeld 31 = false := by kernel_rfl
theorem bin_under : Try.prog.underlying 31 = some (.struct (Try.prog.fieldsOf 31)) := by kernel_rfl
theorem gtNN : Try.prog.eqGuardType Try.prog.depth 31 = false := by kernel_rfl
theorem bin_dig_part {d : List UInt8} (hd : d.length = 32) (x a n : Int) (w : World) : (part 29 (binC x a n d).toArray 3).run Try.prog w = .ok (.agg (Lib.byteCells d).toArray) w := by
  have hs : (Try.prog.info? 29).map (·.size) = some 32 := digInfo
  have hu := Try.underlying29
  have hl : (Lib.byteCells d).length = 32 := by rw [Lib.byteCells_length, hd]
  cases hq : Try.prog.info? 29 with
  | none => simp [hq] at hs
  | some i0 =>
    have h1 : i0.size = 32 := by simpa [hq] using hs
    have e : List.take 32 ((binC x a n d).drop 3) = Lib.byteCells d := by
      show List.take 32 (Lib.byteCells d) = _
      rw [List.take_of_length_le (Nat.le_of_eq hl)]
    simp [part, isAgg, run_underlying hu, sizeOf, typeInfo, hq, h1, e]
theorem bin_int_part (d : List UInt8) (x a n : Int) (w : World) : (part 3 (binC x a n d).toArray 0).run Try.prog w = .ok (.int .i64 x) w ∧ (part 3 (binC x a n d).toArray 1).run Try.prog w = .ok (.int .i64 a) w ∧ (part 3 (binC x a n d).toArray 2).run Try.prog w = .ok (.int .i64 n) w := by
  have hu := Try.underlying3
  have h := binC_at x a n d
  refine ⟨?_, ?_, ?_⟩ <;> simp [part, isAgg, run_underlying hu, h.1, h.2.1, h.2.2]
theorem bin_list : ∃ f g h k : Field, (Try.prog.fieldsOf 31).toList = [f, g, h, k] ∧ (f.name ≠ "_" ∧ f.type = 3 ∧ f.offset = 0) ∧ (g.name ≠ "_" ∧ g.type = 3 ∧ g.offset = 1) ∧ (h.name ≠ "_" ∧ h.type = 3 ∧ h.offset = 2) ∧ (k.name ≠ "_" ∧ k.type = 29 ∧ k.offset = 3) := by
  have h := bin_fields
  revert h
  generalize (Try.prog.fieldsOf 31).toList = l
  intro h
  cases l with
  | nil => simp at h
  | cons f l => cases l with
    | nil => simp at h
    | cons g l => cases l with
      | nil => simp at h
      | cons k l => cases l with
        | nil => simp at h
        | cons u l => cases l with
          | cons _ _ => simp at h
          | nil =>
            simp only [List.map_cons, List.map_nil, List.cons.injEq, Prod.mk.injEq, beq_eq_false_iff_ne, and_true] at h
            exact ⟨f, g, k, u, rfl, h.1, h.2.1, h.2.2.1, h.2.2.2⟩
theorem eqFieldsN_yes {P : Program} {d : Nat} {xs ys : Array Value} {f : Field} {fs : List Field} {w : World} {a b : Value} (hn : f.name ≠ "_") (ha : (part f.type xs f.offset).run P w = .ok a w) (hb : (part f.type ys f.offset).run P w = .ok b w) (he : (Op.equalIn d f.type a b).run P w = .ok true w) :
    (Op.eqFields d xs ys (f :: fs)).run P w = (Op.eqFields d xs ys fs).run P w := by
  rw [Op.eqFields, if_pos hn]
  simp only [Sem.run_bind, ha, hb, he, Result.andThen_ok, Bool.not_true, Bool.false_eq_true, if_false]
theorem eqFieldsN_nil {P : Program} {d : Nat} {xs ys : Array Value} {w : World} : (Op.eqFields d xs ys []).run P w = .ok true w := by
  rw [Op.eqFields, Sem.run_pure]
set_option maxRecDepth 100000 in
theorem dig_eqvN_at (e : Nat) (X : List UInt8) (hX : X.length = 32) (w : World) :
    (Op.equalIn (e + 1 + 1) 29 (.agg (Lib.byteCells X).toArray) (.agg (Lib.byteCells X).toArray)).run Try.prog w = .ok true w := by
  have hi : Try.prog.info? 5 = some ((Try.prog.info? 5).get (by kernel_rfl)) := (Option.some_get _).symm
  have h1 := run_equalIn_array (P := Try.prog) (w := w) (e + 1) (Lib.byteCells X).toArray (Lib.byteCells X).toArray Try.underlying29 hi
  have hc : Try.prog.cellsOf 5 = 1 := by kernel_rfl
  rw [hc, eqItems_bytes e X X w (List.range 32) (fun i hi => by have := List.mem_range.1 hi; omega), all_getD hX hX] at h1
  rw [h1]
  simp
theorem bin_refl (d : List UInt8) (hd : d.length = 32) (x a n : Int) (XL : List Value) (hXL : XL = binC x a n d) (w : World) : (Op.equalIn 10000 31 (.agg XL.toArray) (.agg XL.toArray)).run Try.prog w = .ok true w := by
  subst hXL
  obtain ⟨f, g, h, k, hl, ⟨f1, f2, f3⟩, ⟨g1, g2, g3⟩, ⟨h1, h2, h3⟩, ⟨k1, k2, k3⟩⟩ := bin_list
  show (Op.equalIn (9997 + 1 + 1 + 1) _ _ _).run _ _ = _
  rw [run_equalIn_struct w (9997 + 1 + 1) 31 _ _ bin_under bin_held, hl]
  obtain ⟨p1, p2, p3⟩ := bin_int_part d x a n w
  have p4 := bin_dig_part hd x a n w
  have q0 : ∀ z : Int, (Op.equalIn (9997 + 1 + 1) 3 (.int .i64 z) (.int .i64 z)).run Try.prog w = .ok true w := fun z => by
    rw [run_equalIn_int w (9997 + 1) 3 .i64 .i64 z z Try.underlying3]; simp
  have q4 := dig_eqvN_at 9997 d hd w
  rw [eqFieldsN_yes f1 (by rw [f2, f3]; exact p1) (by rw [f2, f3]; exact p1) (by rw [f2]; exact q0 x)]
  rw [eqFieldsN_yes g1 (by rw [g2, g3]; exact p2) (by rw [g2, g3]; exact p2) (by rw [g2]; exact q0 a)]
  rw [eqFieldsN_yes h1 (by rw [h2, h3]; exact p3) (by rw [h2, h3]; exact p3) (by rw [h2]; exact q0 n)]
  rw [eqFieldsN_yes k1 (by rw [k2, k3]; exact p4) (by rw [k2, k3]; exact p4) (by rw [k2]; exact q4), eqFieldsN_nil]

set_option maxHeartbeats 8000000 in
set_option maxRecDepth 100000 in
theorem nwrite_arg (p : Value) (a number : Int) (m c : Nat) (X : Option Addr) (DL : List Value) (w : World) (h : number < 0 ∨ m = 0) (hDL : DL = binZ) :
    Calls Try.prog 8 #[p, .int .i64 number, .int .i64 a, .slice X m c] w fun e w' => e = .returned (.tuple #[.agg DL.toArray, .int .i64 1]) ∧ Below w.heap.size w w' := by
  have hd : decide (number < (0 : Int)) = true ∨ (decide (number < (0 : Int)) = false ∧ ((m : Int) == (0 : Int)) = true) := by
    rw [decide_eq_true_eq, decide_eq_false_iff_not, beq_iff_eq]; omega
  obtain ⟨W1, hW1⟩ : ∃ x, x = w.alloc (.cells binZ.toArray 31) := ⟨_, rfl⟩
  have hR1 : Arr W1 w.heap.size 31 binZ := by rw [hW1]; exact Arr.new w _ _
  have hb1 : Below w.heap.size w W1 := by rw [hW1]; exact (Below.refl _ w).alloc (Nat.le_refl _) _
  have hDl : DL.length = 35 := by rw [hDL]; rfl
  have HDLi := Lib.hid (show (Try.prog.info? 31).map (·.size) = some DL.toArray.size by rw [List.size_toArray, hDl]; exact binSize)
  have HDLn := Lib.hid (show (Try.prog.info? 31).map (·.size) = some DL.length by rw [hDl]; exact binSize)
  have HDLs := Lib.hid (show binZ.toArray.size = DL.toArray.size by rw [List.size_toArray, List.size_toArray, hDl]; rfl)
  have HDL1 := Lib.hid (show DL.toArray.all (·.oneCell') = true by rw [hDL]; exact all_oneCell_toArray (binC_cell _ _ _ _))
  have HDb := Lib.hid (show Try.prog.built 31 [] = some DL.toArray by rw [hDL]; exact bin_built0)
  have H0 := Lib.hid hR1
  have HW1 := Lib.hid hW1
  clear hW1 h hDL hR1
  rcases hd with h1 | ⟨h1, h2⟩
  all_goals
    go_enter Try.func8, Try.ntmps8
    go_upto_region 1 with fail
    change Code.wp _ _ _ _ (w.alloc (.cells binZ.toArray 31))
    rw [← HW1.out]
    clear HW1
    go_wp2_with (first
      | (refine wpList_builtD rfl _ _ rfl [] rfl DL.toArray HDb.out ?_)
      | (refine wpList_store_row rfl _ _ _ rfl w.heap.size DL.toArray rfl rfl 31 binZ.toArray H0.out HDLi.out HDLs.out HDL1.out ?_))
    have hset := Arr.setRow H0.out DL
    have hfin : Below w.heap.size w (W1.setRow w.heap.size DL.toArray) := hb1.trans (((Only.refl (fun k => k = w.heap.size) W1).setRow (.inl rfl) DL.toArray).below hb1.size (by rintro k rfl; exact Nat.le_refl _))
    obtain ⟨V, hV⟩ : ∃ V, V = Value.tuple #[.agg DL.toArray, .int .i64 1] := ⟨_, rfl⟩
    refine bodyPost_ret (v := V) ?_ rfl ⟨by rw [hV], hfin⟩
    rw [hV]
    exact results_cell2 (fn := Try.f8) (by rfl) _ _ w.heap.size 31 DL.toArray (0, 0) _ (by rfl) _ (by rfl) hset Try.underlying31 rfl HDLi.out

set_option maxHeartbeats 8000000 in
set_option maxRecDepth 100000 in
theorem nwrite_range (k gs n : Nat) (a number : Int) (m c : Nat) (X : Option Addr) (DL : List Value) (w : World) (hc0 : w.cell? ⟨k, 0, none⟩ = some (.slice (some ⟨gs, 0, none⟩) n n)) (hkl : k < w.heap.size) (hn : n ≤ 65536) (h0 : 0 ≤ number) (hm : 1 ≤ m) (ha : a ≤ 9223372036854775807) (h : a < 0 ∨ (n : Int) - a < m) (hDL : DL = binZ) :
    Calls Try.prog 8 #[.pointer (some ⟨k, 0, none⟩), .int .i64 number, .int .i64 a, .slice X m c] w fun e w' => e = .returned (.tuple #[.agg DL.toArray, .int .i64 2]) ∧ Below w.heap.size w w' := by
  have hd0 : decide (number < (0 : Int)) = false := by simp; exact h0
  have hd1 : ((m : Int) == (0 : Int)) = false := by rw [beq_eq_false_iff_ne]; omega
  have hd2 : decide (0 ≤ a ∧ (m : Int) ≤ n - a) = false := by simp; omega
  obtain ⟨W1, hW1⟩ : ∃ x, x = w.alloc (.cells binZ.toArray 31) := ⟨_, rfl⟩
  have hR1 : Arr W1 w.heap.size 31 binZ := by rw [hW1]; exact Arr.new w _ _
  have hb1 : Below w.heap.size w W1 := by rw [hW1]; exact (Below.refl _ w).alloc (Nat.le_refl _) _
  have hc1 := (hb1.cell (p := ⟨k, 0, none⟩) hkl).trans hc0
  have hDl : DL.length = 35 := by rw [hDL]; rfl
  have HDLi := Lib.hid (show (Try.prog.info? 31).map (·.size) = some DL.toArray.size by rw [List.size_toArray, hDl]; exact binSize)
  have HDLn := Lib.hid (show (Try.prog.info? 31).map (·.size) = some DL.length by rw [hDl]; exact binSize)
  have HDLs := Lib.hid (show binZ.toArray.size = DL.toArray.size by rw [List.size_toArray, List.size_toArray, hDl]; rfl)
  have HDL1 := Lib.hid (show DL.toArray.all (·.oneCell') = true by rw [hDL]; exact all_oneCell_toArray (binC_cell _ _ _ _))
  have HDb := Lib.hid (show Try.prog.built 31 [] = some DL.toArray by rw [hDL]; exact bin_built0)
  have H0 := Lib.hid hR1
  have HW1 := Lib.hid hW1
  clear hW1 h hDL hR1
  go_enter Try.func8, Try.ntmps8
  go_upto_region 1 with fail
  change Code.wp _ _ _ _ (w.alloc (.cells binZ.toArray 31))
  rw [← HW1.out]
  clear HW1
  go_wp2_with fail
  refine Calls.mono (nthere_is k gs n a m false W1 hc1 hn ha hd2) ?_
  rintro e w2 ⟨rfl, rfl⟩
  go_wp2_with (first
    | (refine wpList_builtD rfl _ _ rfl [] rfl DL.toArray HDb.out ?_)
    | (refine wpList_store_row rfl _ _ _ rfl w.heap.size DL.toArray rfl rfl 31 binZ.toArray H0.out HDLi.out HDLs.out HDL1.out ?_))
  have hset := Arr.setRow H0.out DL
  have hfin : Below w.heap.size w (w2.setRow w.heap.size DL.toArray) := hb1.trans (((Only.refl (fun k => k = w.heap.size) w2).setRow (.inl rfl) DL.toArray).below hb1.size (by rintro k rfl; exact Nat.le_refl _))
  obtain ⟨V, hV⟩ : ∃ V, V = Value.tuple #[.agg DL.toArray, .int .i64 2] := ⟨_, rfl⟩
  refine bodyPost_ret (v := V) ?_ rfl ⟨by rw [hV], hfin⟩
  rw [hV]
  exact results_cell2 (fn := Try.f8) (by rfl) _ _ w.heap.size 31 DL.toArray (0, 0) _ (by rfl) _ (by rfl) hset Try.underlying31 rfl HDLi.out


end Go.Proofs.Ytccccpadnaocfaa

namespace Go.Proofs.Ytccccpadnaocfaa
open Go.RowKit
set_option linter.unusedVariables false
set_option linter.unusedSimpArgs false

/-- A disk at blocks of which each is an elder one of F, or new. -/
def NAft (F : Nat → Prop) (w : World) (k n : Nat) (S L : List (List UInt8)) (W : List WrF) (w' : World) : Prop :=
  ∃ F', Disk w' F' k n S L W false 0 ∧ (∀ b, F' b → F b ∨ w.heap.size ≤ b) ∧ Only F w w'
theorem blk_splice {b : List UInt8} (h : b.length = 48) : splice (Lib.byteCells zero64) 0 (Lib.byteCells b) = Lib.byteCells (laidB b) := by
  unfold splice laidB zero64 Lib.byteCells
  rw [List.take_zero, List.nil_append, Nat.zero_add, List.length_map, List.map_append, ← List.map_drop, List.drop_replicate, h]
theorem byteSizeN : (Try.prog.info? 5).map (·.size) = some 1 := by kernel_rfl
theorem bs_cells {w : World} {B : Nat} {A : Option Addr} {l : List UInt8} (h : Bs w B A l) (hp : 0 < (Lib.byteCells l).length) : ∃ ad, A = some ad ∧ ∀ j v, (Lib.byteCells l)[j]? = some v → w.cell? (ad.add j) = some v := h.cells hp

set_option maxHeartbeats 16000000 in
set_option maxRecDepth 100000 in
theorem nwrite_yes (F : Nat → Prop) (k n a number : Nat) (S L : List (List UInt8)) (W : List WrF) (bs : List (List UInt8)) (DL : List Value) (b off m c : Nat) (w : World) (h : Disk w F k n S L W false 0)
    (hm : bs.length = m) (hm1 : 1 ≤ m) (hc : m ≤ c) (hcm : c ≤ 9223372036854775807) (h48 : ∀ s ∈ bs, s.length = 48) (hb : b < w.heap.size) (hr : ∀ i, i < m → w.rangeAt b (off + i * 48) (Lib.byteCells (bs.getD i []))) (hA : ¬ F b) (ha : a + m ≤ n) (hWN : W.length + m ≤ 100000) (hnum : number ≤ 9223372036854775807) (hDL : DL = binC (number : Nat) (a : Nat) (m : Nat) (rootF bs)) :
    Calls Try.prog 8 #[.pointer (some ⟨k, 0, none⟩), .int .i64 (number : Nat), .int .i64 (a : Nat), .slice (some ⟨b, off, none⟩) m c] w fun e w' => e = .returned (.tuple #[.agg DL.toArray, .int .i64 0]) ∧ NAft F w k n (putB S a bs m) L (W ++ putBW a bs m) w' := by
  have hn2 : n ≤ 65536 := by obtain ⟨gs, gl, bm, vw, base, nm, D, hD, _⟩ := h; exact hD.n2
  have hSn : S.length = n := by obtain ⟨gs, gl, bm, vw, base, nm, D, hD, _⟩ := h; exact hD.lS
  have hd0 : decide ((number : Int) < (0 : Int)) = false := by simp
  have hd1 : ((m : Int) == (0 : Int)) = false := by rw [beq_eq_false_iff_ne]; omega
  obtain ⟨W1, hW1⟩ : ∃ x, x = w.alloc (.cells binZ.toArray 31) := ⟨_, rfl⟩
  have hR1 : Arr W1 w.heap.size 31 binZ := by rw [hW1]; exact Arr.new w _ _
  have hb1 : Below w.heap.size w W1 := by rw [hW1]; exact (Below.refl _ w).alloc (Nat.le_refl _) _
  have HW1 := Lib.hid hW1
  clear hW1
  have hD1 : Disk W1 F k n S L W false 0 := h.below hb1
  have hFlt : ∀ b, F b → b < w.heap.size := h.Flt
  obtain ⟨gs, hseen⟩ := hD1.seenN
  have hk0 := hseen.c0
  have Hm := Lib.hid hm
  have HhS := Lib.hid hSn
  clear hm hseen hSn
  go_enter Try.func8, Try.ntmps8
  go_upto_region 1 with fail
  change Code.wp _ _ _ _ (w.alloc (.cells binZ.toArray 31))
  rw [← HW1.out]
  clear HW1
  go_wp2_with fail
  refine Calls.mono (nthere_is k gs n a m true W1 hk0 hn2 (by omega) (by simp; omega)) ?_
  rintro e wx ⟨rfl, rfl⟩
  go_wp2_with fail
  go_loopw [30] (fun v wr => ∃ i : Nat, i ≤ m ∧ v = .int .i64 i ∧ (∃ F', Disk wr F' k n (putB S a bs i) L (W ++ putBW a bs i) false 0 ∧ (∀ b, F' b → F b ∨ wx.heap.size ≤ b)) ∧ Only F wx wr) (fun v _ => m - (intOf v).toNat)
  case atStart => exact ⟨0, by omega, rfl, ⟨F, by simpa [putB, putBW] using hD1, fun b h => Or.inl h⟩, Only.refl _ _⟩
  case round =>
    clear hD1
    obtain ⟨i, hi, rfl, ⟨F', hD, hF'⟩, hO⟩ := hrel
    obtain ⟨w1, hwq⟩ : ∃ x, x = wr := ⟨_, rfl⟩
    subst hwq
    have hlw : b < wx.heap.size := Nat.lt_of_lt_of_le hb hb1.size
    by_cases hlt : i < m
    · have hd2 : decide ((i : Int) < (m : Int)) = true := by simp; exact hlt
      have hd3 : decide (i < m) = true := by simp; exact hlt
      obtain ⟨Y, hY⟩ : ∃ Y, Y = bs.getD i [] := ⟨_, rfl⟩
      have hYl : Y.length = 48 := by rw [hY]; exact h48 _ (by have := Hm.out; simp [List.getD, show i < bs.length by omega])
      have hrq : w1.rangeAt b (off + i * 48) (Lib.byteCells Y) := fun j v hj => by
        rw [hY] at hj
        rw [← hr i hlt j v hj]
        rw [World.cell?_of_block (w := wx) (hO.block b hlw hA)]
        exact hb1.cell (p := ⟨b, _, none⟩) hb
      obtain ⟨BL, hBL⟩ : ∃ BL, BL = Lib.byteCells Y := ⟨_, rfl⟩
      rw [← hBL] at hrq
      have hBl : BL.length = 48 := by rw [hBL, Lib.byteCells_length, hYl]
      have HBLi := Lib.hid (show (Try.prog.info? 40).map (·.size) = some BL.toArray.size by rw [List.size_toArray, hBl]; exact blkInfo)
      have HBLn := Lib.hid (show (Try.prog.info? 40).map (·.size) = some BL.length by rw [hBl]; exact blkInfo)
      have HBLs := Lib.hid (show (Lib.byteCells z48).toArray.size = BL.toArray.size by rw [List.size_toArray, List.size_toArray, hBl]; rfl)
      have HBL1 := Lib.hid (show BL.toArray.all (·.oneCell') = true by rw [hBL]; exact sec_one _)
      have HBL := Lib.hid hBL
      have HYe := Lib.hid hY
      clear hY hBL
      go_wp2_with (first
        | (refine wpList_load_mid rfl _ _ rfl b (off + i * 48) rfl BL _ hrq Try.underlying40 rfl HBLn.out ?_)
        | (change wpList _ _ _ _ _ (w1.alloc (.cells (Lib.byteCells z48).toArray 40)); refine wpList_store_row rfl _ _ _ rfl w1.heap.size BL.toArray rfl rfl 40 (Lib.byteCells z48).toArray (heap_alloc_new w1 _) HBLi.out HBLs.out HBL1.out ?_; obtain ⟨wa, hwa⟩ : ∃ x, x = (w1.alloc (.cells (Lib.byteCells z48).toArray 40)).setRow w1.heap.size BL.toArray := ⟨_, rfl⟩; rw [← hwa]; obtain ⟨hXa, hba⟩ := alloc_rowD w1 40 (Lib.byteCells z48).toArray BL; rw [← hwa] at hXa hba; clear hwa))
      obtain ⟨W2, hW2⟩ : ∃ W2, W2 = wa.alloc (.cells (Lib.byteCells zero64).toArray 37) := ⟨_, rfl⟩
      have hW2s : W2.heap.size = wa.heap.size + 1 := by rw [hW2]; simp
      have hZ2 : Hid (W2.drew.heap[wa.heap.size]? = some (.cells (Lib.byteCells zero64).toArray 37 (0, 0))) := by rw [hW2]; exact Arr.new wa _ _
      have hba2 : Below wa.heap.size wa W2 := by rw [hW2]; exact (Below.refl _ wa).alloc (Nat.le_refl _) _
      have hXl := hXa.lt
      have hX2 : Arr W2 w1.heap.size 40 (Lib.byteCells Y) := by rw [← HBL.out]; exact hXa.below hba2 hXl
      have hcs := Lib.hid ((hX2.bs.drewN 1).cells)
      have HN := Lib.hid (show (Lib.byteCells Y).length = Nat.min 48 64 by rw [Lib.byteCells_length, hYl]; rfl)
      have HF := Lib.hid (show 0 + (Lib.byteCells Y).length ≤ (Lib.byteCells zero64).length by rw [Lib.byteCells_length, Lib.byteCells_length, hYl, zero64_length]; omega)
      have H1 := Lib.hid (byteCells_one Y)
      have HW2 := Lib.hid hW2
      clear hW2
      change Code.wp _ _ _ _ (wa.alloc (.cells (Lib.byteCells zero64).toArray 37))
      rw [← HW2.out]
      go_region_held3 (fun w' => True) (trivial)
        (first
          | (refine step_copy_any (by rfl) _ _ _ _ (by rfl) 5 Try.underlying49 byteSizeN _ _ _ _ _ _ (by rfl) (by rfl) wa.heap.size 0 (Lib.byteCells zero64) 37 hZ2.out (Lib.byteCells Y) HN.out (fun hp => ⟨rfl, hcs.out hp⟩) HF.out H1.out ?_
             intro w2 hw2D hw2))
      obtain ⟨SL, hSL⟩ : ∃ SL, SL = Lib.byteCells (laidB Y) := ⟨_, rfl⟩
      have hl64 := laidB_length hYl
      have hSLl : SL.length = 64 := by rw [hSL, Lib.byteCells_length]; exact hl64
      have hD2 : Hid (w2.heap[wa.heap.size]? = some (.cells SL.toArray 37 (0, 0))) := by
        show _ = _
        rw [hSL, ← blk_splice hYl]
        exact hw2D.out
      have HSi := Lib.hid (show (Try.prog.info? 37).map (·.size) = some SL.toArray.size by rw [List.size_toArray, hSLl]; exact secInfo)
      have hbwa : Below wa.heap.size wa w2 := by
        have hbd : Below wa.heap.size wa W2.drew := ⟨hba2.os, hba2.tape, hba2.output, hba2.size, hba2.block⟩
        exact hbd.trans ⟨hw2.1.os, hw2.1.tape, hw2.1.output, hw2.1.size, fun j hj => hw2.1.block j (by have := hbd.size; omega) (fun e => by injection e with e; omega)⟩
      have hbw : Below w1.heap.size w1 w2 := hba.trans (hbwa.mono hba.size)
      have hDk := hD.below hbw
      obtain ⟨q, hqq⟩ : ∃ q, a + i = q := ⟨_, rfl⟩
      have hqI : (a : Int) + (i : Int) = (q : Int) := by omega
      have hqB : q ≤ 65536 := by omega
      have Hq := Lib.hid hqq
      have HSL := Lib.hid hSL
      clear hSL hqq
      go_wp2_with (first
        | (refine wpList_load_row rfl _ _ rfl wa.heap.size rfl 37 SL.toArray (0, 0) _ hD2.out Try.underlying37 rfl HSi.out ?_))
      go_at_call 29
      refine Calls.mono (write_live F' k n q (putB S a bs i) L (W ++ putBW a bs i) false 0 (laidB Y) SL w2 hDk rfl (by have := Hq.out; omega) hl64 HSL.out (by rw [List.length_append, putBW_length]; omega)) ?_
      rintro e w3 ⟨rfl, hD3, hO3⟩
      go_wp2_with fail
      case roundEnd =>
        refine ⟨⟨i + 1, by omega, by simp, ⟨newF F' w2 w3, ?_, ?_⟩, ?_⟩, by simp [intOf]; omega⟩
        · rw [putB, putBW_succ, ← List.append_assoc, Hq.out, ← HYe.out]
          exact hD3
        · rintro b (hb' | hb')
          · exact hF' b hb'
          · exact Or.inr (Nat.le_trans (Nat.le_trans hO.size hbw.size) hb'.1)
        · exact (hO.step hbw).then hO3 (fun j hj => hF' j hj)
    · obtain rfl : i = m := by omega
      have hd2 : decide ((i : Int) < (i : Int)) = false := by simp
      have hd3 : decide (i < i) = false := by simp
      have hR8 : Arr w1 w.heap.size 31 binZ := hR1.only hO (fun hF => Nat.lt_irrefl _ (hFlt _ hF))
      have hrq : ∀ j, j < i → w1.rangeAt b (off + j * 48) (Lib.byteCells (bs.getD j [])) := fun j hj u v hv => by
        rw [← hr j hj u v hv]
        rw [World.cell?_of_block (w := wx) (hO.block b hlw hA)]
        exact hb1.cell (p := ⟨b, _, none⟩) hb
      have hdl : DL.length = 35 := by rw [hDL]; exact binC_length _ _ _ (rootF_length bs)
      have HI := Lib.hid (show (Try.prog.info? 31).map (·.size) = some DL.toArray.size by rw [List.size_toArray, hdl]; exact binSize)
      have HS := Lib.hid (show binZ.toArray.size = DL.toArray.size by rw [List.size_toArray, List.size_toArray, hdl]; rfl)
      have H1 := Lib.hid (show DL.toArray.all (·.oneCell') = true by rw [hDL]; exact all_oneCell_toArray (binC_cell _ _ _ _))
      obtain ⟨RL, hRL⟩ : ∃ RL, RL = Lib.byteCells (rootF bs) := ⟨_, rfl⟩
      have HB := Lib.hid (show Try.prog.built 31 [(0, .int .i64 (number : Nat)), (1, .int .i64 (a : Nat)), (2, .int .i64 (i : Nat)), (3, .agg RL.toArray)] = some DL.toArray by rw [hDL]; exact bin_built number a i (rootF bs) RL hRL (rootF_length bs))
      have HRL := Lib.hid hRL
      clear hDL hRL
      go_wp2_with fail
      go_at_call 30
      refine Calls.mono (nroot_at bs i c b off RL w1 Hm.out (by omega) hc hcm h48 (Nat.lt_of_lt_of_le hlw hO.size) hrq HRL.out) ?_
      rintro e w9 ⟨rfl, hb9⟩
      have hR9 := hR8.below hb9 hR8.lt
      have H0 : Hid (w9.heap[w.heap.size]? = some (.cells binZ.toArray 31 (0, 0))) := Lib.hid hR9
      go_wp2_with (first
        | (refine wpList_builtD rfl _ _ rfl _ rfl DL.toArray HB.out ?_)
        | (refine wpList_store_row rfl _ _ _ rfl w.heap.size DL.toArray rfl rfl 31 binZ.toArray H0.out HI.out HS.out H1.out ?_))
      have hset := hR9.setRow DL
      have hO9 : Only (fun j => j = w.heap.size) w9 (w9.setRow w.heap.size DL.toArray) := (Only.refl (fun j => j = w.heap.size) w9).setRow (.inl rfl) DL.toArray
      (try simp only [Exit.inBlock, Exit.then])
      obtain ⟨V, hV⟩ : ∃ V, V = Value.tuple #[.agg DL.toArray, .int .i64 0] := ⟨_, rfl⟩
      refine bodyPost_ret (v := V) ?hx1 ?h2 ?h3
      case hx1 => rw [hV]; exact results_cell2 (fn := Try.f8) (by rfl) _ _ w.heap.size 31 DL.toArray (0, 0) _ (by rfl) _ (by rfl) hset Try.underlying31 rfl HI.out
      case h2 => rfl
      case h3 =>
        refine ⟨by rw [hV], F', ?_, ?_, ?_⟩
        · refine hD.kept (Nat.le_trans hb9.size hO9.size) fun b hb' => ?_
          have hlt : b < w1.heap.size := hD.Flt b hb'
          have hne : ¬ b = w.heap.size := by
            rcases hF' b hb' with h1 | h1
            · exact Nat.ne_of_lt (hFlt b h1)
            · have := hR1.lt; omega
          rw [hO9.block b (by have := hb9.size; omega) hne]
          exact hb9.block b hlt
        · intro b hb'
          rcases hF' b hb' with h1 | h1
          · exact .inl h1
          · exact .inr (Nat.le_trans hb1.size h1)
        · exact (((Only.of_below hb1).trans (hO.trans (Only.of_below hb9))).then hO9 (fun j hj => .inr (by omega)))


end Go.Proofs.Ytccccpadnaocfaa

namespace Go.Proofs.Ytccccpadnaocfaa
open Go.RowKit
set_option linter.unusedVariables false
set_option linter.unusedSimpArgs false

theorem blkInfoN : (Try.prog.info? 40).map (fun i => (i.zero, i.size, i.bytes)) = some (some (.agg (Lib.byteCells z48).toArray), 48, 48) := by kernel_rfl
theorem blkC_zero (n : Nat) : blkC (List.replicate n z48) = List.replicate (n * 48) (.int .u8 0) := by
  induction n with
  | zero => rfl
  | succ n ih =>
    rw [List.replicate_succ, blkC_cons, ih, show (n + 1) * 48 = 48 + n * 48 by omega, ← List.replicate_append_replicate]
    rfl
theorem run_make_blks (n : Nat) (hn : n ≤ 65536) (w : World) :
    (Instr.makeSlice 22 (.int .i64 (n : Nat)) (.int .i64 (n : Nat))).run Try.prog w = .ok (.slice (some ⟨w.heap.size, 0, none⟩) n n) (w.alloc (.cells (blkC (List.replicate n z48)).toArray 40)) := by
  obtain ⟨i0, hi, hz0, hz1, hz2⟩ := info_parts blkInfoN
  have h := run_make (P := Try.prog) w 22 40 i0 (.agg (Lib.byteCells z48).toArray) Try.underlying22 hi hz0 .i64 .i64 (n : Nat) (n : Nat) (by omega) (by omega) (by rw [hz2]; omega) (by omega)
  rw [h, hz1, Int.toNat_natCast]
  have e : madeCells (Value.agg (Lib.byteCells z48).toArray).cells (n * 48) = (blkC (List.replicate n z48)).toArray := by
    rw [blkC_zero]
    exact made_rep (.int .u8 0) 48 (n * 48) (by omega)
  rw [e]
/-- The first i blocks read, the others not yet. -/
def partB (S : List (List UInt8)) (a m i : Nat) : List (List UInt8) := standsF S a i ++ List.replicate (m - i) z48
theorem partB_zero (S : List (List UInt8)) (a m : Nat) : partB S a m 0 = List.replicate m z48 := by simp [partB, standsF]
theorem partB_length (S : List (List UInt8)) (a : Nat) {m i : Nat} (h : i ≤ m) : (partB S a m i).length = m := by simp [partB, standsF_length]; omega
theorem partB_all (S : List (List UInt8)) (a m : Nat) : partB S a m m = standsF S a m := by simp [partB]
theorem partB_step (S : List (List UInt8)) (a : Nat) {m i : Nat} (h : i < m) : (partB S a m i).set i (standF S (a + i)) = partB S a m (i + 1) := by
  unfold partB
  rw [List.set_append_right _ _ (by rw [standsF_length]; exact Nat.le_refl _), standsF_length, Nat.sub_self, show m - i = (m - (i + 1)) + 1 by omega, List.replicate_succ, List.set_cons_zero]
  simp [standsF, List.range_succ]
theorem partB_48 {S : List (List UInt8)} (h : ∀ s ∈ S, s.length = 64) {a m i : Nat} (hn : a + i ≤ S.length) : ∀ s ∈ partB S a m i, s.length = 48 := fun s hs => by
  rcases List.mem_append.1 hs with hs | hs
  · exact standsF_48 h hn s hs
  · rw [(List.mem_replicate.1 hs).2]; rfl

set_option maxHeartbeats 16000000 in
set_option maxRecDepth 100000 in
theorem nall_at (k gs n : Nat) (S : List (List UInt8)) (num : Int) (a m : Nat) (rd : List UInt8) (DL : List Value) (ok : Bool) (w : World) (hS : SeenN w k gs n S) (hrd : rd.length = 32) (hDL : DL = binC num a m rd) (hm1 : 1 ≤ m) (ha : a + m ≤ n) (hok : decide (rootF (standsF S a m) = rd) = ok) :
    Calls Try.prog 14 #[.pointer (some ⟨k, 0, none⟩), .agg DL.toArray] w fun e w' => (ok = true → ∃ g, e = .returned (.tuple #[.slice (some ⟨g, 0, none⟩) m m, .int .i64 0]) ∧ Arr w' g 40 (blkC (standsF S a m)) ∧ w.heap.size ≤ g) ∧ (ok = false → e = .returned (.tuple #[.slice none 0 0, .int .i64 7])) ∧ Below w.heap.size w w' := by
  have hn2 := hS.n2
  have hSn := hS.lS
  have h64 := hS.s64
  have hd0 : decide ((m : Int) < (1 : Int)) = false := by simp; omega
  obtain ⟨W1, hW1⟩ : ∃ x, x = w.alloc (.cells DL.toArray 31) := ⟨_, rfl⟩
  have hX1 : Arr W1 w.heap.size 31 DL := by rw [hW1]; exact Arr.new w _ DL
  have hb1 : Below w.heap.size w W1 := by rw [hW1]; exact (Below.refl _ w).alloc (Nat.le_refl _) _
  have hS1 := hS.below hb1
  have hD1 : DL[1]? = some (.int .i64 (a : Nat)) := by rw [hDL]; rfl
  have hc1 : W1.cell? ⟨w.heap.size, 1, none⟩ = some (.int .i64 (a : Nat)) := by rw [hX1.cell]; exact hD1
  have hc2 : W1.cell? ⟨w.heap.size, 2, none⟩ = some (.int .i64 (m : Nat)) := by rw [hX1.cell, hDL]; rfl
  obtain ⟨FL, hFL⟩ : ∃ FL, FL = Lib.byteCells rd := ⟨_, rfl⟩
  have hFD : ∀ j v, FL[j]? = some v → DL[3 + j]? = some v := fun j v hj => by rw [hDL]; rw [hFL] at hj; exact binC_dig num a m rd j v hj
  have hFl : FL.length = 32 := by rw [hFL, Lib.byteCells_length, hrd]
  have HFLn := Lib.hid (show (Try.prog.info? 29).map (·.size) = some FL.length by rw [hFl]; exact digInfo)
  obtain ⟨V, hV⟩ : ∃ V, V = W1.alloc (.cells (blkC (List.replicate m z48)).toArray 40) := ⟨_, rfl⟩
  have hG : Arr V W1.heap.size 40 (blkC (partB S a m 0)) := by rw [hV, partB_zero]; exact Arr.new W1 _ _
  have hbV : Below W1.heap.size W1 V := by rw [hV]; exact (Below.refl _ W1).alloc (Nat.le_refl _) _
  obtain ⟨g, hg⟩ : ∃ g, g = W1.heap.size := ⟨_, rfl⟩
  rw [← hg] at hG hbV
  have hwg : w.heap.size < g := by rw [hg]; exact hX1.lt
  have hgW : g ≤ W1.heap.size := by omega
  have hSg : ∀ b, (b = k ∨ b = gs) → b < g := fun b hb => by rw [hg]; exact hS1.lt b hb
  have hmk := run_make_blks m (by omega) W1
  rw [← hg, ← hV] at hmk
  have Hmk := Lib.hid hmk
  obtain ⟨GL, hGL⟩ : ∃ GL, GL = Lib.byteCells (rootF (standsF S a m)) := ⟨_, rfl⟩
  have hcmp : ∀ w, (Op.equalIn 10000 29 (.agg GL.toArray) (.agg FL.toArray)).run Try.prog w = .ok ok w := fun w => by
    rw [eqv_at Try.underlying29 _ rd (rootF_length _) hrd GL FL hGL hFL w, hok]
  have HGL := Lib.hid hGL
  have HW1 := Lib.hid hW1
  have hgt := gtDN
  have hz2 : V.heap.size = V.heap.size := rfl
  clear hW1 hDL hFL hGL hok hV hg hmk hz2
  go_enter Try.func14, Try.ntmps14
  go_upto_region 1 with fail
  change Code.wp _ _ _ _ (w.alloc (.cells DL.toArray 31))
  rw [← HW1.out]
  clear HW1
  go_wp2_with fail
  refine Calls.mono (nthere_is k gs n a m true W1 hS1.c0 hn2 (by omega) (by simp; omega)) ?_
  rintro e w2 ⟨rfl, rfl⟩
  go_wp2_with (first
    | (refine wpList_makeRun rfl _ _ _ rfl _ _ _ rfl rfl Hmk.out ?_))
  go_loopw [25] (fun v wr => ∃ i : Nat, i ≤ m ∧ v = .int .i64 i ∧ Arr wr g 40 (blkC (partB S a m i)) ∧ Only (fun b => b = g) V wr) (fun v _ => m - (intOf v).toNat)
  case atStart => exact ⟨0, by omega, rfl, hG, Only.refl _ _⟩
  case round =>
    clear hG
    obtain ⟨i, hi, rfl, hGi, hO⟩ := hrel
    obtain ⟨wq, hwq⟩ : ∃ x, x = wr := ⟨_, rfl⟩
    subst hwq
    have hbq : Below g w2 wq := hbV.trans (hO.below (Nat.le_trans hgW hbV.size) (by rintro k rfl; exact Nat.le_refl _))
    have hSq : SeenN wq k gs n S := hS1.kept hbq.size (fun b hb => hbq.block b (hSg b hb))
    have hXq : Arr wq w.heap.size 31 DL := hX1.below hbq hwg
    by_cases hlt : i < m
    · have hd : decide ((i : Int) < (m : Int)) = true := by simp; exact hlt
      have hdn : decide (i < m) = true := by simp; exact hlt
      have hcq : wq.cell? ⟨w.heap.size, 1, none⟩ = some (.int .i64 (a : Nat)) := by rw [hXq.cell]; exact hD1
      obtain ⟨q, hqq⟩ : ∃ q, a + i = q := ⟨_, rfl⟩
      have hqI : (a : Int) + (i : Int) = (q : Int) := by omega
      have hqn : q < n := by omega
      obtain ⟨XL, hXL⟩ : ∃ XL, XL = Lib.byteCells (standF S q) := ⟨_, rfl⟩
      have hx48 : (standF S q).length = 48 := standF_length h64 (by rw [hSn]; exact hqn)
      have hXl : XL.length = 48 := by rw [hXL, Lib.byteCells_length, hx48]
      have HXLi := Lib.hid (show (Try.prog.info? 40).map (·.size) = some XL.toArray.size by rw [List.size_toArray, hXl]; exact blkInfo)
      have HXLn := Lib.hid (show (Try.prog.info? 40).map (·.size) = some XL.length by rw [hXl]; exact blkInfo)
      have HXLs := Lib.hid (show (Lib.byteCells z48).toArray.size = XL.toArray.size by rw [List.size_toArray, List.size_toArray, hXl]; rfl)
      have HXL1 := Lib.hid (show XL.toArray.all (·.oneCell') = true by rw [hXL]; exact sec_one _)
      have HXL := Lib.hid hXL
      have Hqq := Lib.hid hqq
      clear hXL hqq
      go_wp2_with fail
      refine Calls.mono (standing_at k gs n q S wq hSq hqn XL HXL.out) ?_
      rintro e w3 ⟨rfl, hb3⟩
      have hG3 := hGi.below hb3 hGi.lt
      have hl3 : i * 48 + XL.toArray.size ≤ (blkC (partB S a m i)).length := by
        rw [blkC_length (partB_48 h64 (by rw [hSn]; omega)), partB_length _ _ hi, List.size_toArray, hXl]; omega
      have hth := Lib.hid (there_of_arr hG3 hl3)
      have hA3 : Arr (w3.setCells g (i * 48) XL) g 40 (blkC (partB S a m (i + 1))) := by
        rw [← partB_step S a hlt, ← blkC_set (partB_48 h64 (by rw [hSn]; omega)) (by rw [partB_length _ _ hi]; exact hlt) (standF S (a + i)) (by rw [Hqq.out]; exact hx48), Hqq.out, ← HXL.out]
        exact Arr.setIn XL (i * 48) _ w3 hG3 (by rw [List.size_toArray] at hl3; exact hl3)
      have hO3 : Only (fun b => b = g) V (w3.setCells g (i * 48) XL) := Only.setIn (R := fun b => b = g) rfl XL (i * 48) w3 (hO.step hb3)
      have HA3 := Lib.hid hA3
      have HO3 := Lib.hid hO3
      clear hG3 hGi hO hb3 hl3 hA3 hO3 hbq hSq hXq hcq
      go_wp2_with (first
        | (refine wpList_store_mid rfl 40 _ _ rfl g (i * 48) XL.toArray rfl rfl hth.out HXLi.out HXL1.out ?_))
      case roundEnd => exact ⟨⟨i + 1, by omega, by simp, HA3.out, HO3.out⟩, by simp [intOf]; omega⟩
    · obtain rfl : i = m := by omega
      have hd : decide ((i : Int) < (i : Int)) = false := by simp
      have hdn : decide (i < i) = false := by simp
      rw [partB_all] at hGi
      have h48 := standsF_48 h64 (a := a) (n := i) (by rw [hSn]; exact ha)
      have hgl := hGi.lt
      have hrq : ∀ j, j < i → wq.drew.rangeAt g (0 + j * 48) (Lib.byteCells ((standsF S a i).getD j [])) := fun j hj u v hv => by
        rw [Nat.zero_add]
        show wq.cell? _ = _
        rw [hGi.cell]
        exact blkC_at h48 (by rw [standsF_length]; exact hj) u v hv
      have hDrq : wq.drew.rangeAt w.heap.size 3 FL := fun j v hv => by
        show wq.cell? _ = _
        rw [hXq.cell]
        exact hFD j v hv
      have hXl := hXq.lt
      have hBq : Below w.heap.size w wq.drew := Below.dN (hb1.trans (hbq.mono (Nat.le_of_lt hwg))) 1
      go_wp2_with fail
      refine wp_region_held_drew (S := fun w' => w'.rangeAt w.heap.size 3 FL) (by kernel_rfl) hDrq (fun hHeld => ?_)
      refine anyH_take (i := 0) (v := .slice (some ⟨g, 0, none⟩) i i) (some 38) rfl rfl (by kernel_rfl) (by kernel_rfl) (by kernel_rfl) (fun _ _ _ h => h) (Or.inl ⟨by rfl, fun w' hw' => by go_simp⟩) (by assumption) ?_
      simp only [Act.put, List.setIfInBounds_toArray, List.set_cons_zero, List.set_cons_succ]
      refine anyH_take (i := 2) (v := .pointer (some ⟨w.heap.size, 3, none⟩)) (some 40) rfl rfl (by kernel_rfl) (by kernel_rfl) (by kernel_rfl) (fun _ _ _ h => h) (Or.inl ⟨by rfl, fun w' hw' => by go_simp⟩) (by assumption) ?_
      simp only [Act.put, List.setIfInBounds_toArray, List.set_cons_zero, List.set_cons_succ]
      refine anyH_take (i := 3) (some 41) rfl rfl (by kernel_rfl) (by kernel_rfl) (by kernel_rfl) (fun _ _ _ h => h) (yieldsIf_load_mid (by rfl) 29 (.tmp 40) rfl w.heap.size 3 rfl FL _ (fun _ h => h) Try.underlying29 rfl HFLn.out) (by assumption) ?_
      simp only [Act.put, List.setIfInBounds_toArray, List.set_cons_zero, List.set_cons_succ]
      refine wpAnyH_ready (rs := [1]) (by kernel_rfl) (by simp) ?_
      refine AllReadyH.cons rfl (fun K hK => ?_) AllReadyH.nil
      go_simp
      go_at_call 30
      refine Calls.mono (nroot_at (standsF S a i) i i g 0 GL wq.drew (standsF_length _ _ _) (by omega) (Nat.le_refl _) (by omega) h48 hgl hrq HGL.out) ?_
      rintro e w6 ⟨rfl, hb6⟩
      dsimp only
      go_wp2_with fail
      refine hK.out _ _ (rangeN_below hDrq hb6 hXl) (fun hHeld => ?_)
      clear hK K
      try simp only [Act.put, List.setIfInBounds_toArray, List.set_cons_zero, List.set_cons_succ]
      refine wpAnyH_ready (rs := [4]) (by kernel_rfl) (by simp) ?_
      refine AllReadyH.cons rfl (fun K hK => ?_) AllReadyH.nil
      go_simp
      refine hK.out _ _ (rangeN_below hDrq hb6 hXl) (fun hHeld => ?_)
      clear hK K
      try simp only [Act.put, List.setIfInBounds_toArray, List.set_cons_zero, List.set_cons_succ]
      have hGz : Arr w6 g 40 (blkC (standsF S a i)) := (hGi.drewN 1).below hb6 hgl
      have hBz := hBq.trans (hb6.mono hBq.size)
      have hgz : w.heap.size ≤ g := Nat.le_of_lt hwg
      clear hHeld hDrq hrq hXq hGi hBq hbq hSq hcmp hgt hb6 hO
      cases ok
      · refine wpAnyH_done (by kernel_rfl) ?_ _
        go_wp2_with fail
        exact bodyPost_ret (results_tmp2 (t := 4) (u := 5) (by rfl) _ _ _) rfl ⟨rfl, hBz⟩
      · refine wpAnyH_done (by kernel_rfl) ?_ _
        go_wp2_with fail
        exact bodyPost_ret (results_tmp2 (t := 4) (u := 5) (by rfl) _ _ _) rfl ⟨⟨g, rfl, hGz, hgz⟩, hBz⟩


end Go.Proofs.Ytccccpadnaocfaa

namespace Go.Proofs.Ytccccpadnaocfaa
open Go.RowKit
set_option linter.unusedVariables false
set_option linter.unusedSimpArgs false

theorem wpList_load_mid_if {P : Program} {ops : Array Oper} {rest : List Oper} {o : Oper} {a : Act} {w : World} {Q : Exit → Act → World → Prop} (hw : Region.wanted o (yielded ops a.tmps) = true) (ty : TypeId) (x : Operand) (ho : o.op = .load ty x)
    (b off : Nat) (hx : a.eval x = .pointer (some ⟨b, off, none⟩)) (cs : List Value) (d : TypeDesc) (hc : w.rangeAt b off cs)
    (hu : P.underlying ty = some d) (hd : d.isRow = true) (hi : (P.info? ty).map (·.size) = some cs.length)
    (h : wpList P ops Q rest (a.put o.dst (.agg cs.toArray)) w) : wpList P ops Q (o :: rest) a w :=
  wpList_step fun K hK => by
    rw [if_pos hw]
    exact wp_load_mid ty x ho b off hx cs d hc hu hd hi (hK _ _ h)
theorem wpList_built_if {P : Program} {ops : Array Oper} {rest : List Oper} {o : Oper} {a : Act} {w : World} {Q : Exit → Act → World → Prop} (hw : Region.wanted o (yielded ops a.tmps) = true) (t : TypeId) (parts : Array (Nat × Operand)) (ho : o.op = .build t parts)
    (ps : List (Nat × Value)) (hp : parts.toList.map (fun x => (x.1, a.eval x.2)) = ps) (cells : Array Value) (hf : P.built t ps = some cells)
    (h : wpList P ops Q rest (a.put o.dst (.agg cells)) w) : wpList P ops Q (o :: rest) a w :=
  wpList_step fun K hK => by
    rw [if_pos hw]
    unfold Oper.wp execOp
    simp only [ho, Sem.run_bind, run_build w t _ cells (show P.built t (parts.map fun (i, x) => (i, a.eval x)).toList = some cells by rw [← hf, ← hp]; simp), Result.andThen_ok, Sem.run_pure]
    exact hK _ _ h

theorem Only.upN {F : Nat → Prop} {B : Nat} {w0 w w' : World} (h : Below B w0 w) (hO : Only F w w') (hF : ∀ b, F b → B ≤ b) (hB : B ≤ w0.heap.size) : Below B w0 w' := h.trans (hO.below (Nat.le_trans hB h.size) hF)
def sp9N : List (List UInt8) := List.replicate 9 zero64
def blk1 : List UInt8 := 1 :: List.replicate 47 0
def blk2 : List UInt8 := 2 :: List.replicate 47 0
theorem blk1_built : Try.prog.built 40 [(0, .int .u8 1)] = some (Lib.byteCells blk1).toArray := by kernel_rfl
theorem blk2_built : Try.prog.built 40 [(0, .int .u8 2)] = some (Lib.byteCells blk2).toArray := by kernel_rfl
theorem blk12_48 : ∀ s ∈ [blk1, blk2], s.length = 48 := by
  intro s hs
  simp only [List.mem_cons, List.not_mem_nil, or_false] at hs
  rcases hs with rfl | rfl <;> rfl
theorem fill_blk2 (X Y : List Value) (hX : X.length = 48) (hY : Y.length = 48) (cells : Array Value) (hc : cells.size = 96) : Instr.fill (fun i => some (i * 48, 48)) cells [(0, .agg X.toArray), (1, .agg Y.toArray)] = some (X ++ Y).toArray := by
  have h1 := fill_mid (fun i => some (i * 48, 48)) cells 0 0 X (by rw [hX]) (by rw [hX, hc]; omega)
  rw [fill_consN _ _ _ _ _ h1]
  have hd : (cells.toList.drop (0 + X.length)).length = 48 := by rw [List.length_drop, hX]; simp [hc]
  have h2 := fill_mid (fun i => some (i * 48, 48)) (cells.toList.take 0 ++ (X ++ cells.toList.drop (0 + X.length))).toArray 1 48 Y (by rw [hY]) (by rw [hY, List.size_toArray, List.length_append, List.length_append, hd, hX]; simp)
  rw [h2]
  congr 1
  apply congrArg List.toArray
  simp only [List.take_zero, List.nil_append]
  rw [show (48 : Nat) = X.length from hX.symm, List.take_left, hY, ← hX, List.drop_append, List.drop_of_length_le (by omega : X.length ≤ X.length + X.length)]
  rw [List.nil_append, List.drop_of_length_le (by rw [hd]; omega), List.append_nil]
theorem blkInfoS : (Try.prog.info? 40).map (fun i => (i.zero, i.size, i.bytes)) = some (some (.agg (Lib.byteCells z48).toArray), 48, 48) := by kernel_rfl
/-- '[]api.Block{x, y}'. -/
theorem wpList_build_blks {ops : Array Oper} {rest : List Oper} {o : Oper} {a : Act} {w : World} {Q : Exit → Act → World → Prop} (hg : o.guard = none) (x y : Operand) (ho : o.op = .buildSlice 22 2 #[(0, x), (1, y)]) (X Y : List Value) (hX : X.length = 48) (hY : Y.length = 48) (hx : a.eval x = .agg X.toArray) (hy : a.eval y = .agg Y.toArray)
    (h : wpList Try.prog ops Q rest (a.put o.dst (.slice (some ⟨w.heap.size, 0, none⟩) 2 2)) (w.alloc (.cells (X ++ Y).toArray 40))) : wpList Try.prog ops Q (o :: rest) a w := by
  refine wpList_plain hg fun K hK => ?_
  obtain ⟨i0, hi, hz0, hz1, hz2⟩ := info_parts blkInfoS
  refine wp_buildSlice 22 40 2 #[(0, x), (1, y)] ho (X ++ Y).toArray i0 _ Try.underlying22 hi hz0 (by rw [hz1]; decide) (by rw [hz1]; decide) ?_ (hK _ _ h)
  rw [hz1]
  simp only [List.map_toArray, List.map_cons, List.map_nil, hx, hy]
  exact fill_blk2 X Y hX hY _ (by simp)

set_option maxHeartbeats 16000000 in
set_option maxRecDepth 100000 in
theorem nspeaks_true (w : World) : Calls Try.prog 6 #[] w fun e w' => e = .returned (.bool true) ∧ Below w.heap.size w w' := by
  obtain ⟨XL, hXL⟩ : ∃ X, X = Lib.byteCells blk1 := ⟨_, rfl⟩
  obtain ⟨YL, hYL⟩ : ∃ X, X = Lib.byteCells blk2 := ⟨_, rfl⟩
  have hXl : XL.length = 48 := by rw [hXL]; rfl
  have hYl : YL.length = 48 := by rw [hYL]; rfl
  have HXb := Lib.hid (show Try.prog.built 40 [(0, .int .u8 1)] = some XL.toArray by rw [hXL]; exact blk1_built)
  have HYb := Lib.hid (show Try.prog.built 40 [(0, .int .u8 2)] = some YL.toArray by rw [hYL]; exact blk2_built)
  have HXY := Lib.hid (show XL ++ YL = blkC [blk1, blk2] by rw [hXL, hYL]; simp [blkC])
  have HYn := Lib.hid (show (Try.prog.info? 40).map (·.size) = some YL.length by rw [hYl]; exact blkInfo)
  have hcmp : ∀ w, (Op.equalIn 10000 40 (.agg YL.toArray) (.agg YL.toArray)).run Try.prog w = .ok true w := fun w => by
    rw [eqv_at Try.underlying40 blk2 blk2 rfl rfl YL YL hYL hYL w]
    simp
  obtain ⟨DL, hDL⟩ : ∃ x, x = binC (1 : Nat) (2 : Nat) (2 : Nat) (rootF [blk1, blk2]) := ⟨_, rfl⟩
  have hDl : DL.length = 35 := by rw [hDL]; exact binC_length _ _ _ (rootF_length _)
  have HDLi := Lib.hid (show (Try.prog.info? 31).map (·.size) = some DL.toArray.size by rw [List.size_toArray, hDl]; exact binSize)
  have HDLn := Lib.hid (show (Try.prog.info? 31).map (·.size) = some DL.length by rw [hDl]; exact binSize)
  have HDLs := Lib.hid (show binZ.toArray.size = DL.toArray.size by rw [List.size_toArray, List.size_toArray, hDl]; rfl)
  have HDL1 := Lib.hid (show DL.toArray.all (·.oneCell') = true by rw [hDL]; exact all_oneCell_toArray (binC_cell _ _ _ _))
  have HYL := Lib.hid hYL
  have HDL := Lib.hid hDL
  have hgt := gtBN
  clear hXL hYL hDL
  go_enter Try.func6, Try.ntmps6
  go_wp2_with fail
  go_at_call 7
  refine Calls.mono (show Calls Try.prog 7 #[.int .i64 9] w (NewPost 9 w) from new_yes 9 w (by omega) (by omega)) ?_
  rintro e w2 ⟨k, rfl, hD2, hb2⟩
  have hF2 : ∀ b, newF (fun _ => False) w w2 b → w.heap.size ≤ b := fun b h => h.elim (fun h => h.elim) (fun h => h.1)
  go_wp2_with (first
    | (refine wpList_builtD rfl _ _ rfl [(0, .int .u8 1)] rfl XL.toArray HXb.out ?_)
    | (refine wpList_builtD rfl _ _ rfl [(0, .int .u8 2)] rfl YL.toArray HYb.out ?_)
    | (refine wpList_build_blks rfl _ _ rfl XL YL hXl hYl rfl rfl ?_))
  obtain ⟨w3, hw3⟩ : ∃ x, x = w2.alloc (.cells (XL ++ YL).toArray 40) := ⟨_, rfl⟩
  have hA3 : Arr w3 w2.heap.size 40 (blkC [blk1, blk2]) := by rw [hw3, HXY.out]; exact Arr.new w2 _ _
  have hb3 : Below w2.heap.size w2 w3 := by rw [hw3]; exact (Below.refl _ w2).alloc (Nat.le_refl _) _
  have hD3 := hD2.below hb3
  have hB3 := hb2.trans (hb3.mono hb2.size)
  rw [← hw3]
  have hFn : ¬ newF (fun _ => False) w w2 w2.heap.size := fun h => h.elim (fun h => h) (fun h => Nat.lt_irrefl _ h.2)
  clear hw3
  refine Calls.mono (nwrite_yes _ k 9 2 1 (List.replicate 9 zero64) _ [] [blk1, blk2] DL w2.heap.size 0 2 2 w3 hD3 rfl (by omega) (Nat.le_refl _) (by omega) blk12_48 hA3.lt (fun i hi => by
    obtain ⟨b, off, e, _, hr⟩ := hA3.blks blk12_48 (by simp)
    injection e with e
    injection e with e1 e2
    subst e1 e2
    exact hr i hi) hFn (by omega) (by simp) (by omega) HDL.out) ?_
  rintro e w4 ⟨rfl, F4, hD4, hF4, hO4⟩
  have hB4 := Only.upN hB3 hO4 hF2 (Nat.le_refl _)
  obtain ⟨gs, hS4⟩ := hD4.seenN
  clear hD2 hD3 hD4 hA3 hb2 hb3 hO4 hF4 hF2 hFn
  go_wp2_with (first
    | (change wpList _ _ _ _ _ (w4.alloc (.cells binZ.toArray 31)); refine wpList_store_row rfl _ _ _ rfl w4.heap.size DL.toArray rfl rfl 31 binZ.toArray (heap_alloc_new w4 _) HDLi.out HDLs.out HDL1.out ?_; obtain ⟨w5, hw5⟩ : ∃ x, x = (w4.alloc (.cells binZ.toArray 31)).setRow w4.heap.size DL.toArray := ⟨_, rfl⟩; rw [← hw5]; obtain ⟨hP5, hb5⟩ := alloc_rowD w4 31 binZ.toArray DL; rw [← hw5] at hP5 hb5; clear hw5)
    | (refine wpList_load_row rfl _ _ rfl w4.heap.size rfl 31 DL.toArray (0, 0) _ hP5 Try.underlying31 rfl HDLi.out ?_))
  have hS5 := hS4.below hb5
  have hB5 := hB4.trans (hb5.mono hB4.size)
  clear hS4 hB4 hb5 hB3
  have hst : standsF (putB (List.replicate 9 zero64) 2 [blk1, blk2] 2) 2 2 = [blk1, blk2] := stands_put (bs := [blk1, blk2]) blk12_48 (by simp)
  refine Calls.mono (nall_at k gs 9 _ 1 2 2 (rootF [blk1, blk2]) DL true w5 hS5 (rootF_length _) HDL.out (by omega) (by omega) (by rw [hst]; simp)) ?_
  rintro e w6 ⟨h6, _, hb6⟩
  obtain ⟨g, rfl, hG6, hg6⟩ := h6 (by first | rfl | trivial)
  rw [hst] at hG6
  have hB6 := hB5.trans (hb6.mono hB5.size)
  have hY6 : w6.rangeAt g 48 YL := fun j v hj => by
    rw [HYL.out] at hj
    rw [hG6.cell]
    exact blkC_at blk12_48 (i := 1) (by simp) j v hj
  clear hS5 hP5 h6 hb6 hB5 hst hG6 hg6
  go_wp2_with (first
    | (refine wpList_load_mid_if (by rfl) _ _ rfl g 48 rfl YL _ hY6 Try.underlying40 rfl HYn.out ?_)
    | (refine wpList_built_if (by rfl) _ _ rfl [(0, .int .u8 2)] rfl YL.toArray HYb.out ?_))
  go_ret
  exact ⟨rfl, hB6⟩


end Go.Proofs.Ytccccpadnaocfaa

namespace Go.Proofs.Ytccccpadnaocfaa
open Go.RowKit
set_option linter.unusedVariables false
set_option linter.unusedSimpArgs false

theorem rtagd_atN (use : UInt8) (u : Int) (rs : List (List UInt8)) (SL : List Value) (A : Option Addr) (n c : Nat) (w : World) (hu : ((use.toNat : Nat) : Int) = u) (hS : SL = Lib.byteCells (shaF (tagF use rs))) (hn : rs.length = n) (hn2 : n ≤ 1000000) (hr : RowsAt w w.heap.size A rs) (hlim : (tagF use rs).length ≤ 1000000) :
    Calls Try.prog 33 #[.int .u8 u, .slice A n c] w fun e w' => e = .returned (.agg SL.toArray) ∧ Below w.heap.size w w' := by
  subst hS hu; exact rtagged_any use rs A n c w hn hn2 hr hlim

set_option maxHeartbeats 8000000 in
set_option maxRecDepth 100000 in
theorem rfinger_at (b : List UInt8) (hb : b.length = 48) (BL SL : List Value) (hBL : BL = Lib.byteCells b) (hSL : SL = Lib.byteCells (fingF b)) (w : World) :
    Calls Try.prog 12 #[.agg BL.toArray] w fun e w' => e = .returned (.agg SL.toArray) ∧ Below w.heap.size w w' := by
  obtain ⟨W, hW⟩ : ∃ W, W = (w.alloc (.cells BL.toArray 40)).alloc (.cells (Lib.byteCells zeros).toArray 29) := ⟨_, rfl⟩
  have hX : Arr W w.heap.size 40 (Lib.byteCells b) := by rw [hW, ← hBL]; exact (Arr.new w _ BL).alloc _
  have hR : Arr W (w.heap.size + 1) 29 (Lib.byteCells zeros) := by
    have h1 := Arr.new (w.alloc (.cells BL.toArray 40)) 29 (Lib.byteCells zeros)
    rw [show (w.alloc (.cells BL.toArray 40)).heap.size = w.heap.size + 1 from by simp] at h1
    rw [hW]; exact h1
  have hWs : W.heap.size = w.heap.size + 2 := by rw [hW]; simp
  have hB : Below w.heap.size w W := by rw [hW]; exact ((Below.refl _ w).alloc (Nat.le_refl _) _).alloc (by simp) _
  obtain ⟨g, hg⟩ : ∃ g, g = w.heap.size + 1 := ⟨_, rfl⟩
  have hgw : w.heap.size ≤ g := by omega
  obtain ⟨V, hV⟩ : ∃ V, V = W.alloc (.cells #[.slice (some ⟨w.heap.size, 0, none⟩) 48 48] 49) := ⟨_, rfl⟩
  have hbV : Below W.heap.size W V := by rw [hV]; exact (Below.refl _ W).alloc (Nat.le_refl _) _
  have hrow : RowsAt V V.heap.size (some ⟨W.heap.size, 0, none⟩) [b] := by
    have h1 := rows_oneN (w := W) 49 hb (Nat.le_refl 48) (by unfold maxLen; omega) hX.bs (Nat.le_refl _)
    rw [hV]; exact h1.more (Nat.le_of_eq (by simp))
  have hbl : BL.length = 48 := by rw [hBL, Lib.byteCells_length, hb]
  have hsl : SL.length = 32 := by rw [hSL, Lib.byteCells_length, fingF_length]
  have hi32 : (Try.prog.info? 29).map (·.size) = some SL.length := by rw [hsl]; exact digInfo
  have HI := Lib.hid (show (Try.prog.info? 29).map (·.size) = some SL.toArray.size by rw [List.size_toArray]; exact hi32)
  have HS := Lib.hid (show (Lib.byteCells zeros).toArray.size = SL.toArray.size by rw [List.size_toArray, List.size_toArray, hsl]; rfl)
  have H1 := Lib.hid (show SL.toArray.all (·.oneCell') = true by rw [hSL]; exact dig_one _)
  have hlim := fing_lim hb
  rw [← hg] at hR
  have HW := Lib.hid hW
  have HV := Lib.hid hV
  have HSL := Lib.hid hSL
  have HWs := Lib.hid hWs
  have Hg := Lib.hid hg
  clear hW hV hSL hBL hWs hg hX
  go_enter Try.func12, Try.ntmps12
  go_wp2_with fail
  go_at_call 33
  change Calls _ _ #[_, .slice (some ⟨w.heap.size + 2, 0, none⟩) 1 1] (((w.alloc (.cells BL.toArray 40)).alloc (.cells (Lib.byteCells zeros).toArray 29)).alloc (.cells #[.slice (some ⟨w.heap.size, 0, none⟩) 48 48] 49)) _
  rw [← HWs.out, ← HW.out, ← HV.out]
  refine Calls.mono (rtagd_atN 6 6 [b] SL (some ⟨W.heap.size, 0, none⟩) 1 1 V rfl HSL.out rfl (by omega) hrow hlim) ?_
  rintro e w5 ⟨rfl, hb5⟩
  have hR5 : Arr w5 g 29 (Lib.byteCells zeros) := (hR.below hbV hR.lt).below hb5 (by have := hR.lt; have := hbV.size; omega)
  have h5 : Below w.heap.size w w5 := (hB.trans (hbV.mono hB.size)).trans (hb5.mono (Nat.le_trans hB.size hbV.size))
  have H0 : Hid (w5.heap[g]? = some (.cells (Lib.byteCells zeros).toArray 29 (0, 0))) := Lib.hid hR5
  have hfin : Below w.heap.size w (w5.setRow g SL.toArray) := h5.trans (((Only.refl (fun k => k = g) w5).setRow (.inl rfl) SL.toArray).below h5.size (by rintro k rfl; exact hgw))
  have hset : Arr (w5.setRow g SL.toArray) g 29 SL := hR5.setRow SL
  rw [← Hg.out]
  clear hR hB hbV hrow hlim hb5 hR5 h5 Hg
  go_wp2_with (first
    | (refine wpList_store_row rfl _ _ _ rfl g SL.toArray rfl rfl 29 (Lib.byteCells zeros).toArray H0.out HI.out HS.out H1.out ?_))
  exact bodyPost_ret (v := .agg SL.toArray) (results_cell_row (by rfl) _ _ g 29 SL.toArray (0, 0) _ (by rfl) hset Try.underlying29 rfl HI.out) rfl ⟨rfl, hfin⟩


end Go.Proofs.Ytccccpadnaocfaa

namespace Go.Proofs.Ytccccpadnaocfaa
open Go.RowKit
set_option linter.unusedVariables false
set_option linter.unusedSimpArgs false

theorem rowAllI : (Try.prog.info? 49).map (fun i => (i.zero, i.size, i.bytes)) = some (some (.slice none 0 0), 1, 24) := by kernel_rfl
/-- A row of rows of bytes of the call's own. -/
def NRow (w : World) (B : Nat) (v : Value) (rs : List (List UInt8)) : Prop :=
  ∃ cs : List Value, w.ownsRow B 49 1 v rs.length cs ∧ ∀ (i : Nat) (r : List UInt8), rs[i]? = some r → ∃ (A : Option Addr) (c : Nat), cs[i]? = some (.slice A r.length c) ∧ r.length ≤ c ∧ c ≤ maxLen ∧ Bs w w.heap.size A r ∧ ∀ a : Addr, A = some a → 0 < r.length → v.ownBlock ≠ some a.block
theorem NRow.lt {w : World} {B : Nat} {v : Value} {rs : List (List UInt8)} (h : NRow w B v rs) : ∀ k, v.ownBlock = some k → B ≤ k ∧ k < w.heap.size := by
  obtain ⟨cs, h1, _⟩ := h
  exact World.ownsRow.lt h1
theorem NRow.up {w w' : World} {B : Nat} {v : Value} {rs : List (List UInt8)} (h : NRow w B v rs) (hb : Below w.heap.size w w') : NRow w' B v rs := by
  obtain ⟨cs, h1, h2⟩ := h
  refine ⟨cs, ⟨h1.1, ?_⟩, fun i r hr => ?_⟩
  · rcases h1.2 with hn | ⟨g, cap, cur, rfl, e1, hg, rest⟩
    · exact .inl hn
    · exact .inr ⟨g, cap, cur, rfl, e1, (hb.block g (Array.getElem?_eq_some_iff.1 hg).1).trans hg, rest⟩
  · obtain ⟨A, c, k1, k2, k3, k4, k5⟩ := h2 i r hr
    exact ⟨A, c, k1, k2, k3, (k4.below hb (Nat.le_refl _)).more hb.size, k5⟩
theorem NRow.base {w : World} {B B' : Nat} {v : Value} {rs : List (List UInt8)} (h : NRow w B v rs) (hB : B' ≤ B) : NRow w B' v rs := by
  obtain ⟨cs, h1, h2⟩ := h
  refine ⟨cs, ⟨h1.1, ?_⟩, h2⟩
  rcases h1.2 with hn | ⟨g, cap, cur, rfl, e1, rest⟩
  · exact .inl hn
  · exact .inr ⟨g, cap, cur, rfl, Nat.le_trans hB e1, rest⟩
theorem NRow.empty (w : World) (B : Nat) (hB : B ≤ w.heap.size) : NRow (w.alloc (.cells #[] 49)) B (.slice (some ⟨w.heap.size, 0, none⟩) 0 0) [] :=
  ⟨[], ⟨rfl, .inr ⟨w.heap.size, 0, #[], rfl, hB, heap_alloc_new w _, Nat.le_refl _, by unfold maxLen; omega, rfl, rfl⟩⟩, fun i r h => by simp at h⟩
theorem NRow.snoc {w w' : World} {B : Nat} {v v' : Value} {rs : List (List UInt8)} {cs : List Value} {Y : List UInt8} {A : Option Addr} {n c : Nat} (h1 : w'.ownsRow B 49 1 v' (rs.length + 1) (cs ++ [.slice A n c])) (hl : cs.length = rs.length * 1)
    (h2 : ∀ (i : Nat) (r : List UInt8), rs[i]? = some r → ∃ (A : Option Addr) (c : Nat), cs[i]? = some (.slice A r.length c) ∧ r.length ≤ c ∧ c ≤ maxLen ∧ Bs w w.heap.size A r ∧ ∀ a : Addr, A = some a → 0 < r.length → v.ownBlock ≠ some a.block)
    (hg : w.grownBy w' v.ownBlock) (hp : v'.ownBlock = v.ownBlock ∨ v'.ownBlock = some w.heap.size) (hn : Y.length = n) (hc : n ≤ c) (hm : c ≤ maxLen) (hb : Bs w w.heap.size A Y) (ha : ∀ a : Addr, A = some a → 0 < Y.length → v.ownBlock ≠ some a.block) : NRow w' B v' (rs ++ [Y]) := by
  have keep : ∀ (A : Option Addr) (r : List UInt8), Bs w w.heap.size A r → (∀ a : Addr, A = some a → 0 < r.length → v.ownBlock ≠ some a.block) → Bs w' w'.heap.size A r ∧ ∀ a : Addr, A = some a → 0 < r.length → v'.ownBlock ≠ some a.block := by
    intro A r hb ha
    refine ⟨fun hp0 => ?_, fun a e h0 => ?_⟩
    · obtain ⟨b, off, e, hlt, hcell⟩ := hb hp0
      refine ⟨b, off, e, Nat.lt_of_lt_of_le hlt hg.size, fun j hj => ?_⟩
      rw [← hcell j hj]
      exact World.cell?_of_block (hg.block b hlt (fun e2 => ha _ e hp0 e2.symm))
    · rcases hp with hp | hp
      · rw [hp]; exact ha a e h0
      · rw [hp]
        obtain ⟨b, off, e2, hlt, _⟩ := hb h0
        rw [e] at e2
        injection e2 with e2
        subst e2
        intro e3
        injection e3 with e3
        simp only at e3
        omega
  subst hn
  refine ⟨cs ++ [.slice A Y.length c], by rw [List.length_append]; exact h1, fun i r hr => ?_⟩
  by_cases hi : i < rs.length
  · rw [List.getElem?_append_left hi] at hr
    obtain ⟨A', c', k1, k2, k3, k4, k5⟩ := h2 i r hr
    obtain ⟨q1, q2⟩ := keep A' r k4 k5
    exact ⟨A', c', by rw [List.getElem?_append_left (List.getElem?_eq_some_iff.1 k1).1]; exact k1, k2, k3, q1, q2⟩
  · have hlt := (List.getElem?_eq_some_iff.1 hr).1
    simp at hlt
    have hi2 : i = rs.length := by omega
    subst hi2
    rw [List.getElem?_append_right (Nat.le_refl _)] at hr
    simp at hr
    subst hr
    obtain ⟨q1, q2⟩ := keep A Y hb ha
    exact ⟨A, c, by rw [List.getElem?_append_right (by omega)]; simp [hl], hc, hm, q1, q2⟩
theorem NRow.rows {w : World} {B : Nat} {v : Value} {rs : List (List UInt8)} (h : NRow w B v rs) : ∃ A c, v = .slice A rs.length c ∧ rs.length ≤ c ∧ c ≤ maxLen ∧ RowsAt w w.heap.size A rs := by
  obtain ⟨cs, h1, h2⟩ := h
  rcases h1.2 with ⟨rfl, hn⟩ | ⟨g, cap, cur, rfl, e1, hg, e2, e3, e4, e5⟩
  · exact ⟨none, 0, by rw [hn], by omega, by unfold maxLen; omega, fun hp => by omega⟩
  · refine ⟨_, cap, rfl, e2, e3, fun hp => ⟨g, 0, rfl, (Array.getElem?_eq_some_iff.1 hg).1, fun i hi => ?_⟩⟩
    obtain ⟨A, c, k1, k2, k3, k4, _⟩ := h2 i (rs[i]'hi) (List.getElem?_eq_getElem hi)
    have hgd : rs.getD i [] = rs[i] := by simp [List.getD, hi]
    rw [hgd]
    refine ⟨A, c, ?_, k2, k3, k4⟩
    rw [← e5] at k1
    have hlt := (List.getElem?_eq_some_iff.1 k1).1
    rw [List.length_take] at hlt
    rw [List.getElem?_take_of_lt (by omega)] at k1
    rw [cell_of_row w g _ cur 49 (0, 0) hg, Nat.zero_add]
    simpa using k1

end Go.Proofs.Ytccccpadnaocfaa

namespace Go.Proofs.Ytccccpadnaocfaa
open Go.RowKit
set_option linter.unusedVariables false
set_option linter.unusedSimpArgs false

theorem owns_emptyN (w : World) (B : Nat) (hB : B ≤ w.heap.size) : Owns (w.alloc (.cells #[] 5)) B 5 (.slice (some ⟨w.heap.size, 0, none⟩) 0 0) [] :=
  ⟨rfl, .inr ⟨w.heap.size, 0, #[], rfl, hB, heap_alloc_new w _, Nat.le_refl _, by unfold maxLen; omega, rfl, rfl⟩⟩
theorem byteInfoN : (Try.prog.info? 5).map (fun i => (i.zero, i.size, i.bytes)) = some (some (.int .u8 0), 1, 1) := by kernel_rfl

set_option maxHeartbeats 8000000 in
set_option maxRecDepth 100000 in
theorem r10root_at (bs : List (List UInt8)) (n c b off : Nat) (RL : List Value) (w : World) (hn : bs.length = n) (hn6 : n ≤ 65536) (hc : n ≤ c) (hcm : c ≤ 9223372036854775807) (h48 : ∀ s ∈ bs, s.length = 48) (hb : b < w.heap.size)
    (hr : ∀ i, i < n → w.rangeAt b (off + i * 48) (Lib.byteCells (bs.getD i []))) (hRL : RL = Lib.byteCells (rootF bs)) :
    Calls Try.prog 15 #[.slice (some ⟨b, off, none⟩) n c] w fun e w' => e = .returned (.agg RL.toArray) ∧ Below w.heap.size w w' := by
  obtain ⟨i0, hi, hi0, hi1, hi2⟩ := info_parts byteInfoN
  obtain ⟨j0, hj, hz0, hz1, hz2⟩ := info_parts rowAllI
  obtain ⟨W, hW⟩ : ∃ W, W = w.alloc (.cells (Lib.byteCells zeros).toArray 29) := ⟨_, rfl⟩
  have hR : Arr W w.heap.size 29 (Lib.byteCells zeros) := by rw [hW]; exact Arr.new w _ _
  have hB : Below w.heap.size w W := by rw [hW]; exact (Below.refl _ w).alloc (Nat.le_refl _) _
  obtain ⟨V, hV⟩ : ∃ V, V = W.alloc (.cells #[] 49) := ⟨_, rfl⟩
  have hG : NRow V W.heap.size (.slice (some ⟨W.heap.size, 0, none⟩) 0 0) (bs.take 0) := by rw [hV]; exact NRow.empty W _ (Nat.le_refl _)
  have hbV : Below W.heap.size W V := by rw [hV]; exact (Below.refl _ W).alloc (Nat.le_refl _) _
  obtain ⟨g, hg⟩ : ∃ g, g = W.heap.size := ⟨_, rfl⟩
  rw [← hg] at hG hbV
  have hwg : w.heap.size < g := by rw [hg]; exact hR.lt
  have hgW : g ≤ W.heap.size := by omega
  have hrl : RL.length = 32 := by rw [hRL, Lib.byteCells_length, rootF_length]
  have HI := Lib.hid (show (Try.prog.info? 29).map (·.size) = some RL.toArray.size by rw [List.size_toArray, hrl]; exact digInfo)
  have HS := Lib.hid (show (Lib.byteCells zeros).toArray.size = RL.toArray.size by rw [List.size_toArray, List.size_toArray, hrl]; rfl)
  have H1 := Lib.hid (show RL.toArray.all (·.oneCell') = true by rw [hRL]; exact dig_one _)
  have HRL := Lib.hid hRL
  have HW := Lib.hid hW
  have HV := Lib.hid hV
  have Hg := Lib.hid hg
  have Hn := Lib.hid hn
  clear hW hV hg hRL hn
  go_enter Try.func15, Try.ntmps15
  go_upto_region 1 with fail
  change Code.wp _ _ _ _ (w.alloc (.cells (Lib.byteCells zeros).toArray 29))
  rw [← HW.out]
  clear HW
  go_upto_region 2 with fail
  change Code.wp _ _ _ _ (W.alloc (.cells #[] 49))
  rw [← HV.out, ← Hg.out]
  clear HV Hg
  go_wp2_with fail
  go_loopw [3, 4] (fun v x wr => ∃ i : Nat, i ≤ n ∧ x = .int .i64 i ∧ NRow wr g v (bs.take i) ∧ Below g W wr) (fun _ x _ => n - (intOf x).toNat)
  case atStart => exact ⟨0, by omega, rfl, hG, hbV⟩
  case round =>
    clear hG
    obtain ⟨i, hle, rfl, hGi, hO⟩ := hrel
    obtain ⟨wq, hwq⟩ : ∃ x, x = wr := ⟨_, rfl⟩
    subst hwq
    have hbq : Below w.heap.size w wq := hB.trans (hO.mono (Nat.le_of_lt hwg))
    have hgq : g ≤ wq.heap.size := Nat.le_trans hgW hO.size
    by_cases hlt : i < n
    · have hd : decide ((i : Int) < (n : Int)) = true := by simp; exact hlt
      have hdn : decide (i < n) = true := by simp; exact hlt
      have hl48 : (bs.getD i []).length = 48 := h48 _ (by simp [List.getD, show i < bs.length by rw [Hn.out]; exact hlt])
      have hrq : Bs wq wq.heap.size (some ⟨b, off + i * 48, none⟩) (bs.getD i []) := rangeAt_bs (Nat.lt_of_lt_of_le hb hbq.size) (fun k v hv => (hbq.cell (p := ⟨b, _, none⟩) hb).trans (hr i hlt k v hv))
      obtain ⟨Y, hY⟩ : ∃ Y, Y = bs.getD i [] := ⟨_, rfl⟩
      rw [← hY] at hl48 hrq
      have HY := Lib.hid hY
      have htake := Lib.hid (show bs.take i ++ [Y] = bs.take (i + 1) by rw [hY, List.take_succ_eq_append_getElem (by rw [Hn.out]; exact hlt)]; simp [List.getD, show i < bs.length by rw [Hn.out]; exact hlt])
      clear hY
      go_wp2_with (at_builtin; refine wpList_append_bs rfl _ _ 49 rfl wq.heap.size 5 i0 (.int .u8 0) Try.underlying49 hi hi0 hi1 hi2 rfl (.slice (some ⟨wq.heap.size, 0, none⟩) 0 0) [] rfl (owns_emptyN wq wq.heap.size (Nat.le_refl _)) wq.heap.size (some ⟨b, off + i * 48, none⟩) 48 48 Y rfl hl48 (hrq.alloc (Nat.le_refl _) _) (by simp) (by simp) ?_)
      intro v4 w4 hown4 hg4
      have hb4 : Below wq.heap.size wq w4 := ((Below.refl _ wq).alloc (Nat.le_refl _) _).trans (hg4.below (by simp) (fun k hk => by simp only [Value.ownBlock, Option.some.injEq] at hk; omega))
      try rw [List.nil_append] at hown4
      have hlt4 := hown4.lt
      obtain ⟨A4, c4, rfl, h41, h42, hs4⟩ := hown4.slice
      rw [hl48] at h41 ⊢
      have hlto := hGi.lt
      have hap : ∀ a : Addr, A4 = some a → 0 < Y.length → ∀ k, Value.ownBlock _ = some k → k ≠ a.block := fun a ea _ k hk e => by
        have h1 := (hlt4 a.block (by rw [ea]; rfl)).1
        have h2 := (hlto k hk).2
        omega
      have hG4 := hGi.up hb4
      obtain ⟨wl, hwl⟩ : ∃ x, x = w4.alloc (.cells #[.slice A4 48 c4] 49) := ⟨_, rfl⟩
      have hbal : Below w4.heap.size w4 wl := by rw [hwl]; exact (Below.refl _ w4).alloc (Nat.le_refl _) _
      have hGl := hG4.up hbal
      have hsl : Bs wl wl.heap.size A4 Y := (hs4.below hbal (Nat.le_refl _)).more hbal.size
      have hcell : ∀ j u, [Value.slice A4 48 c4][j]? = some u → wl.cell? ((⟨w4.heap.size, 0, none⟩ : Addr).add j) = some u := by rw [hwl]; exact cell_one_new _ _ _
      obtain ⟨cs, hcs1, hcs2⟩ := hGl
      have htl : (bs.take i).length = i := by rw [List.length_take, Hn.out]; omega
      have hO4 : Below g W w4 := hO.trans (hb4.mono hgq)
      have hOl : Below g W wl := hO4.trans (hbal.mono (Nat.le_trans hgq hb4.size))
      have Hwl := Lib.hid hwl
      have Htl := Lib.hid htl
      rw [htl] at hcs1
      have hgl : g ≤ wl.heap.size := Nat.le_trans hgW hOl.size
      clear hwl hown4 hg4 hb4 hbal hGi hG4 hs4 hrq hO hO4 htl
      go_wp2_with (at_builtin; refine wpList_append_own_at _ rfl _ _ 74 rfl g 49 j0 (.slice none 0 0) 1 24 Try.underlying74 hj hz0 hz1 hz2 rfl (by decide) _ i cs rfl (by rw [Hwl.out] at hcs1; exact hcs1) ⟨w4.heap.size, 0, none⟩ 1 1 [Value.slice A4 48 c4] rfl rfl (by rw [Hwl.out] at hcell; exact hcell) (by intro u hu; simp at hu; subst hu; rfl) (by unfold maxLen; omega) (by omega) (by rw [Hwl.out] at hgl; exact hgl) ?_)
      intro v' w1 hown' hgrow _ hplace
      rw [← Hwl.out] at hgrow
      have hzl : wl.heap.size = w4.heap.size + 1 := by rw [Hwl.out]; simp
      first | rw [← hzl] at hplace | rw [← Hwl.out] at hplace
      have hltl := World.ownsRow.lt hcs1
      have hN1 := NRow.snoc (w := wl) (rs := bs.take i) (by rw [Htl.out]; exact hown') (by rw [Htl.out]; exact hcs1.1) hcs2 hgrow hplace hl48 h41 h42 hsl (fun a ea h e => hap a ea h a.block e rfl)
      have hb1 : Below g W w1 := hOl.trans ((Below.refl _ wl).grown hgrow hgl (fun k hk => (hltl k hk).1))
      rw [htake.out] at hN1
      clear hown' hgrow hplace hltl hcs1 hcs2 hsl hOl hap hcell
      go_wp2_with fail
      go_roundw
      case rel => exact ⟨i + 1, by omega, by go_num, hN1, hb1⟩
      case measure => simp [intOf]; omega
    · obtain rfl : i = n := by omega
      have hd : decide ((i : Int) < (i : Int)) = false := by simp
      have hdn : decide (i < i) = false := by simp
      have hRq : Arr wq w.heap.size 29 (Lib.byteCells zeros) := hR.below hO hwg
      have hti : bs.take i = bs := by rw [List.take_of_length_le]; rw [Hn.out]; exact Nat.le_refl _
      rw [hti] at hGi
      obtain ⟨A, cc, rfl, hc1, hc2, hrows⟩ := hGi.rows
      rw [Hn.out] at hc1 ⊢
      have hcc : cc ≤ 9223372036854775807 := by unfold maxLen at hc2; exact hc2
      clear hti
      go_wp2_with fail
      go_at_call 35
      refine Calls.mono (rroot_at bs RL A i cc wq Hn.out HRL.out (by omega) hc1 hcc (fun r hr => by have := h48 r hr; omega) hrows) ?_
      rintro e w5 ⟨rfl, hb5⟩
      have hR5 := Lib.hid (hRq.below hb5 hRq.lt)
      have hB5 := hbq.trans (hb5.mono hbq.size)
      clear hRq hb5 hrows hbq
      go_wp2_with (first
        | (refine wpList_store_row rfl _ _ _ rfl w.heap.size RL.toArray rfl rfl 29 (Lib.byteCells zeros).toArray hR5.out HI.out HS.out H1.out ?_))
      have hset : Arr (w5.setRow w.heap.size RL.toArray) w.heap.size 29 RL := Arr.setRow hR5.out RL
      have hfin : Below w.heap.size w (w5.setRow w.heap.size RL.toArray) := hB5.trans (((Only.refl (fun k => k = w.heap.size) w5).setRow (.inl rfl) RL.toArray).below hB5.size (by rintro k rfl; exact Nat.le_refl _))
      exact bodyPost_ret (v := .agg RL.toArray) (results_cell_row (by rfl) _ _ w.heap.size 29 RL.toArray (0, 0) _ (by rfl) hset Try.underlying29 rfl HI.out) rfl ⟨rfl, hfin⟩


end Go.Proofs.Ytccccpadnaocfaa

namespace Go.Proofs.Ytccccpadnaocfaa
open Go.RowKit Go.ChangeShapes Go.WideShapes
set_option linter.unusedVariables false
set_option maxRecDepth 100000

/-- Sectors in memory, one behind the other. -/
def BsAt (w : World) (A : Option Addr) (ds : List (List UInt8)) : Prop :=
  0 < ds.length → ∃ b off, A = some ⟨b, off, none⟩ ∧ b < w.heap.size ∧ ∀ i, i < ds.length → (ds.getD i []).length = 48 ∧ w.rangeAt b (off + i * 48) (Lib.byteCells (ds.getD i []))

theorem blk_cellsN {H : Type} {enc : TypeId × Value → H} {W : World} {base : Nat} {sp : Nat → Bool} {held : Bool} {m : Nat} {cs : List Value} {x : DataW H × List MemPlace} (hl : cs.length = 48) (h : DataW.trod enc Try.prog W base sp held m 40 cs = some x) : ∃ l : List UInt8, l.length = 48 ∧ cs = Lib.byteCells l := by
  have hr : ∃ l : List UInt8, l.length = 48 ∧ (.agg cs.toArray : Value) = digV l := by
    obtain ⟨xs, m', _, _, hlen, hn, hel⟩ := DataW.trod_array Try.underlying40 h
    have hc1 : Try.prog.cellsOf 5 = 1 := by kernel_rfl
    have hall : ∀ i, i < 48 → ∃ b : UInt8, cs[i]? = some (.int .u8 (b.toNat : Nat)) := by
      intro i hi
      have h1 := hel i hi
      rw [hc1, Nat.mul_one] at h1
      have hx : xs[i]? = some (xs[i]'(by omega)) := List.getElem?_eq_getElem (by omega)
      rw [hx] at h1
      have hd : ((cs.drop i).take 1) = [cs[i]'(by omega)] := by rw [List.drop_eq_getElem_cons (by omega)]; rfl
      rw [hd] at h1
      obtain ⟨k, e, _, hw⟩ := DataW.trod_int Try.underlying5 h1
      have hb := bounds_u8 hw
      simp only [List.cons.injEq, and_true] at e
      refine ⟨k.toNat.toUInt8, ?_⟩
      rw [List.getElem?_eq_getElem (by omega), e, Lib.toUInt8_toNat (by omega), Int.toNat_of_nonneg hb.1]
    have hch : ∃ f : Nat → UInt8, ∀ i, i < 48 → cs[i]? = some (.int .u8 ((f i).toNat : Nat)) := by
      classical
      refine ⟨fun i => if hi : i < 48 then Classical.choose (hall i hi) else 0, fun i hi => ?_⟩
      simp only [dif_pos hi]
      exact Classical.choose_spec (hall i hi)
    obtain ⟨f, hf2⟩ := hch
    refine ⟨(List.range 48).map f, by simp, ?_⟩
    unfold digV
    congr 2
    apply List.ext_getElem?
    intro i
    by_cases hi : i < 48
    · rw [hf2 i hi]
      simp [Lib.byteCells, hi]
    · rw [List.getElem?_eq_none (by omega), List.getElem?_eq_none (by simp [Lib.byteCells]; omega)]
  obtain ⟨l, h1, h2⟩ := hr
  refine ⟨l, h1, ?_⟩
  unfold digV at h2
  injection h2 with h2
  simpa using congrArg Array.toList h2

theorem blks_arg {H : Type} {enc : TypeId × Value → H} {W : World} {A : Option Addr} {len cap : Nat} {d : DataW H} {p : List MemPlace} (h : DataW.Trod enc Try.prog W 0 (fun _ => true) true 22 (.slice A len cap) d p) :
    ∃ ds : List (List UInt8), ds.length = len ∧ len ≤ cap ∧ cap ≤ maxLen ∧ BsAt W A ds := by
  obtain ⟨fuel, hf⟩ := h
  rcases Go.Deep.open_slice Try.underlying22 hf with ⟨h0, _⟩ | ⟨a, len', cap', m, n, D, Pl, hcs, _, hl, hm, hmm, _, hi⟩
  · simp [Value.cells] at h0
    obtain ⟨rfl, rfl, rfl⟩ := h0
    exact ⟨[], rfl, Nat.le_refl _, by unfold maxLen; omega, fun h => absurd h (by simp)⟩
  · simp [Value.cells] at hcs
    obtain ⟨rfl, rfl, rfl⟩ := hcs
    have hC : Try.prog.cellsOf 40 = 48 := by kernel_rfl
    have hle : len ≤ m := by rw [hmm]; split <;> omega
    have hall : ∀ i, i < len → ∃ l : List UInt8, l.length = 48 ∧ ∀ j v, (Lib.byteCells l)[j]? = some v → W.cell? (a.add (i * 48 + j)) = some v := by
      intro i him
      obtain ⟨cs', hc, ht'⟩ := hi i (by omega)
      rw [hC] at hc
      obtain ⟨_, hcl, hat⟩ := World.cells?_some hc
      obtain ⟨l, hl48, rfl⟩ := blk_cellsN hcl ht'
      refine ⟨l, hl48, fun j v hj => ?_⟩
      have hj48 : j < 48 := by have := (List.getElem?_eq_some_iff.1 hj).1; rw [Lib.byteCells_length] at this; omega
      have h0 := hat j hj48
      rw [Go.Deep.add_add] at h0
      rw [h0, hj]
    have hch : ∃ f : Nat → List UInt8, ∀ i, i < len → (f i).length = 48 ∧ ∀ j v, (Lib.byteCells (f i))[j]? = some v → W.cell? (a.add (i * 48 + j)) = some v := by
      classical
      refine ⟨fun i => if hi : i < len then Classical.choose (hall i hi) else [], fun i hi => ?_⟩
      simp only [dif_pos hi]
      exact Classical.choose_spec (hall i hi)
    clear hall
    obtain ⟨f, hf2⟩ := hch
    refine ⟨(List.range len).map f, by simp, hl, hm, fun hp => ?_⟩
    have hp' : 0 < len := by simpa using hp
    obtain ⟨b, off, spot⟩ := a
    obtain ⟨h48, hc0⟩ := hf2 0 hp'
    have hc00 := hc0 0 _ (byteCells_get (l := f 0) (j := 0) (by omega))
    have hspot : spot = none := by simpa [Addr.add] using World.cell?_spot hc00
    subst hspot
    refine ⟨b, off, rfl, World.block_lt_of_cell? W _ (by simpa [Addr.add] using hc00), fun i hi => ?_⟩
    have hi' : i < len := by simpa using hi
    have hg : ((List.range len).map f).getD i [] = f i := by simp [List.getD, hi']
    rw [hg]
    refine ⟨(hf2 i hi').1, fun j v hj => ?_⟩
    have h1 := (hf2 i hi').2 j v hj
    have hadd : (⟨b, off, none⟩ : Addr).add (i * 48 + j) = ⟨b, off + i * 48 + j, none⟩ := by unfold Addr.add; split <;> simp_all <;> omega
    rwa [hadd] at h1

theorem dig_cellsN {H : Type} {enc : TypeId × Value → H} {W : World} {base : Nat} {sp : Nat → Bool} {held : Bool} {m : Nat} {cs : List Value} {x : DataW H × List MemPlace} (hl : cs.length = 32) (h : DataW.trod enc Try.prog W base sp held m 29 cs = some x) : ∃ l : List UInt8, l.length = 32 ∧ cs = Lib.byteCells l := by
  have hr : ∃ l : List UInt8, l.length = 32 ∧ (.agg cs.toArray : Value) = digV l := by
    obtain ⟨xs, m', _, _, hlen, hn, hel⟩ := DataW.trod_array Try.underlying29 h
    have hc1 : Try.prog.cellsOf 5 = 1 := by kernel_rfl
    have hall : ∀ i, i < 32 → ∃ b : UInt8, cs[i]? = some (.int .u8 (b.toNat : Nat)) := by
      intro i hi
      have h1 := hel i hi
      rw [hc1, Nat.mul_one] at h1
      have hx : xs[i]? = some (xs[i]'(by omega)) := List.getElem?_eq_getElem (by omega)
      rw [hx] at h1
      have hd : ((cs.drop i).take 1) = [cs[i]'(by omega)] := by rw [List.drop_eq_getElem_cons (by omega)]; rfl
      rw [hd] at h1
      obtain ⟨k, e, _, hw⟩ := DataW.trod_int Try.underlying5 h1
      have hb := bounds_u8 hw
      simp only [List.cons.injEq, and_true] at e
      refine ⟨k.toNat.toUInt8, ?_⟩
      rw [List.getElem?_eq_getElem (by omega), e, Lib.toUInt8_toNat (by omega), Int.toNat_of_nonneg hb.1]
    have hch : ∃ f : Nat → UInt8, ∀ i, i < 32 → cs[i]? = some (.int .u8 ((f i).toNat : Nat)) := by
      classical
      refine ⟨fun i => if hi : i < 32 then Classical.choose (hall i hi) else 0, fun i hi => ?_⟩
      simp only [dif_pos hi]
      exact Classical.choose_spec (hall i hi)
    obtain ⟨f, hf2⟩ := hch
    refine ⟨(List.range 32).map f, by simp, ?_⟩
    unfold digV
    congr 2
    apply List.ext_getElem?
    intro i
    by_cases hi : i < 32
    · rw [hf2 i hi]
      simp [Lib.byteCells, hi]
    · rw [List.getElem?_eq_none (by omega), List.getElem?_eq_none (by simp [Lib.byteCells]; omega)]
  obtain ⟨l, h1, h2⟩ := hr
  refine ⟨l, h1, ?_⟩
  unfold digV at h2
  injection h2 with h2
  simpa using congrArg Array.toList h2

theorem int_cellN {H : Type} {enc : TypeId × Value → H} {W : World} {base : Nat} {sp : Nat → Bool} {held : Bool} {v : Value} {y : DataW H × List MemPlace} {n : Nat} (h : DataW.trod enc Try.prog W base sp held n 3 [v] = some y) :
    ∃ z, v = .int .i64 z ∧ -9223372036854775808 ≤ z ∧ z ≤ 9223372036854775807 := by
  obtain ⟨z, hcs, _, hw⟩ := DataW.trod_int Try.underlying3 h
  simp at hcs
  exact ⟨z, hcs, bounds_i64 hw⟩

theorem bin_open {H : Type} {enc : TypeId × Value → H} {W : World} {r : Reach} {b0 base : Nat} {sp : Nat → Bool} {held : Bool} {v : Value} {d : DataW H} {p : List MemPlace}
    (hv : Value.okWide Try.prog W r b0 31 v) (h : DataW.Trod enc Try.prog W base sp held 31 v d p) :
    ∃ (l : List UInt8) (x a n : Int), l.length = 32 ∧ (-9223372036854775808 ≤ x ∧ x ≤ 9223372036854775807) ∧ (-9223372036854775808 ≤ a ∧ a ≤ 9223372036854775807) ∧ (-9223372036854775808 ≤ n ∧ n ≤ 9223372036854775807) ∧ v = .agg (binC x a n l).toArray := by
  have hT := Try.underlying31
  obtain ⟨cs0, rfl, hsz, _⟩ : ∃ cs, v = .agg cs ∧ cs.size = Try.prog.cellsOf 31 ∧ Row.okWide Try.prog W r b0 31 cs := by
    simpa [Value.okWide, hT] using hv
  obtain ⟨fuel, hf⟩ := h
  have hC : Try.prog.cellsOf 31 = 35 := by kernel_rfl
  rw [hC] at hsz
  obtain ⟨cs⟩ := cs0
  have hl : cs.length = 35 := hsz
  obtain ⟨ys, n', _, _, hlen, hyl, hff⟩ := DataW.trod_struct Try.underlying31 hf
  have hcs : (Value.agg cs.toArray).cells.toList = cs := by simp [Value.cells]
  have g : ∀ j (hj : j < ys.length), ys[j]? = some (ys[j]) := fun j hj => List.getElem?_eq_getElem hj
  have hy3 : ys.length = 4 := hyl
  have c0 : DataW.trod enc Try.prog W base sp held n' 3 ((cs.drop 0).take (Try.prog.cellsOf 3)) = ys[0]? := hcs ▸ hff 0 _ rfl
  have c1 : DataW.trod enc Try.prog W base sp held n' 3 ((cs.drop 1).take (Try.prog.cellsOf 3)) = ys[1]? := hcs ▸ hff 1 _ rfl
  have c2 : DataW.trod enc Try.prog W base sp held n' 3 ((cs.drop 2).take (Try.prog.cellsOf 3)) = ys[2]? := hcs ▸ hff 2 _ rfl
  have c3 : DataW.trod enc Try.prog W base sp held n' 29 ((cs.drop 3).take (Try.prog.cellsOf 29)) = ys[3]? := hcs ▸ hff 3 _ rfl
  have k1 : Try.prog.cellsOf 3 = 1 := by kernel_rfl
  have k32 : Try.prog.cellsOf 29 = 32 := by kernel_rfl
  rw [k1, g 0 (by omega), show (cs.drop 0).take 1 = [cs[0]'(by omega)] by rw [List.drop_eq_getElem_cons (by omega)]; rfl] at c0
  rw [k1, g 1 (by omega), show (cs.drop 1).take 1 = [cs[1]'(by omega)] by rw [List.drop_eq_getElem_cons (by omega)]; rfl] at c1
  rw [k1, g 2 (by omega), show (cs.drop 2).take 1 = [cs[2]'(by omega)] by rw [List.drop_eq_getElem_cons (by omega)]; rfl] at c2
  rw [k32, g 3 (by omega)] at c3
  obtain ⟨x, e0, hx⟩ := int_cellN c0
  obtain ⟨a, e1, ha⟩ := int_cellN c1
  obtain ⟨n, e2, hn⟩ := int_cellN c2
  obtain ⟨l, h32, e3⟩ := dig_cellsN (by rw [List.length_take, List.length_drop]; omega) c3
  refine ⟨l, x, a, n, h32, hx, ha, hn, ?_⟩
  congr 2
  unfold binC
  rw [← e0, ← e1, ← e2, ← e3, List.take_of_length_le (by rw [List.length_drop]; omega)]
  conv => lhs; rw [← List.drop_zero (l := cs), List.drop_eq_getElem_cons (by omega), List.drop_eq_getElem_cons (by omega), List.drop_eq_getElem_cons (by omega)]

end Go.Proofs.Ytccccpadnaocfaa

namespace Go.Proofs.Ytccccpadnaocfaa
open Go.RowKit
set_option linter.unusedVariables false
set_option linter.unusedSimpArgs false

theorem blk_eqv (X Y : List UInt8) (hX : X.length = 48) (hY : Y.length = 48) (XL YL : List Value) (hXL : XL = Lib.byteCells X) (hYL : YL = Lib.byteCells Y) (w : World) :
    (Op.equalIn 10000 40 (.agg XL.toArray) (.agg YL.toArray)).run Try.prog w = .ok (decide (X = Y)) w := eqv_at Try.underlying40 X Y hX hY XL YL hXL hYL w
theorem take_next {α : Type} {xs ys : List α} (d : α) {i : Nat} (hx : i < xs.length) (hy : i < ys.length) (h : xs.take i = ys.take i) (he : xs.getD i d = ys.getD i d) : xs.take (i + 1) = ys.take (i + 1) := by
  rw [List.take_succ_eq_append_getElem hx, List.take_succ_eq_append_getElem hy, h]
  simp [List.getD, hx, hy] at he
  rw [he]

set_option maxHeartbeats 8000000 in
set_option maxRecDepth 100000 in
theorem nsame_at (xs ys : List (List UInt8)) (A B : Option Addr) (n c m c' : Nat) (ok : Bool) (w : World) (hx : xs.length = n) (hy : ys.length = m) (hX : BsAt w A xs) (hY : BsAt w B ys) (hc : n ≤ c) (hc2 : m ≤ c') (hcm : c ≤ 9223372036854775807) (hcm2 : c' ≤ 9223372036854775807) (hok : decide (xs = ys) = ok) :
    Calls Try.prog 16 #[.slice A n c, .slice B m c'] w fun e w' => e = .returned (.bool ok) ∧ ∃ nd, w' = w.drewN nd := by
  by_cases hnm : n = m
  · subst hnm
    have hd0 : ((n : Int) == (n : Int)) = true := by simp
    go_enter Try.func16, Try.ntmps16
    go_wp2_with fail
    go_loopw [5] (fun v wr => ∃ i : Nat, i ≤ n ∧ v = .int .i64 i ∧ xs.take i = ys.take i ∧ ∃ nd, wr = w.drewN nd) (fun v _ => n - (intOf v).toNat)
    case atStart => exact ⟨0, by omega, rfl, rfl, 0, rfl⟩
    case round =>
      obtain ⟨i, hi, rfl, htk, nd, rfl⟩ := hrel
      by_cases hlt : i < n
      · have hd : decide ((i : Int) < (n : Int)) = true := by simp; exact hlt
        have hdn : decide (i < n) = true := by simp; exact hlt
        have hiI : (i : Int) < (n : Int) := by omega
        obtain ⟨b, off, rfl, hb, hrx⟩ := hX (by omega)
        obtain ⟨b', off', rfl, hb', hry⟩ := hY (by omega)
        obtain ⟨hx48, hx1⟩ := hrx i (by omega)
        obtain ⟨hy48, hy1⟩ := hry i (by omega)
        obtain ⟨X, hXe⟩ : ∃ X, X = xs.getD i [] := ⟨_, rfl⟩
        obtain ⟨Y, hYe⟩ : ∃ Y, Y = ys.getD i [] := ⟨_, rfl⟩
        rw [← hXe] at hx48 hx1
        rw [← hYe] at hy48 hy1
        obtain ⟨XL, hXL⟩ : ∃ XL, XL = Lib.byteCells X := ⟨_, rfl⟩
        obtain ⟨YL, hYL⟩ : ∃ YL, YL = Lib.byteCells Y := ⟨_, rfl⟩
        obtain ⟨r, hr⟩ : ∃ r, decide (X = Y) = r := ⟨_, rfl⟩
        have hcmp : ∀ w, (Op.equalIn 10000 40 (.agg XL.toArray) (.agg YL.toArray)).run Try.prog w = .ok r w := fun w => by
          rw [blk_eqv X Y hx48 hy48 XL YL hXL hYL w, hr]
        have HXn := Lib.hid (show (Try.prog.info? 40).map (·.size) = some XL.length by rw [hXL, Lib.byteCells_length, hx48]; exact blkInfo)
        have HYn := Lib.hid (show (Try.prog.info? 40).map (·.size) = some YL.length by rw [hYL, Lib.byteCells_length, hy48]; exact blkInfo)
        rw [← hXL] at hx1
        rw [← hYL] at hy1
        have hgt := gtBN
        have hx2 : ((w.drewN nd).drew).rangeAt b (off + i * 48) XL := hx1
        have hy2 : ((w.drewN nd).drew).rangeAt b' (off' + i * 48) YL := hy1
        have Hr := Lib.hid hr
        have HXe := Lib.hid hXe
        have HYe := Lib.hid hYe
        have Hok := Lib.hid hok
        clear hXL hYL hr hXe hYe hrx hry hx1 hy1 hok
        go_wp2_with fail
        refine wp_region_held_drew (S := fun w' => w'.rangeAt b (off + i * 48) XL ∧ w'.rangeAt b' (off' + i * 48) YL) (by kernel_rfl) ⟨hx2, hy2⟩ (fun hHeld => ?_)
        refine anyH_take (i := 0) (v := .slice (some ⟨b, off, none⟩) n c) (some 17) rfl rfl (by kernel_rfl) (by kernel_rfl) (by kernel_rfl) (fun _ _ _ h => h) (Or.inl ⟨by rfl, fun w' hw' => by go_simp⟩) (by assumption) ?_
        simp only [Act.put, List.setIfInBounds_toArray, List.set_cons_zero, List.set_cons_succ]
        refine anyH_take (i := 1) (v := .int .i64 (i : Nat)) (some 18) rfl rfl (by kernel_rfl) (by kernel_rfl) (by kernel_rfl) (fun _ _ _ h => h) (Or.inl ⟨by rfl, fun w' hw' => by go_simp⟩) (by assumption) ?_
        simp only [Act.put, List.setIfInBounds_toArray, List.set_cons_zero, List.set_cons_succ]
        refine anyH_take (i := 2) (v := .pointer (some ⟨b, off + i * 48, none⟩)) (some 19) rfl rfl (by kernel_rfl) (by kernel_rfl) (by kernel_rfl) (fun _ _ _ h => h) (Or.inl ⟨by rfl, fun w' hw' => by go_simp⟩) (by assumption) ?_
        simp only [Act.put, List.setIfInBounds_toArray, List.set_cons_zero, List.set_cons_succ]
        refine anyH_take (i := 3) (some 20) rfl rfl (by kernel_rfl) (by kernel_rfl) (by kernel_rfl) (fun _ _ _ h => h) (yieldsIf_load_mid (by rfl) 40 (.tmp 19) rfl b (off + i * 48) rfl XL _ (fun _ h => h.1) Try.underlying40 rfl HXn.out) (by assumption) ?_
        simp only [Act.put, List.setIfInBounds_toArray, List.set_cons_zero, List.set_cons_succ]
        refine anyH_take (i := 4) (v := .slice (some ⟨b', off', none⟩) n c') (some 21) rfl rfl (by kernel_rfl) (by kernel_rfl) (by kernel_rfl) (fun _ _ _ h => h) (Or.inl ⟨by rfl, fun w' hw' => by go_simp⟩) (by assumption) ?_
        simp only [Act.put, List.setIfInBounds_toArray, List.set_cons_zero, List.set_cons_succ]
        refine anyH_take (i := 5) (v := .int .i64 (i : Nat)) (some 22) rfl rfl (by kernel_rfl) (by kernel_rfl) (by kernel_rfl) (fun _ _ _ h => h) (Or.inl ⟨by rfl, fun w' hw' => by go_simp⟩) (by assumption) ?_
        simp only [Act.put, List.setIfInBounds_toArray, List.set_cons_zero, List.set_cons_succ]
        refine anyH_take (i := 6) (v := .pointer (some ⟨b', off' + i * 48, none⟩)) (some 23) rfl rfl (by kernel_rfl) (by kernel_rfl) (by kernel_rfl) (fun _ _ _ h => h) (Or.inl ⟨by rfl, fun w' hw' => by go_simp⟩) (by assumption) ?_
        simp only [Act.put, List.setIfInBounds_toArray, List.set_cons_zero, List.set_cons_succ]
        refine anyH_take (i := 7) (some 24) rfl rfl (by kernel_rfl) (by kernel_rfl) (by kernel_rfl) (fun _ _ _ h => h) (yieldsIf_load_mid (by rfl) 40 (.tmp 23) rfl b' (off' + i * 48) rfl YL _ (fun _ h => h.2) Try.underlying40 rfl HYn.out) (by assumption) ?_
        simp only [Act.put, List.setIfInBounds_toArray, List.set_cons_zero, List.set_cons_succ]
        refine wpAnyH_ready (rs := [8]) (by kernel_rfl) (by simp) ?_
        refine AllReadyH.cons rfl (fun K hK => ?_) AllReadyH.nil
        go_simp
        refine hK.out _ _ ⟨hx2, hy2⟩ (fun hHeld => ?_)
        clear hK K
        try simp only [Act.put, List.setIfInBounds_toArray, List.set_cons_zero, List.set_cons_succ]
        cases r
        · have hne : ok = false := by
            rw [← Hok.out]
            rw [decide_eq_false_iff_not]
            intro e
            have := Hr.out
            rw [HXe.out, HYe.out, e] at this
            simp at this
          subst hne
          refine wpAnyH_done (by kernel_rfl) ?_ _
          go_wp2_with fail
          go_ret
          exact ⟨rfl, nd + 1, rfl⟩
        · have he : xs.getD i [] = ys.getD i [] := by rw [← HXe.out, ← HYe.out]; exact of_decide_eq_true Hr.out
          refine wpAnyH_done (by kernel_rfl) ?_ _
          go_wp2_with fail
          go_roundw
          case rel => exact ⟨i + 1, by omega, by go_num, take_next [] (by omega) (by omega) htk he, nd + 1, rfl⟩
          case measure => simp [intOf]; omega
      · obtain rfl : i = n := by omega
        have hd : decide ((i : Int) < (i : Int)) = false := by simp
        have hdn : decide (i < i) = false := by simp
        have hxy : xs = ys := by rw [← List.take_of_length_le (Nat.le_of_eq hx), htk, List.take_of_length_le (Nat.le_of_eq hy)]
        have hok2 : ok = true := by rw [← hok]; simp [hxy]
        subst hok2
        clear hxy htk hok
        go_wp2_with fail
        go_ret
        exact ⟨rfl, nd, rfl⟩
  · have hd0 : ((n : Int) == (m : Int)) = false := by rw [beq_eq_false_iff_ne]; omega
    have hok2 : ok = false := by
      rw [← hok, decide_eq_false_iff_not]
      intro e
      rw [e] at hx
      omega
    subst hok2
    clear hok
    go_enter Try.func16, Try.ntmps16
    go_wp2_with fail
    go_ret
    exact ⟨rfl, 0, rfl⟩

theorem nsame_below (xs ys : List (List UInt8)) (A B : Option Addr) (n c m c' : Nat) (ok : Bool) (w : World) (hx : xs.length = n) (hy : ys.length = m) (hX : BsAt w A xs) (hY : BsAt w B ys) (hc : n ≤ c) (hc2 : m ≤ c') (hcm : c ≤ 9223372036854775807) (hcm2 : c' ≤ 9223372036854775807) (hok : decide (xs = ys) = ok) :
    Calls Try.prog 16 #[.slice A n c, .slice B m c'] w fun e w' => e = .returned (.bool ok) ∧ Below w.heap.size w w' :=
  (nsame_at xs ys A B n c m c' ok w hx hy hX hY hc hc2 hcm hcm2 hok).mono fun e w' ⟨h, k, e'⟩ => ⟨h, e' ▸ Below.dN (Below.refl _ _) k⟩
theorem Arr.bsAt {w : World} {g : Nat} {T : TypeId} {bs : List (List UInt8)} (h : Arr w g T (blkC bs)) (h48 : ∀ s ∈ bs, s.length = 48) : BsAt w (some ⟨g, 0, none⟩) bs := fun _ =>
  ⟨g, 0, rfl, h.lt, fun i hi => ⟨h48 _ (by simp [List.getD, hi]), fun j v hj => by rw [Nat.zero_add, h.cell]; exact blkC_at h48 hi j v hj⟩⟩


end Go.Proofs.Ytccccpadnaocfaa

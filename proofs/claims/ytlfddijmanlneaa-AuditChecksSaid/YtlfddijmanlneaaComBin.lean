/-
  Bins as values, put and taken (cut out of bin's texts).
-/
import Derived.Test.YtlfddijmanlneaaComPut
import Derived.Test.YtlfddijmanlneaaFrom
import Derived.Test.YtlfddijmanlneaaRefNum
namespace Go.Proofs.Ytlfddijmanlneaa
open Go.RowKit
set_option linter.unusedVariables false
set_option linter.unusedSimpArgs false

/-- A bin's cells. -/
def binC (n a c : Int) (d : List UInt8) : List Value := .int .i64 n :: .int .i64 a :: .int .i64 c :: Lib.byteCells d

theorem binC_length (n a c : Int) {d : List UInt8} (h : d.length = 32) : (binC n a c d).length = 35 := by simp [binC, Lib.byteCells_length, h]

theorem binC_cell (n a c : Int) (d : List UInt8) : ∀ v ∈ binC n a c d, v.oneCell' = true := by
  intro v hv
  simp only [binC, List.mem_cons] at hv
  rcases hv with rfl | rfl | rfl | hv
  · rfl
  · rfl
  · rfl
  · exact byteCells_one _ v hv

theorem binSize : (Try.prog.info? 63).map (·.size) = some 35 := by kernel_rfl

def binZ : List Value := binC 0 0 0 (List.replicate 32 0)

theorem bin_built0 : Try.prog.built 63 [] = some binZ.toArray := by kernel_rfl

theorem bin_fill (parts : List (Nat × Value)) : Try.prog.built 63 parts = Instr.fill (#[(0, 1), (1, 1), (2, 1), (3, 32)][·]?) binZ.toArray parts := by kernel_rfl

theorem fill_consN (place : Nat → Option (Nat × Nat)) (cells : Array Value) (x : Nat × Value) (rest : List (Nat × Value)) (c : Array Value) (h : Instr.fill place cells [x] = some c) : Instr.fill place cells (x :: rest) = Instr.fill place c rest := by
  obtain ⟨i, v⟩ := x
  unfold Instr.fill at h ⊢
  cases hp : place i with
  | none => simp [hp] at h
  | some p =>
    obtain ⟨off, n⟩ := p
    simp only [hp] at h ⊢
    split at h
    · cases h
    · rename_i hc
      rw [if_neg hc]
      simp only [Instr.fill] at h
      injection h with h
      rw [h]
      conv => lhs; unfold Instr.fill

theorem bin_built (n a c : Int) (d : List UInt8) (VL : List Value) (hV : VL = Lib.byteCells d) (hd : d.length = 32) : Try.prog.built 63 [(0, .int .i64 n), (1, .int .i64 a), (2, .int .i64 c), (3, .agg VL.toArray)] = some (binC n a c d).toArray := by
  have hl : VL.length = 32 := by rw [hV, Lib.byteCells_length, hd]
  rw [bin_fill]
  have h0 : Instr.fill (#[(0, 1), (1, 1), (2, 1), (3, 32)][·]?) binZ.toArray [(0, .int .i64 n)] = some (binC n 0 0 (List.replicate 32 0)).toArray := rfl
  have h1 : Instr.fill (#[(0, 1), (1, 1), (2, 1), (3, 32)][·]?) (binC n 0 0 (List.replicate 32 0)).toArray [(1, .int .i64 a)] = some (binC n a 0 (List.replicate 32 0)).toArray := rfl
  have h2 : Instr.fill (#[(0, 1), (1, 1), (2, 1), (3, 32)][·]?) (binC n a 0 (List.replicate 32 0)).toArray [(2, .int .i64 c)] = some (binC n a c (List.replicate 32 0)).toArray := rfl
  rw [fill_consN _ _ _ _ _ h0, fill_consN _ _ _ _ _ h1, fill_consN _ _ _ _ _ h2]
  have h3 := fill_mid (#[(0, 1), (1, 1), (2, 1), (3, 32)][·]?) (binC n a c (List.replicate 32 0)).toArray 3 3 VL (by rw [hl]; rfl) (by rw [hl, List.size_toArray, binC_length _ _ _ (by simp)]; omega)
  rw [h3, hl, hV]
  simp [binC, Lib.byteCells]

theorem bin_built1 (n : Int) : Try.prog.built 63 [(0, .int .i64 n)] = some (binC n 0 0 (List.replicate 32 0)).toArray := by rw [bin_fill]; rfl

theorem binC_at (n a c : Int) (d : List UInt8) : (binC n a c d)[0]? = some (.int .i64 n) ∧ (binC n a c d)[1]? = some (.int .i64 a) ∧ (binC n a c d)[2]? = some (.int .i64 c) := ⟨rfl, rfl, rfl⟩

theorem binC_dig (n a c : Int) (d : List UInt8) (j : Nat) (v : Value) (h : (Lib.byteCells d)[j]? = some v) : (binC n a c d)[3 + j]? = some v := by
  rw [show 3 + j = j + 1 + 1 + 1 by omega]
  exact h

theorem binC_set1 (n a c x : Int) (d : List UInt8) : (binC n a c d).set 1 (.int .i64 x) = binC n x c d := rfl

theorem binC_set2 (n a c x : Int) (d : List UInt8) : (binC n a c d).set 2 (.int .i64 x) = binC n a x d := rfl

/-- A whole number, taken modulo 2^64. -/
def uN (a : Int) : Nat := (IntKind.u64.wrap a).toNat
theorem uN_wrap (a : Int) : IntKind.u64.wrap a = ((uN a : Nat) : Int) ∧ uN a < 18446744073709551616 := by
  unfold uN
  have h : IntKind.u64.wrap a = a % 18446744073709551616 := by rw [IntKind.wrap_u64]
  omega
theorem uN_nat {n : Nat} (h : n < 18446744073709551616) : uN (n : Int) = n := by
  unfold uN
  rw [IntWalk.u64_in _ (by omega)]
  simp
/-- A bin as bytes. -/
def binP (n a c : Int) : Nat → List UInt8
  | 0 => []
  | 1 => Lib.uvarint (uN n)
  | 2 => Lib.uvarint (uN n) ++ Lib.uvarint (uN a)
  | _ => Lib.uvarint (uN n) ++ Lib.uvarint (uN a) ++ Lib.uvarint (uN c)
def binB (n a c : Int) (d : List UInt8) : List UInt8 := Lib.uvarint (uN n) ++ Lib.uvarint (uN a) ++ Lib.uvarint (uN c) ++ d
theorem binP_length (n a c : Int) (i : Nat) : (binP n a c i).length ≤ 30 := by
  have e1 := Lib.uvarint_length64 (uN_wrap n).2
  have e2 := Lib.uvarint_length64 (uN_wrap a).2
  have e3 := Lib.uvarint_length64 (uN_wrap c).2
  unfold binP
  split
  · simp
  · omega
  · rw [List.length_append]; omega
  · rw [List.length_append, List.length_append]; omega
theorem arr3_built (n a c : Int) : Try.prog.built 101 [(0, .int .i64 n), (1, .int .i64 a), (2, .int .i64 c)] = some #[.int .i64 n, .int .i64 a, .int .i64 c] := by kernel_rfl
theorem idx0 (n a c : Int) (w : World) : (Instr.index 101 (.agg #[.int .i64 n, .int .i64 a, .int .i64 c]) (.int .i64 0)).run Try.prog w = .ok (.int .i64 n) w := by kernel_rfl
theorem idx1 (n a c : Int) (w : World) : (Instr.index 101 (.agg #[.int .i64 n, .int .i64 a, .int .i64 c]) (.int .i64 1)).run Try.prog w = .ok (.int .i64 a) w := by kernel_rfl
theorem idx2 (n a c : Int) (w : World) : (Instr.index 101 (.agg #[.int .i64 n, .int .i64 a, .int .i64 c]) (.int .i64 2)).run Try.prog w = .ok (.int .i64 c) w := by kernel_rfl
theorem bin_dig_bs {w : World} {g : Nat} {T : TypeId} {n a c : Int} {d : List UInt8} {DL : List Value} (hDL : DL = binC n a c d) (h : Arr w g T DL) : Bs w w.heap.size (some ⟨g, 3, none⟩) d := fun _ => ⟨g, 3, rfl, h.lt, fun j hj => by
  rw [h.cell, hDL]
  exact binC_dig n a c d j _ (byteCells_get hj)⟩

set_option maxHeartbeats 8000000 in
set_option maxRecDepth 100000 in
theorem nput_any (n a c : Int) (d : List UInt8) (hd : d.length = 32) (DL : List Value) (hDL : DL = binC n a c d) (w : World) :
    Calls Try.prog 27 #[.slice none 0 0, .agg DL.toArray] w fun e w' => ∃ v, e = .returned v ∧ Owns w' w.heap.size 5 v (binB n a c d) ∧ Below w.heap.size w w' := by
  obtain ⟨i0, hi, hz0, hz1, hz2⟩ := info_parts byteInfo
  obtain ⟨W1, hW1⟩ : ∃ x, x = w.alloc (.cells DL.toArray 63) := ⟨_, rfl⟩
  have hX1 : Arr W1 w.heap.size 63 DL := by rw [hW1]; exact Arr.new w _ _
  have hb1 : Below w.heap.size w W1 := by rw [hW1]; exact (Below.refl _ w).alloc (Nat.le_refl _) _
  have HD0 := Lib.hid (show DL[0]? = some (.int .i64 n) by rw [hDL]; rfl)
  have HD1 := Lib.hid (show DL[1]? = some (.int .i64 a) by rw [hDL]; rfl)
  have HD2 := Lib.hid (show DL[2]? = some (.int .i64 c) by rw [hDL]; rfl)
  have Hbs := Lib.hid (show ∀ w' : World, Arr w' w.heap.size 63 DL → Bs w' w'.heap.size (some ⟨w.heap.size, 3, none⟩) d from fun w' h => bin_dig_bs hDL h)
  have HW1 := Lib.hid hW1
  clear hW1 hDL
  go_enter Try.func27, Try.ntmps27
  go_upto_region 1 with fail
  change Code.wp _ _ _ _ (w.alloc (.cells DL.toArray 63))
  rw [← HW1.out]
  clear HW1
  go_wp2_with fail
  go_at_call 63
  refine Calls.mono (show Calls Try.prog 63 #[.slice none 0 0] W1 _ from cloneb_any 0 none 0 [] W1 (Bs.nil _ _ _) (by simp)) ?_
  rintro e w2 ⟨v2, rfl, hown2, hb2⟩
  have hX2 := hX1.below hb2 hX1.lt
  have hwB : w.heap.size < W1.heap.size := hX1.lt
  obtain ⟨B, hB⟩ : ∃ B, B = W1.heap.size := ⟨_, rfl⟩
  rw [← hB] at hown2 hb2 hwB
  have hB2 : B ≤ w2.heap.size := by rw [hB]; exact hb2.size
  have hbw2 : Below w.heap.size w w2 := hb1.trans (hb2.mono (Nat.le_of_lt hwB))
  have c0 : w2.cell? ⟨w.heap.size, 0, none⟩ = some (.int .i64 n) := by rw [hX2.cell]; exact HD0.out
  have c1 : w2.cell? ⟨w.heap.size, 1, none⟩ = some (.int .i64 a) := by rw [hX2.cell]; exact HD1.out
  have c2 : w2.cell? ⟨w.heap.size, 2, none⟩ = some (.int .i64 c) := by rw [hX2.cell]; exact HD2.out
  have hb3 := arr3_built n a c
  have Hb3 := Lib.hid hb3
  clear hb3 hB hb1 hX1
  dsimp only
  go_wp2_with (first
    | (refine wpList_builtD rfl _ _ rfl _ rfl _ Hb3.out ?_))
  go_loopw [0, 16] (fun v x wr => ∃ i : Nat, i ≤ 3 ∧ x = .int .i64 i ∧ Owns wr B 5 v (binP n a c i) ∧ Arr wr w.heap.size 63 DL ∧ B ≤ wr.heap.size ∧ Below w.heap.size w wr) (fun _ x _ => 3 - (intOf x).toNat)
  case atStart => exact ⟨0, by omega, rfl, hown2, hX2, hB2, hbw2⟩
  case round =>
    clear hown2 hX2 hB2 hbw2 c0 c1 c2
    obtain ⟨i, hi3, rfl, hown, hX, hBr, hbr⟩ := hrel
    obtain ⟨wq, hwq⟩ : ∃ x, x = wr := ⟨_, rfl⟩
    subst hwq
    have hpl := binP_length n a c i
    by_cases h3 : i = 3
    · subst h3
      have hdl : (binP n a c 3 ++ d) = binB n a c d := rfl
      have Hdl := Lib.hid hdl
      have hbs := Hbs.out wq hX
      clear hdl
      go_wp2_with (at_builtin; refine wpList_append_bs rfl _ _ 33 rfl B 5 i0 (.int .u8 0) Try.underlying33 hi hz0 hz1 hz2 rfl _ (binP n a c 3) rfl hown wq.heap.size (some ⟨w.heap.size, 3, none⟩) 32 32 d rfl hd hbs (by omega) hBr ?_)
      intro v4 w4 hown4 hg4
      have hb4 : Below B wq w4 := hg4.below hBr (fun k hk => (hown.lt k hk).1)
      have hbw4 := hbr.trans (hb4.mono (Nat.le_of_lt hwB))
      rw [Hdl.out] at hown4
      clear hown hg4 hbs
      go_wp2_with fail
      go_ret
      exact ⟨v4, rfl, hown4.base (Nat.le_of_lt hwB), hbw4⟩
    have hstep : ∃ (z : Int) (x : Nat), IntKind.u64.wrap z = (x : Int) ∧ x < 18446744073709551616 ∧ binP n a c i ++ Lib.uvarint x = binP n a c (i + 1) ∧ ((i = 0 ∧ z = n) ∨ (i = 1 ∧ z = a) ∨ (i = 2 ∧ z = c)) := by
      have h012 : i = 0 ∨ i = 1 ∨ i = 2 := by omega
      rcases h012 with rfl | rfl | rfl
      · exact ⟨n, uN n, (uN_wrap n).1, (uN_wrap n).2, rfl, .inl ⟨rfl, rfl⟩⟩
      · exact ⟨a, uN a, (uN_wrap a).1, (uN_wrap a).2, rfl, .inr (.inl ⟨rfl, rfl⟩)⟩
      · exact ⟨c, uN c, (uN_wrap c).1, (uN_wrap c).2, rfl, .inr (.inr ⟨rfl, rfl⟩)⟩
    obtain ⟨z, x, hzx, hx, hP, hcase⟩ := hstep
    obtain ⟨P, hPe⟩ : ∃ P, P = binP n a c i := ⟨_, rfl⟩
    rw [← hPe] at hown hpl hP
    have HP := Lib.hid hP
    clear hPe hP
    have hx0 := fun w => idx0 n a c w
    have hx1 := fun w => idx1 n a c w
    have hx2 := fun w => idx2 n a c w
    rcases hcase with ⟨rfl, rfl⟩ | ⟨rfl, rfl⟩ | ⟨rfl, rfl⟩
    all_goals
      go_wp2_with fail
      refine Calls.mono (number_any B x hx _ P wq hown hBr (by omega)) ?_
      rintro e w4 ⟨v4, rfl, hown4, hg4⟩
      have hb4 : Below B wq w4 := hg4.below hBr (fun k hk => (hown.lt k hk).1)
      have hX4 : Arr w4 w.heap.size 63 DL := hX.below hb4 hwB
      have hbw4 := hbr.trans (hb4.mono (Nat.le_of_lt hwB))
      have hB4 : B ≤ w4.heap.size := Nat.le_trans hBr hb4.size
      rw [HP.out] at hown4
      clear hown hg4 hX hbr hb4
      go_wp2_with fail
      go_roundw
      case rel => exact ⟨_, by omega, by go_num, hown4, hX4, hB4, hbw4⟩
      case measure => simp [intOf]

set_option maxHeartbeats 8000000 in
set_option maxRecDepth 100000 in
theorem rnput_any (n a c : Int) (d : List UInt8) (hd : d.length = 32) (DL : List Value) (hDL : DL = binC n a c d) (w : World) :
    Calls Try.prog 34 #[.slice none 0 0, .agg DL.toArray] w fun e w' => ∃ v, e = .returned v ∧ Owns w' w.heap.size 5 v (binB n a c d) ∧ Below w.heap.size w w' := by
  obtain ⟨i0, hi, hz0, hz1, hz2⟩ := info_parts byteInfo
  obtain ⟨W1, hW1⟩ : ∃ x, x = w.alloc (.cells DL.toArray 63) := ⟨_, rfl⟩
  have hX1 : Arr W1 w.heap.size 63 DL := by rw [hW1]; exact Arr.new w _ _
  have hb1 : Below w.heap.size w W1 := by rw [hW1]; exact (Below.refl _ w).alloc (Nat.le_refl _) _
  have HD0 := Lib.hid (show DL[0]? = some (.int .i64 n) by rw [hDL]; rfl)
  have HD1 := Lib.hid (show DL[1]? = some (.int .i64 a) by rw [hDL]; rfl)
  have HD2 := Lib.hid (show DL[2]? = some (.int .i64 c) by rw [hDL]; rfl)
  have Hbs := Lib.hid (show ∀ w' : World, Arr w' w.heap.size 63 DL → Bs w' w'.heap.size (some ⟨w.heap.size, 3, none⟩) d from fun w' h => bin_dig_bs hDL h)
  obtain ⟨x, hx⟩ : ∃ x, uN n = x := ⟨_, rfl⟩
  obtain ⟨y, hy⟩ : ∃ y, uN a = y := ⟨_, rfl⟩
  obtain ⟨z, hz⟩ : ∃ z, uN c = z := ⟨_, rfl⟩
  have hxw : IntKind.u64.wrap n = (x : Int) := by rw [← hx]; exact (uN_wrap n).1
  have hyw : IntKind.u64.wrap a = (y : Int) := by rw [← hy]; exact (uN_wrap a).1
  have hzw : IntKind.u64.wrap c = (z : Int) := by rw [← hz]; exact (uN_wrap c).1
  have hxl : x < 18446744073709551616 := by rw [← hx]; exact (uN_wrap n).2
  have hyl : y < 18446744073709551616 := by rw [← hy]; exact (uN_wrap a).2
  have hzl : z < 18446744073709551616 := by rw [← hz]; exact (uN_wrap c).2
  have HBin := Lib.hid (show Lib.uvarint x ++ (Lib.uvarint y ++ (Lib.uvarint z ++ d)) = binB n a c d by rw [← hx, ← hy, ← hz]; simp [binB])
  have e1 := Lib.uvarint_length64 hxl
  have e2 := Lib.uvarint_length64 hyl
  have e3 := Lib.uvarint_length64 hzl
  obtain ⟨X, hXe⟩ : ∃ X, X = Lib.uvarint x := ⟨_, rfl⟩
  obtain ⟨Y, hYe⟩ : ∃ X, X = Lib.uvarint y := ⟨_, rfl⟩
  obtain ⟨Z, hZe⟩ : ∃ X, X = Lib.uvarint z := ⟨_, rfl⟩
  have HXe := Lib.hid hXe
  have HYe := Lib.hid hYe
  have HZe := Lib.hid hZe
  rw [← hXe] at e1
  rw [← hYe] at e2
  rw [← hZe] at e3
  have c0 : W1.cell? ⟨w.heap.size, 0, none⟩ = some (.int .i64 n) := by rw [hX1.cell]; exact HD0.out
  have HW1 := Lib.hid hW1
  obtain ⟨B, hB⟩ : ∃ B, B = W1.heap.size := ⟨_, rfl⟩
  have hwB : w.heap.size < B := by rw [hB]; exact hX1.lt
  have hB1 : B ≤ W1.heap.size := Nat.le_of_eq hB
  clear hW1 hDL hx hy hz hXe hYe hZe hB
  go_enter Try.func34, Try.ntmps34
  go_upto_region 1 with fail
  change Code.wp _ _ _ _ (w.alloc (.cells DL.toArray 63))
  rw [← HW1.out]
  clear HW1
  go_wp2_with fail
  go_at_call 32
  refine Calls.mono (rnumber_any B x hxl _ [] W1 (Owns.nil W1 B 5) hB1 (by simp)) ?_
  rintro e w2 ⟨v2, rfl, hown2, hg2⟩
  have hb2 : Below B W1 w2 := hg2.below hB1 (fun k hk => by cases hk)
  have hX2 := hX1.below hb2 hwB
  have hB2 : B ≤ w2.heap.size := Nat.le_trans hB1 hb2.size
  have hbw2 := hb1.trans (hb2.mono (Nat.le_of_lt hwB))
  have c1 : w2.cell? ⟨w.heap.size, 1, none⟩ = some (.int .i64 a) := by rw [hX2.cell]; exact HD1.out
  rw [← HXe.out] at hown2
  clear hX1 hb1 hg2 hb2 c0 hB1
  dsimp only
  go_wp2_with fail
  go_at_call 32
  refine Calls.mono (rnumber_any B y hyl _ _ w2 hown2 hB2 (by simp only [List.length_append, List.length_nil]; omega)) ?_
  rintro e w3 ⟨v3, rfl, hown3, hg3⟩
  have hb3 : Below B w2 w3 := hg3.below hB2 (fun k hk => (hown2.lt k hk).1)
  have hX3 := hX2.below hb3 hwB
  have hB3 : B ≤ w3.heap.size := Nat.le_trans hB2 hb3.size
  have hbw3 := hbw2.trans (hb3.mono (Nat.le_of_lt hwB))
  have c2 : w3.cell? ⟨w.heap.size, 2, none⟩ = some (.int .i64 c) := by rw [hX3.cell]; exact HD2.out
  rw [← HYe.out] at hown3
  clear hX2 hbw2 hg3 hb3 c1 hB2 hown2
  dsimp only
  go_wp2_with fail
  go_at_call 32
  refine Calls.mono (rnumber_any B z hzl _ _ w3 hown3 hB3 (by simp only [List.length_append, List.length_nil]; omega)) ?_
  rintro e w4 ⟨v4, rfl, hown4, hg4⟩
  have hb4 : Below B w3 w4 := hg4.below hB3 (fun k hk => (hown3.lt k hk).1)
  have hX4 := hX3.below hb4 hwB
  have hB4 : B ≤ w4.heap.size := Nat.le_trans hB3 hb4.size
  have hbw4 := hbw3.trans (hb4.mono (Nat.le_of_lt hwB))
  have hbs := Hbs.out w4 hX4
  rw [← HZe.out] at hown4
  clear hX3 hbw3 hg4 hb4 c2 hB3 hown3
  dsimp only
  go_wp2_with (at_builtin; refine wpList_append_bs rfl _ _ 33 rfl B 5 i0 (.int .u8 0) Try.underlying33 hi hz0 hz1 hz2 rfl v4 _ rfl hown4 w4.heap.size (some ⟨w.heap.size, 3, none⟩) 32 32 d rfl hd hbs (by simp only [List.length_append, List.length_nil]; omega) hB4 ?_)
  intro v5 w5 hown5 hg5
  have hb5 : Below B w4 w5 := hg5.below hB4 (fun k hk => (hown4.lt k hk).1)
  have hbw5 := hbw4.trans (hb5.mono (Nat.le_of_lt hwB))
  rw [HXe.out, HYe.out, HZe.out] at hown5
  try simp only [List.nil_append, List.append_assoc] at hown5
  rw [HBin.out] at hown5
  clear hown4 hg5 hbs
  go_wp2_with fail
  go_ret
  exact ⟨v5, rfl, hown5.base (Nat.le_of_lt hwB), hbw5⟩


theorem TurnN.only {p : Nat} {w w' : World} (h : Turn p w w') : Only (fun b => b = p) w w' := ⟨h.os, h.tape, h.output, h.size, fun k hk hn => h.block k hk (fun e => hn (by injection e))⟩
theorem Only.turnN {p : Nat} {w w' : World} (h : Only (fun b => b = p) w w') : Turn p w w' := ⟨h.os, h.tape, h.output, h.size, fun k hk hn => h.block k hk (fun e => hn (by rw [e]))⟩
/-- What lies at p and below stays. -/
def LowN (p : Nat) (w w' : World) : Prop := w.heap.size ≤ w'.heap.size ∧ ∀ k, k ≤ p → w'.heap[k]? = w.heap[k]?
theorem PInL.lowN {lo p : Nat} {l : List UInt8} {wr : Bool} {w w' : World} (h : PInL lo w p l wr) (hb : LowN p w w') : PInL lo w' p l wr := by
  obtain ⟨A, c, hg, h1, h2, h3, h4⟩ := h
  exact ⟨A, c, (hb.2 p (Nat.le_refl _)).trans hg, h1, h2, h3.keep fun b o hlt => World.cell?_of_block (hb.2 b (Nat.le_of_lt hlt)), h4⟩
theorem RIn.lowN {q : Nat} {L : List UInt8} {A : Option Addr} {c o : Nat} {wr : Bool} {w w' : World} (h : RIn w q L A c o wr) (hb : LowN q w w') : RIn w' q L A c o wr := (hb.2 q (Nat.le_refl _)).trans h
theorem RFix.lowN {q : Nat} {L : List UInt8} {A : Option Addr} {c : Nat} {w w' : World} (h : RFix w q L A c) (hb : LowN q w w') : RFix w' q L A c :=
  ⟨h.le, h.lim, h.cap, h.bytes.keep fun b o hlt => World.cell?_of_block (hb.2 b (Nat.le_of_lt hlt))⟩
/-- What Take gives. -/
def tkN (x a c : Nat) (d : List UInt8) (b : Bool) : List Value := if b then binZ else binC (x : Nat) (a : Nat) (c : Nat) d
theorem binC_dset {d e : List UInt8} (hd : d.length = 32) (he : e.length = 32) (x a c : Int) (VL : List Value) (hV : VL = Lib.byteCells e) : (binC x a c d).take 3 ++ (VL ++ (binC x a c d).drop (3 + VL.length)) = binC x a c e := by
  have hl : (Lib.byteCells d).length = 32 := by rw [Lib.byteCells_length, hd]
  have hV32 : VL.length = 32 := by rw [hV, Lib.byteCells_length, he]
  rw [hV32, List.drop_of_length_le (by rw [binC_length _ _ _ hd]; omega), List.append_nil, hV]
  rfl

set_option maxHeartbeats 8000000 in
set_option maxRecDepth 100000 in
theorem ntake_gen (p : Nat) (I0 I1 I2 I3 I4 : World → Prop) (d : List UInt8) (hdl : d.length = 32) (VL : List Value) (hVL : VL = Lib.byteCells d) (x a n : Nat) (hx : x ≤ 2147483647) (ha : a ≤ 65535) (hn : n ≤ 65536) (b3 : Bool) (TL : List Value) (hTL : TL = tkN x a n d b3)
    (k0 : ∀ w w', I0 w → LowN p w w' → I0 w') (k1 : ∀ w w', I1 w → LowN p w w' → I1 w') (k2 : ∀ w w', I2 w → LowN p w w' → I2 w') (k3 : ∀ w w', I3 w → LowN p w w' → I3 w') (k4 : ∀ w w', I4 w → LowN p w w' → I4 w')
    (hn0 : ∀ w, I0 w → Calls Try.prog 37 #[.pointer (some ⟨p, 0, none⟩), .int .u64 2147483647] w fun e w' => e = .returned (.int .u64 (x : Nat)) ∧ I1 w' ∧ Turn p w w')
    (hn1 : ∀ w, I1 w → Calls Try.prog 37 #[.pointer (some ⟨p, 0, none⟩), .int .u64 65535] w fun e w' => e = .returned (.int .u64 (a : Nat)) ∧ I2 w' ∧ Turn p w w')
    (hn2 : ∀ w, I2 w → Calls Try.prog 37 #[.pointer (some ⟨p, 0, none⟩), .int .u64 65536] w fun e w' => e = .returned (.int .u64 (n : Nat)) ∧ I3 w' ∧ Turn p w w')
    (hdig : ∀ w, I3 w → Calls Try.prog 41 #[.pointer (some ⟨p, 0, none⟩)] w fun e w' => e = .returned (.agg VL.toArray) ∧ I4 w' ∧ Turn p w w')
    (hwr : ∀ w, I4 w → Calls Try.prog 67 #[.pointer (some ⟨p, 0, none⟩)] w fun e w' => e = .returned (.bool b3) ∧ w' = w)
    (w : World) (h : I0 w) (hp : p < w.heap.size) :
    Calls Try.prog 40 #[.pointer (some ⟨p, 0, none⟩)] w fun e w' => e = .returned (.agg TL.toArray) ∧ I4 w' ∧ Turn p w w' := by
  have hVl : VL.length = 32 := by rw [hVL, Lib.byteCells_length]; exact hdl
  obtain ⟨Z32, hZ32⟩ : ∃ z, z = List.replicate 32 (0 : UInt8) := ⟨_, rfl⟩
  have hz32l : Z32.length = 32 := by rw [hZ32]; simp
  obtain ⟨D0, hD0⟩ : ∃ y, y = binC (x : Nat) 0 0 Z32 := ⟨_, rfl⟩
  obtain ⟨D1, hD1⟩ : ∃ y, y = binC (x : Nat) (a : Nat) 0 Z32 := ⟨_, rfl⟩
  obtain ⟨D2, hD2⟩ : ∃ y, y = binC (x : Nat) (a : Nat) (n : Nat) Z32 := ⟨_, rfl⟩
  obtain ⟨D3, hD3⟩ : ∃ y, y = binC (x : Nat) (a : Nat) (n : Nat) d := ⟨_, rfl⟩
  have hs1 : D0.set 1 (.int .i64 (a : Nat)) = D1 := by rw [hD0, hD1]; rfl
  have hs2 : D1.set 2 (.int .i64 (n : Nat)) = D2 := by rw [hD1, hD2]; rfl
  have hs3 : D2.take 3 ++ (VL ++ D2.drop (3 + VL.length)) = D3 := by rw [hD2, hD3]; exact binC_dset hz32l hdl _ _ _ VL hVL
  have h01 : D0[1]? = some (.int .i64 0) := by rw [hD0]; rfl
  have h12 : D1[2]? = some (.int .i64 0) := by rw [hD1]; rfl
  have HB1 := Lib.hid (show Try.prog.built 63 [(0, .int .i64 (x : Nat))] = some D0.toArray by rw [hD0, hZ32]; exact bin_built1 _)
  have hD0l : D0.length = 35 := by rw [hD0]; exact binC_length _ _ _ hz32l
  have hD2l : D2.length = 35 := by rw [hD2]; exact binC_length _ _ _ hz32l
  have hD3l : D3.length = 35 := by rw [hD3]; exact binC_length _ _ _ hdl
  have hTl : TL.length = 35 := by rw [hTL]; unfold tkN; split; exact binC_length _ _ _ (by simp); exact binC_length _ _ _ hdl
  have HD0i := Lib.hid (show (Try.prog.info? 63).map (·.size) = some D0.toArray.size by rw [List.size_toArray, hD0l]; exact binSize)
  have HD0n := Lib.hid (show (Try.prog.info? 63).map (·.size) = some D0.length by rw [hD0l]; exact binSize)
  have HD0s := Lib.hid (show binZ.toArray.size = D0.toArray.size by rw [List.size_toArray, List.size_toArray, hD0l]; rfl)
  have HD01 := Lib.hid (show D0.toArray.all (·.oneCell') = true by rw [hD0]; exact all_oneCell_toArray (binC_cell _ _ _ _))
  have HD3i := Lib.hid (show (Try.prog.info? 63).map (·.size) = some D3.toArray.size by rw [List.size_toArray, hD3l]; exact binSize)
  have HD3n := Lib.hid (show (Try.prog.info? 63).map (·.size) = some D3.length by rw [hD3l]; exact binSize)
  have HD3s := Lib.hid (show binZ.toArray.size = D3.toArray.size by rw [List.size_toArray, List.size_toArray, hD3l]; rfl)
  have HD31 := Lib.hid (show D3.toArray.all (·.oneCell') = true by rw [hD3]; exact all_oneCell_toArray (binC_cell _ _ _ _))
  have HTLi := Lib.hid (show (Try.prog.info? 63).map (·.size) = some TL.toArray.size by rw [List.size_toArray, hTl]; exact binSize)
  have HTLn := Lib.hid (show (Try.prog.info? 63).map (·.size) = some TL.length by rw [hTl]; exact binSize)
  have HTLs := Lib.hid (show binZ.toArray.size = TL.toArray.size by rw [List.size_toArray, List.size_toArray, hTl]; rfl)
  have HTL1 := Lib.hid (show TL.toArray.all (·.oneCell') = true by rw [hTL]; unfold tkN; split; exact all_oneCell_toArray (binC_cell _ _ _ _); exact all_oneCell_toArray (binC_cell _ _ _ _))
  have HVi := Lib.hid (show (Try.prog.info? 24).map (·.size) = some VL.toArray.size by rw [List.size_toArray, hVl]; exact digInfo)
  have HV1 := Lib.hid (show VL.toArray.all (·.oneCell') = true by rw [hVL]; simpa using byteCells_one d)
  have hix : IntKind.i64.wrap ((x : Nat) : Int) = ((x : Nat) : Int) := IntWalk.i64_in _ (by omega)
  have hia : IntKind.i64.wrap ((a : Nat) : Int) = ((a : Nat) : Int) := IntWalk.i64_in _ (by omega)
  have hin : IntKind.i64.wrap ((n : Nat) : Int) = ((n : Nat) : Int) := IntWalk.i64_in _ (by omega)
  have Hz := Lib.hid (show b3 = true → Try.prog.built 63 [] = some TL.toArray from fun e => by rw [hTL, e]; exact bin_built0)
  have He := Lib.hid (show b3 = false → D3 = TL from fun e => by rw [hTL, hD3, e]; rfl)
  obtain ⟨W1, hW1⟩ : ∃ x, x = w.alloc (.cells binZ.toArray 63) := ⟨_, rfl⟩
  have hR1 : Arr W1 w.heap.size 63 binZ := by rw [hW1]; exact Arr.new w _ _
  have hO1 : Only (fun b => b = p) w W1 := by rw [hW1]; exact (Only.refl _ w).alloc _
  have hz1 : w.heap.size < W1.heap.size := hR1.lt
  have hI1 : I0 W1 := k0 w W1 h ⟨by omega, fun k hk => by rw [hW1]; exact Below.heap_alloc w _ k (by omega)⟩
  have HW1 := Lib.hid hW1
  have HS1 := Lib.hid hs1
  have HS2 := Lib.hid hs2
  have HS3 := Lib.hid hs3
  clear hW1 hD0 hD1 hD2 hD3 hVL hTL hs1 hs2 hs3 hZ32 h
  go_enter Try.func40, Try.ntmps40
  go_upto_region 1 with fail
  change Code.wp _ _ _ _ (w.alloc (.cells binZ.toArray 63))
  rw [← HW1.out]
  clear HW1
  go_wp2_with fail
  go_at_call 37
  refine Calls.mono (hn0 W1 hI1) ?_
  rintro e w2 ⟨rfl, hI2, ht2⟩
  have hO2 := hO1.trans (TurnN.only ht2)
  have hR2 : Arr w2 w.heap.size 63 binZ := hR1.only (TurnN.only ht2) (by omega)
  have hz2 := ht2.size
  clear hn0 hO1 hR1 hI1 ht2
  go_wp2_with (first
    | (refine wpList_builtD rfl _ _ rfl [(0, .int .i64 (x : Nat))] rfl D0.toArray HB1.out ?_)
    | (change wpList _ _ _ _ _ (w2.alloc (.cells binZ.toArray 63)); refine wpList_store_row rfl _ _ _ rfl w2.heap.size D0.toArray rfl rfl 63 binZ.toArray (heap_alloc_new w2 _) HD0i.out HD0s.out HD01.out ?_; obtain ⟨w3, hw3⟩ : ∃ x, x = (w2.alloc (.cells binZ.toArray 63)).setRow w2.heap.size D0.toArray := ⟨_, rfl⟩; rw [← hw3]; obtain ⟨hX3, hb3⟩ := alloc_rowD w2 63 binZ.toArray D0; rw [← hw3] at hX3 hb3; clear hw3))
  obtain ⟨g, hg⟩ : ∃ g, g = w2.heap.size := ⟨_, rfl⟩
  rw [← hg] at hX3 ⊢
  have hgp : p < g := by omega
  have hgw : w.heap.size < g := by omega
  have hR3 : Arr w3 w.heap.size 63 binZ := hR2.below hb3 hR2.lt
  have hO3 := hO2.step hb3
  have hI3 : I1 w3 := k1 w2 w3 hI2 ⟨hb3.size, fun k hk => hb3.block k (by omega)⟩
  have hz3 := hb3.size
  have hgz : g < w3.heap.size := hX3.lt
  clear hb3 hO2 hR2 hI2 hg hz3 hz2
  refine Calls.mono (hn1 w3 hI3) ?_
  rintro e w4 ⟨rfl, hI4, ht4⟩
  have hX4 := hX3.only (TurnN.only ht4) (by omega)
  have hR4 := hR3.only (TurnN.only ht4) (by omega)
  have hO4 := hO3.trans (TurnN.only ht4)
  have hz4 := ht4.size
  have hc4 : w4.cell? ⟨g, 1, none⟩ = some (.int .i64 0) := by rw [hX4.cell]; exact h01
  have hf4 := hX4.frozen 1
  clear hX3 hR3 hO3 hI3 ht4 hn1
  go_wp2_with fail
  obtain ⟨w5, hw5⟩ : ∃ x, x = w4.setCell ⟨g, 1, none⟩ (.int .i64 (a : Nat)) := ⟨_, rfl⟩
  have hX5 : Arr w5 g 63 D1 := by rw [hw5, ← HS1.out]; exact hX4.set 1 _
  have hR5 : Arr w5 w.heap.size 63 binZ := by rw [hw5]; exact hR4.setOther (Nat.ne_of_lt hgw) _
  have hO5 : Only (fun b => b = p) w w5 := by rw [hw5]; exact hO4.setCell (p := ⟨g, 1, none⟩) (.inr (Nat.le_of_lt hgw)) _
  have hz5 : w5.heap.size = w4.heap.size := by rw [hw5]; simp [World.setCell]
  have hI5 : I2 w5 := k2 w4 w5 hI4 ⟨by omega, fun k hk => by rw [hw5]; exact Below.heap_setCell w4 _ _ k (show k ≠ g by omega)⟩
  rw [← hw5]
  clear hw5 hX4 hR4 hO4 hI4 hc4 hf4
  go_wp2_with fail
  refine Calls.mono (hn2 w5 hI5) ?_
  rintro e w6 ⟨rfl, hI6, ht6⟩
  have hX6 := hX5.only (TurnN.only ht6) (by omega)
  have hR6 := hR5.only (TurnN.only ht6) (by omega)
  have hO6 := hO5.trans (TurnN.only ht6)
  have hz6 := ht6.size
  have hc6 : w6.cell? ⟨g, 2, none⟩ = some (.int .i64 0) := by rw [hX6.cell]; exact h12
  have hf6 := hX6.frozen 2
  clear hX5 hR5 hO5 hI5 ht6 hn2
  go_wp2_with fail
  obtain ⟨w7, hw7⟩ : ∃ x, x = w6.setCell ⟨g, 2, none⟩ (.int .i64 (n : Nat)) := ⟨_, rfl⟩
  have hX7 : Arr w7 g 63 D2 := by rw [hw7, ← HS2.out]; exact hX6.set 2 _
  have hR7 : Arr w7 w.heap.size 63 binZ := by rw [hw7]; exact hR6.setOther (Nat.ne_of_lt hgw) _
  have hO7 : Only (fun b => b = p) w w7 := by rw [hw7]; exact hO6.setCell (p := ⟨g, 2, none⟩) (.inr (Nat.le_of_lt hgw)) _
  have hz7 : w7.heap.size = w6.heap.size := by rw [hw7]; simp [World.setCell]
  have hI7 : I3 w7 := k3 w6 w7 hI6 ⟨by omega, fun k hk => by rw [hw7]; exact Below.heap_setCell w6 _ _ k (show k ≠ g by omega)⟩
  rw [← hw7]
  clear hw7 hX6 hR6 hO6 hI6 hc6 hf6
  go_wp2_with fail
  refine Calls.mono (hdig w7 hI7) ?_
  rintro e w8 ⟨rfl, hI8, ht8⟩
  have hX8 := hX7.only (TurnN.only ht8) (by omega)
  have hR8 := hR7.only (TurnN.only ht8) (by omega)
  have hO8 := hO7.trans (TurnN.only ht8)
  have hz8 := ht8.size
  have hoff : 3 + VL.toArray.size ≤ D2.length := by rw [List.size_toArray, hVl, hD2l]; omega
  have hth := Lib.hid (there_of_arr hX8 hoff)
  obtain ⟨w9, hw9⟩ : ∃ x, x = w8.setCells g 3 VL := ⟨_, rfl⟩
  have hX9 : Arr w9 g 63 D3 := by rw [hw9, ← HS3.out]; exact Arr.setIn VL 3 _ w8 hX8 (by rw [List.size_toArray] at hoff; exact hoff)
  have hOg : Only (fun b => b = g) w8 w9 := by rw [hw9]; exact Only.setIn (R := fun b => b = g) rfl VL 3 w8 (Only.refl _ _)
  have hR9 : Arr w9 w.heap.size 63 binZ := hR8.only hOg (by omega)
  have hO9 : Only (fun b => b = p) w w9 := hO8.then hOg (fun i hi => .inr (by omega))
  have hz9 : w9.heap.size = w8.heap.size := by rw [hw9]; exact setCells_size _ _ _ _
  have hI9 : I4 w9 := k4 w8 w9 hI8 ⟨by omega, fun k hk => hOg.block k (by omega) (by omega)⟩
  have Hw9 := Lib.hid hw9
  clear hw9 hX7 hR7 hO7 hI7 ht8 hdig hX8 hR8 hO8 hOg hoff
  go_wp2_with (first | (refine wpList_store_mid rfl 24 _ _ rfl g 3 VL.toArray rfl rfl hth.out HVi.out HV1.out ?_; rw [show VL.toArray.toList = VL from rfl, ← Hw9.out]))
  have hR9h : Hid (w9.heap[w.heap.size]? = some (.cells binZ.toArray 63 (0, 0))) := hR9
  have hset := hR9.setRow TL
  have hOz : Only (fun b => b = p) w (w9.setRow w.heap.size TL.toArray) := hO9.setRow (.inr (Nat.le_refl _)) _
  have hIz : I4 (w9.setRow w.heap.size TL.toArray) := k4 w9 _ hI9 ⟨by simp, fun k hk => setRow_other w9 _ k _ (by omega)⟩
  cases b3
  · refine Calls.mono (hwr w9 hI9) ?_
    rintro e w10 ⟨rfl, rfl⟩
    have e := He.out (by first | rfl | trivial)
    subst e
    go_wp2_with (first
      | (refine wpList_load_row rfl _ _ rfl g rfl 63 D3.toArray (0, 0) _ hX9 Try.underlying63 rfl HD3i.out ?_)
      | (refine wpList_store_row rfl _ _ _ rfl w.heap.size D3.toArray rfl rfl 63 binZ.toArray hR9h.out HTLi.out HTLs.out HTL1.out ?_))
    exact bodyPost_ret (v := .agg D3.toArray) (results_cell_row (by rfl) _ _ w.heap.size 63 D3.toArray (0, 0) _ (by rfl) hset Try.underlying63 rfl HTLi.out) rfl ⟨rfl, hIz, Only.turnN hOz⟩
  · have Hz2 := Lib.hid (Hz.out (by first | rfl | trivial))
    refine Calls.mono (hwr w9 hI9) ?_
    rintro e w10 ⟨rfl, rfl⟩
    go_wp2_with (first
      | (refine wpList_builtD rfl _ _ rfl [] rfl TL.toArray Hz2.out ?_)
      | (refine wpList_store_row rfl _ _ _ rfl w.heap.size TL.toArray rfl rfl 63 binZ.toArray hR9h.out HTLi.out HTLs.out HTL1.out ?_))
    exact bodyPost_ret (v := .agg TL.toArray) (results_cell_row (by rfl) _ _ w.heap.size 63 TL.toArray (0, 0) _ (by rfl) hset Try.underlying63 rfl HTLi.out) rfl ⟨rfl, hIz, Only.turnN hOz⟩

set_option maxHeartbeats 8000000 in
set_option maxRecDepth 100000 in
theorem rntake_gen (p : Nat) (I0 I1 I2 I3 I4 : World → Prop) (d : List UInt8) (hdl : d.length = 32) (VL : List Value) (hVL : VL = Lib.byteCells d) (x a n : Nat) (hx : x ≤ 2147483647) (ha : a ≤ 65535) (hn : n ≤ 65536) (b3 : Bool) (TL : List Value) (hTL : TL = tkN x a n d b3)
    (k0 : ∀ w w', I0 w → LowN p w w' → I0 w') (k1 : ∀ w w', I1 w → LowN p w w' → I1 w') (k2 : ∀ w w', I2 w → LowN p w w' → I2 w') (k3 : ∀ w w', I3 w → LowN p w w' → I3 w') (k4 : ∀ w w', I4 w → LowN p w w' → I4 w')
    (hn0 : ∀ w, I0 w → Calls Try.prog 49 #[.pointer (some ⟨p, 0, none⟩), .int .u64 2147483647] w fun e w' => e = .returned (.int .u64 (x : Nat)) ∧ I1 w' ∧ Turn p w w')
    (hn1 : ∀ w, I1 w → Calls Try.prog 49 #[.pointer (some ⟨p, 0, none⟩), .int .u64 65535] w fun e w' => e = .returned (.int .u64 (a : Nat)) ∧ I2 w' ∧ Turn p w w')
    (hn2 : ∀ w, I2 w → Calls Try.prog 49 #[.pointer (some ⟨p, 0, none⟩), .int .u64 65536] w fun e w' => e = .returned (.int .u64 (n : Nat)) ∧ I3 w' ∧ Turn p w w')
    (hdig : ∀ w, I3 w → Calls Try.prog 52 #[.pointer (some ⟨p, 0, none⟩)] w fun e w' => e = .returned (.agg VL.toArray) ∧ I4 w' ∧ Turn p w w')
    (hwr : ∀ w, I4 w → w.cell? ⟨p, 2, none⟩ = some (.bool b3))
    (w : World) (h : I0 w) (hp : p < w.heap.size) :
    Calls Try.prog 51 #[.pointer (some ⟨p, 0, none⟩)] w fun e w' => e = .returned (.agg TL.toArray) ∧ I4 w' ∧ Turn p w w' := by
  have hVl : VL.length = 32 := by rw [hVL, Lib.byteCells_length]; exact hdl
  obtain ⟨Z32, hZ32⟩ : ∃ z, z = List.replicate 32 (0 : UInt8) := ⟨_, rfl⟩
  have hz32l : Z32.length = 32 := by rw [hZ32]; simp
  obtain ⟨D0, hD0⟩ : ∃ y, y = binC (x : Nat) 0 0 Z32 := ⟨_, rfl⟩
  obtain ⟨D1, hD1⟩ : ∃ y, y = binC (x : Nat) (a : Nat) 0 Z32 := ⟨_, rfl⟩
  obtain ⟨D2, hD2⟩ : ∃ y, y = binC (x : Nat) (a : Nat) (n : Nat) Z32 := ⟨_, rfl⟩
  obtain ⟨D3, hD3⟩ : ∃ y, y = binC (x : Nat) (a : Nat) (n : Nat) d := ⟨_, rfl⟩
  have hs1 : D0.set 1 (.int .i64 (a : Nat)) = D1 := by rw [hD0, hD1]; rfl
  have hs2 : D1.set 2 (.int .i64 (n : Nat)) = D2 := by rw [hD1, hD2]; rfl
  have hs3 : D2.take 3 ++ (VL ++ D2.drop (3 + VL.length)) = D3 := by rw [hD2, hD3]; exact binC_dset hz32l hdl _ _ _ VL hVL
  have h01 : D0[1]? = some (.int .i64 0) := by rw [hD0]; rfl
  have h12 : D1[2]? = some (.int .i64 0) := by rw [hD1]; rfl
  have HB1 := Lib.hid (show Try.prog.built 63 [(0, .int .i64 (x : Nat))] = some D0.toArray by rw [hD0, hZ32]; exact bin_built1 _)
  have hD0l : D0.length = 35 := by rw [hD0]; exact binC_length _ _ _ hz32l
  have hD2l : D2.length = 35 := by rw [hD2]; exact binC_length _ _ _ hz32l
  have hD3l : D3.length = 35 := by rw [hD3]; exact binC_length _ _ _ hdl
  have hTl : TL.length = 35 := by rw [hTL]; unfold tkN; split; exact binC_length _ _ _ (by simp); exact binC_length _ _ _ hdl
  have HD0i := Lib.hid (show (Try.prog.info? 63).map (·.size) = some D0.toArray.size by rw [List.size_toArray, hD0l]; exact binSize)
  have HD0n := Lib.hid (show (Try.prog.info? 63).map (·.size) = some D0.length by rw [hD0l]; exact binSize)
  have HD0s := Lib.hid (show binZ.toArray.size = D0.toArray.size by rw [List.size_toArray, List.size_toArray, hD0l]; rfl)
  have HD01 := Lib.hid (show D0.toArray.all (·.oneCell') = true by rw [hD0]; exact all_oneCell_toArray (binC_cell _ _ _ _))
  have HD3i := Lib.hid (show (Try.prog.info? 63).map (·.size) = some D3.toArray.size by rw [List.size_toArray, hD3l]; exact binSize)
  have HD3n := Lib.hid (show (Try.prog.info? 63).map (·.size) = some D3.length by rw [hD3l]; exact binSize)
  have HD3s := Lib.hid (show binZ.toArray.size = D3.toArray.size by rw [List.size_toArray, List.size_toArray, hD3l]; rfl)
  have HD31 := Lib.hid (show D3.toArray.all (·.oneCell') = true by rw [hD3]; exact all_oneCell_toArray (binC_cell _ _ _ _))
  have HTLi := Lib.hid (show (Try.prog.info? 63).map (·.size) = some TL.toArray.size by rw [List.size_toArray, hTl]; exact binSize)
  have HTLn := Lib.hid (show (Try.prog.info? 63).map (·.size) = some TL.length by rw [hTl]; exact binSize)
  have HTLs := Lib.hid (show binZ.toArray.size = TL.toArray.size by rw [List.size_toArray, List.size_toArray, hTl]; rfl)
  have HTL1 := Lib.hid (show TL.toArray.all (·.oneCell') = true by rw [hTL]; unfold tkN; split; exact all_oneCell_toArray (binC_cell _ _ _ _); exact all_oneCell_toArray (binC_cell _ _ _ _))
  have HVi := Lib.hid (show (Try.prog.info? 24).map (·.size) = some VL.toArray.size by rw [List.size_toArray, hVl]; exact digInfo)
  have HV1 := Lib.hid (show VL.toArray.all (·.oneCell') = true by rw [hVL]; simpa using byteCells_one d)
  have hix : IntKind.i64.wrap ((x : Nat) : Int) = ((x : Nat) : Int) := IntWalk.i64_in _ (by omega)
  have hia : IntKind.i64.wrap ((a : Nat) : Int) = ((a : Nat) : Int) := IntWalk.i64_in _ (by omega)
  have hin : IntKind.i64.wrap ((n : Nat) : Int) = ((n : Nat) : Int) := IntWalk.i64_in _ (by omega)
  have Hz := Lib.hid (show b3 = true → Try.prog.built 63 [] = some TL.toArray from fun e => by rw [hTL, e]; exact bin_built0)
  have He := Lib.hid (show b3 = false → D3 = TL from fun e => by rw [hTL, hD3, e]; rfl)
  obtain ⟨W1, hW1⟩ : ∃ x, x = w.alloc (.cells binZ.toArray 63) := ⟨_, rfl⟩
  have hR1 : Arr W1 w.heap.size 63 binZ := by rw [hW1]; exact Arr.new w _ _
  have hO1 : Only (fun b => b = p) w W1 := by rw [hW1]; exact (Only.refl _ w).alloc _
  have hz1 : w.heap.size < W1.heap.size := hR1.lt
  have hI1 : I0 W1 := k0 w W1 h ⟨by omega, fun k hk => by rw [hW1]; exact Below.heap_alloc w _ k (by omega)⟩
  have HW1 := Lib.hid hW1
  have HS1 := Lib.hid hs1
  have HS2 := Lib.hid hs2
  have HS3 := Lib.hid hs3
  clear hW1 hD0 hD1 hD2 hD3 hVL hTL hs1 hs2 hs3 hZ32 h
  go_enter Try.func51, Try.ntmps51
  go_upto_region 1 with fail
  change Code.wp _ _ _ _ (w.alloc (.cells binZ.toArray 63))
  rw [← HW1.out]
  clear HW1
  go_wp2_with fail
  go_at_call 49
  refine Calls.mono (hn0 W1 hI1) ?_
  rintro e w2 ⟨rfl, hI2, ht2⟩
  have hO2 := hO1.trans (TurnN.only ht2)
  have hR2 : Arr w2 w.heap.size 63 binZ := hR1.only (TurnN.only ht2) (by omega)
  have hz2 := ht2.size
  clear hn0 hO1 hR1 hI1 ht2
  go_wp2_with (first
    | (refine wpList_builtD rfl _ _ rfl [(0, .int .i64 (x : Nat))] rfl D0.toArray HB1.out ?_)
    | (change wpList _ _ _ _ _ (w2.alloc (.cells binZ.toArray 63)); refine wpList_store_row rfl _ _ _ rfl w2.heap.size D0.toArray rfl rfl 63 binZ.toArray (heap_alloc_new w2 _) HD0i.out HD0s.out HD01.out ?_; obtain ⟨w3, hw3⟩ : ∃ x, x = (w2.alloc (.cells binZ.toArray 63)).setRow w2.heap.size D0.toArray := ⟨_, rfl⟩; rw [← hw3]; obtain ⟨hX3, hb3⟩ := alloc_rowD w2 63 binZ.toArray D0; rw [← hw3] at hX3 hb3; clear hw3))
  obtain ⟨g, hg⟩ : ∃ g, g = w2.heap.size := ⟨_, rfl⟩
  rw [← hg] at hX3 ⊢
  have hgp : p < g := by omega
  have hgw : w.heap.size < g := by omega
  have hR3 : Arr w3 w.heap.size 63 binZ := hR2.below hb3 hR2.lt
  have hO3 := hO2.step hb3
  have hI3 : I1 w3 := k1 w2 w3 hI2 ⟨hb3.size, fun k hk => hb3.block k (by omega)⟩
  have hz3 := hb3.size
  have hgz : g < w3.heap.size := hX3.lt
  clear hb3 hO2 hR2 hI2 hg hz3 hz2
  refine Calls.mono (hn1 w3 hI3) ?_
  rintro e w4 ⟨rfl, hI4, ht4⟩
  have hX4 := hX3.only (TurnN.only ht4) (by omega)
  have hR4 := hR3.only (TurnN.only ht4) (by omega)
  have hO4 := hO3.trans (TurnN.only ht4)
  have hz4 := ht4.size
  have hc4 : w4.cell? ⟨g, 1, none⟩ = some (.int .i64 0) := by rw [hX4.cell]; exact h01
  have hf4 := hX4.frozen 1
  clear hX3 hR3 hO3 hI3 ht4 hn1
  go_wp2_with fail
  obtain ⟨w5, hw5⟩ : ∃ x, x = w4.setCell ⟨g, 1, none⟩ (.int .i64 (a : Nat)) := ⟨_, rfl⟩
  have hX5 : Arr w5 g 63 D1 := by rw [hw5, ← HS1.out]; exact hX4.set 1 _
  have hR5 : Arr w5 w.heap.size 63 binZ := by rw [hw5]; exact hR4.setOther (Nat.ne_of_lt hgw) _
  have hO5 : Only (fun b => b = p) w w5 := by rw [hw5]; exact hO4.setCell (p := ⟨g, 1, none⟩) (.inr (Nat.le_of_lt hgw)) _
  have hz5 : w5.heap.size = w4.heap.size := by rw [hw5]; simp [World.setCell]
  have hI5 : I2 w5 := k2 w4 w5 hI4 ⟨by omega, fun k hk => by rw [hw5]; exact Below.heap_setCell w4 _ _ k (show k ≠ g by omega)⟩
  rw [← hw5]
  clear hw5 hX4 hR4 hO4 hI4 hc4 hf4
  go_wp2_with fail
  refine Calls.mono (hn2 w5 hI5) ?_
  rintro e w6 ⟨rfl, hI6, ht6⟩
  have hX6 := hX5.only (TurnN.only ht6) (by omega)
  have hR6 := hR5.only (TurnN.only ht6) (by omega)
  have hO6 := hO5.trans (TurnN.only ht6)
  have hz6 := ht6.size
  have hc6 : w6.cell? ⟨g, 2, none⟩ = some (.int .i64 0) := by rw [hX6.cell]; exact h12
  have hf6 := hX6.frozen 2
  clear hX5 hR5 hO5 hI5 ht6 hn2
  go_wp2_with fail
  obtain ⟨w7, hw7⟩ : ∃ x, x = w6.setCell ⟨g, 2, none⟩ (.int .i64 (n : Nat)) := ⟨_, rfl⟩
  have hX7 : Arr w7 g 63 D2 := by rw [hw7, ← HS2.out]; exact hX6.set 2 _
  have hR7 : Arr w7 w.heap.size 63 binZ := by rw [hw7]; exact hR6.setOther (Nat.ne_of_lt hgw) _
  have hO7 : Only (fun b => b = p) w w7 := by rw [hw7]; exact hO6.setCell (p := ⟨g, 2, none⟩) (.inr (Nat.le_of_lt hgw)) _
  have hz7 : w7.heap.size = w6.heap.size := by rw [hw7]; simp [World.setCell]
  have hI7 : I3 w7 := k3 w6 w7 hI6 ⟨by omega, fun k hk => by rw [hw7]; exact Below.heap_setCell w6 _ _ k (show k ≠ g by omega)⟩
  rw [← hw7]
  clear hw7 hX6 hR6 hO6 hI6 hc6 hf6
  go_wp2_with fail
  refine Calls.mono (hdig w7 hI7) ?_
  rintro e w8 ⟨rfl, hI8, ht8⟩
  have hX8 := hX7.only (TurnN.only ht8) (by omega)
  have hR8 := hR7.only (TurnN.only ht8) (by omega)
  have hO8 := hO7.trans (TurnN.only ht8)
  have hz8 := ht8.size
  have hoff : 3 + VL.toArray.size ≤ D2.length := by rw [List.size_toArray, hVl, hD2l]; omega
  have hth := Lib.hid (there_of_arr hX8 hoff)
  obtain ⟨w9, hw9⟩ : ∃ x, x = w8.setCells g 3 VL := ⟨_, rfl⟩
  have hX9 : Arr w9 g 63 D3 := by rw [hw9, ← HS3.out]; exact Arr.setIn VL 3 _ w8 hX8 (by rw [List.size_toArray] at hoff; exact hoff)
  have hOg : Only (fun b => b = g) w8 w9 := by rw [hw9]; exact Only.setIn (R := fun b => b = g) rfl VL 3 w8 (Only.refl _ _)
  have hR9 : Arr w9 w.heap.size 63 binZ := hR8.only hOg (by omega)
  have hO9 : Only (fun b => b = p) w w9 := hO8.then hOg (fun i hi => .inr (by omega))
  have hz9 : w9.heap.size = w8.heap.size := by rw [hw9]; exact setCells_size _ _ _ _
  have hI9 : I4 w9 := k4 w8 w9 hI8 ⟨by omega, fun k hk => hOg.block k (by omega) (by omega)⟩
  have Hw9 := Lib.hid hw9
  clear hw9 hX7 hR7 hO7 hI7 ht8 hdig hX8 hR8 hO8 hOg hoff
  have hwc := hwr w9 hI9
  go_upto_region 5 with (first | (refine wpList_store_mid rfl 24 _ _ rfl g 3 VL.toArray rfl rfl hth.out HVi.out HV1.out ?_; rw [show VL.toArray.toList = VL from rfl, ← Hw9.out]))
  have hR9h : Hid (w9.heap[w.heap.size]? = some (.cells binZ.toArray 63 (0, 0))) := hR9
  have hset := hR9.setRow TL
  have hOz : Only (fun b => b = p) w (w9.setRow w.heap.size TL.toArray) := hO9.setRow (.inr (Nat.le_refl _)) _
  have hIz : I4 (w9.setRow w.heap.size TL.toArray) := k4 w9 _ hI9 ⟨by simp, fun k hk => setRow_other w9 _ k _ (by omega)⟩
  cases b3
  · skip
    have e := He.out (by first | rfl | trivial)
    subst e
    go_wp2_with (first
      | (refine wpList_load_row rfl _ _ rfl g rfl 63 D3.toArray (0, 0) _ hX9 Try.underlying63 rfl HD3i.out ?_)
      | (refine wpList_store_row rfl _ _ _ rfl w.heap.size D3.toArray rfl rfl 63 binZ.toArray hR9h.out HTLi.out HTLs.out HTL1.out ?_))
    exact bodyPost_ret (v := .agg D3.toArray) (results_cell_row (by rfl) _ _ w.heap.size 63 D3.toArray (0, 0) _ (by rfl) hset Try.underlying63 rfl HTLi.out) rfl ⟨rfl, hIz, Only.turnN hOz⟩
  · have Hz2 := Lib.hid (Hz.out (by first | rfl | trivial))
    skip
    go_wp2_with (first
      | (refine wpList_builtD rfl _ _ rfl [] rfl TL.toArray Hz2.out ?_)
      | (refine wpList_store_row rfl _ _ _ rfl w.heap.size TL.toArray rfl rfl 63 binZ.toArray hR9h.out HTLi.out HTLs.out HTL1.out ?_))
    exact bodyPost_ret (v := .agg TL.toArray) (results_cell_row (by rfl) _ _ w.heap.size 63 TL.toArray (0, 0) _ (by rfl) hset Try.underlying63 rfl HTLi.out) rfl ⟨rfl, hIz, Only.turnN hOz⟩


theorem numF_leN (most : Nat) (l : List UInt8) : (numF most l).1 ≤ most := by
  unfold numF
  split
  · exact Nat.zero_le _
  · rename_i h; exact Nat.le_of_not_lt (fun e => h (.inr e))
theorem ntake_at (L l1 l2 l3 l4 : List UInt8) (b1 b2 b3 b4 : Bool) (d : List UInt8) (x a n : Nat) (hx : (numF 2147483647 L).1 = x) (h1 : (numF 2147483647 L).2.1 = l1) (hb1 : (numF 2147483647 L).2.2 = b1)
    (ha : (numF 65535 l1).1 = a) (h2 : (numF 65535 l1).2.1 = l2) (hb2 : (b1 || (numF 65535 l1).2.2) = b2) (hn : (numF 65536 l2).1 = n) (h3 : (numF 65536 l2).2.1 = l3) (hb3 : (b2 || (numF 65536 l2).2.2) = b3)
    (hd : digF l3 = d) (h4 : (cutF 32 l3).2.1 = l4) (hb4 : (b3 || (cutF 32 l3).2.2) = b4)
    (TL : List Value) (hTL : TL = tkN x a n d b4) (p : Nat) (w : World) (h : PIn w p L false) :
    Calls Try.prog 40 #[.pointer (some ⟨p, 0, none⟩)] w fun e w' => e = .returned (.agg TL.toArray) ∧ PIn w' p l4 b4 ∧ Turn p w w' := by
  refine ntake_gen p (fun w => PIn w p L false) (fun w => PIn w p l1 b1) (fun w => PIn w p l2 b2) (fun w => PIn w p l3 b3) (fun w => PIn w p l4 b4) d (by rw [← hd]; exact digF_length l3) (Lib.byteCells d) rfl x a n (by rw [← hx]; exact numF_leN _ _) (by rw [← ha]; exact numF_leN _ _) (by rw [← hn]; exact numF_leN _ _) b4 TL hTL
    (fun _ _ h k => h.lowN k) (fun _ _ h k => h.lowN k) (fun _ _ h k => h.lowN k) (fun _ _ h k => h.lowN k) (fun _ _ h k => h.lowN k) (fun w h => ?_) (fun w h => ?_) (fun w h => ?_) (fun w h => ?_) (fun w h => ?_) w h h.lt
  · refine (show Calls Try.prog 37 #[.pointer (some ⟨p, 0, none⟩), .int .u64 2147483647] w _ from number_in p 2147483647 L false w h (by omega)).mono ?_
    rintro e w' ⟨he, hp, ht⟩
    rw [h1, hb1, Bool.false_or] at hp
    exact ⟨by rw [he, hx], hp, ht⟩
  · refine (show Calls Try.prog 37 #[.pointer (some ⟨p, 0, none⟩), .int .u64 65535] w _ from number_in p 65535 l1 b1 w h (by omega)).mono ?_
    rintro e w' ⟨he, hp, ht⟩
    rw [h2, hb2] at hp
    exact ⟨by rw [he, ha], hp, ht⟩
  · refine (show Calls Try.prog 37 #[.pointer (some ⟨p, 0, none⟩), .int .u64 65536] w _ from number_in p 65536 l2 b2 w h (by omega)).mono ?_
    rintro e w' ⟨he, hp, ht⟩
    rw [h3, hb3] at hp
    exact ⟨by rw [he, hn], hp, ht⟩
  · refine (digest_in p l3 b3 w h).mono ?_
    rintro e w' ⟨he, hp, ht⟩
    rw [h4, hb4] at hp
    exact ⟨by rw [he, hd]; rfl, hp, ht⟩
  · refine (wrong_in p l4 b4 w h).mono ?_
    rintro e w' ⟨he, hw⟩
    exact ⟨he, hw.symm⟩

theorem rntake_at (L : List UInt8) (A : Option Addr) (c o1 o2 o3 o4 : Nat) (b1 b2 b3 b4 : Bool) (d : List UInt8) (x a n : Nat) (hx : (rnF 2147483647 L 0 false).1 = x) (h1 : (rnF 2147483647 L 0 false).2.1 = o1) (hb1 : (rnF 2147483647 L 0 false).2.2 = b1)
    (ha : (rnF 65535 L o1 b1).1 = a) (h2 : (rnF 65535 L o1 b1).2.1 = o2) (hb2 : (rnF 65535 L o1 b1).2.2 = b2) (hn : (rnF 65536 L o2 b2).1 = n) (h3 : (rnF 65536 L o2 b2).2.1 = o3) (hb3 : (rnF 65536 L o2 b2).2.2 = b3)
    (hd : rdF L o3 b3 = d) (hdl : d.length = 32) (h4 : (takeF 32 L o3 b3).2.1 = o4) (hb4 : (takeF 32 L o3 b3).2.2 = b4) (k1 : o1 ≤ L.length) (k2 : o2 ≤ L.length) (k3 : o3 ≤ L.length)
    (hxl : x ≤ 2147483647) (hal : a ≤ 65535) (hnl : n ≤ 65536) (TL : List Value) (hTL : TL = tkN x a n d b4) (p : Nat) (w : World) (h : RIn w p L A c 0 false) (hf : RFix w p L A c) :
    Calls Try.prog 51 #[.pointer (some ⟨p, 0, none⟩)] w fun e w' => e = .returned (.agg TL.toArray) ∧ (RIn w' p L A c o4 b4 ∧ RFix w' p L A c) ∧ Turn p w w' := by
  refine rntake_gen p (fun w => RIn w p L A c 0 false ∧ RFix w p L A c) (fun w => RIn w p L A c o1 b1 ∧ RFix w p L A c) (fun w => RIn w p L A c o2 b2 ∧ RFix w p L A c) (fun w => RIn w p L A c o3 b3 ∧ RFix w p L A c) (fun w => RIn w p L A c o4 b4 ∧ RFix w p L A c) d hdl (Lib.byteCells d) rfl x a n hxl hal hnl b4 TL hTL
    (fun _ _ h k => ⟨h.1.lowN k, h.2.lowN k⟩) (fun _ _ h k => ⟨h.1.lowN k, h.2.lowN k⟩) (fun _ _ h k => ⟨h.1.lowN k, h.2.lowN k⟩) (fun _ _ h k => ⟨h.1.lowN k, h.2.lowN k⟩) (fun _ _ h k => ⟨h.1.lowN k, h.2.lowN k⟩) (fun w h => ?_) (fun w h => ?_) (fun w h => ?_) (fun w h => ?_) (fun w h => ?_) w ⟨h, hf⟩ h.lt
  · refine (show Calls Try.prog 49 #[.pointer (some ⟨p, 0, none⟩), .int .u64 2147483647] w _ from rnumber_in p 2147483647 L A c 0 false w h.1 h.2 (Nat.zero_le _) (by omega)).mono ?_
    rintro e w' ⟨he, hp, ht⟩
    rw [h1, hb1] at hp
    exact ⟨by rw [he, hx], ⟨hp, h.2.turn ht h.1.lt⟩, ht⟩
  · refine (show Calls Try.prog 49 #[.pointer (some ⟨p, 0, none⟩), .int .u64 65535] w _ from rnumber_in p 65535 L A c o1 b1 w h.1 h.2 k1 (by omega)).mono ?_
    rintro e w' ⟨he, hp, ht⟩
    rw [h2, hb2] at hp
    exact ⟨by rw [he, ha], ⟨hp, h.2.turn ht h.1.lt⟩, ht⟩
  · refine (show Calls Try.prog 49 #[.pointer (some ⟨p, 0, none⟩), .int .u64 65536] w _ from rnumber_in p 65536 L A c o2 b2 w h.1 h.2 k2 (by omega)).mono ?_
    rintro e w' ⟨he, hp, ht⟩
    rw [h3, hb3] at hp
    exact ⟨by rw [he, hn], ⟨hp, h.2.turn ht h.1.lt⟩, ht⟩
  · refine (rdigest_in p L A c o3 b3 w h.1 h.2 k3).mono ?_
    rintro e w' ⟨he, hp, ht⟩
    rw [h4, hb4] at hp
    exact ⟨by rw [he, hd]; rfl, ⟨hp, h.2.turn ht h.1.lt⟩, ht⟩
  · exact h.1.cells.2.2.1

theorem ntakes_both (L : List UInt8) : ∃ (d : List UInt8) (x a n : Nat) (b4 : Bool) (l4 : List UInt8) (o4 : Nat), d.length = 32 ∧ Rel l4 L o4 b4 ∧
    (∀ (TL : List Value) (p : Nat) (w : World), TL = tkN x a n d b4 → PIn w p L false → Calls Try.prog 40 #[.pointer (some ⟨p, 0, none⟩)] w fun e w' => e = .returned (.agg TL.toArray) ∧ PIn w' p l4 b4 ∧ Turn p w w') ∧
    (∀ (TL : List Value) (q : Nat) (A : Option Addr) (c : Nat) (w : World), TL = tkN x a n d b4 → RIn w q L A c 0 false → RFix w q L A c → Calls Try.prog 51 #[.pointer (some ⟨q, 0, none⟩)] w fun e w' => e = .returned (.agg TL.toArray) ∧ (RIn w' q L A c o4 b4 ∧ RFix w' q L A c) ∧ Turn q w w') := by
  have r0 : Rel L L 0 false := ⟨fun _ => rfl, (fun h => by cases h), Nat.zero_le _⟩
  obtain ⟨a1, e1, r1⟩ := rel_num r0 2147483647
  rw [Bool.false_or] at e1
  obtain ⟨a2, e2, r2⟩ := rel_num r1 65535
  obtain ⟨a3, e3, r3⟩ := rel_num r2 65536
  obtain ⟨_, e4, r4⟩ := rel_cut r3 32 (fun _ => by omega)
  have ed := rel_dig r3
  refine ⟨digF (numF 65536 (numF 65535 (numF 2147483647 L).2.1).2.1).2.1, (numF 2147483647 L).1, (numF 65535 (numF 2147483647 L).2.1).1, (numF 65536 (numF 65535 (numF 2147483647 L).2.1).2.1).1, _, _, _, digF_length _, r4, fun TL p w hT h => ?_, fun TL q A c w hT h hf => ?_⟩
  · exact ntake_at L _ _ _ _ _ _ _ _ _ _ _ _ rfl rfl rfl rfl rfl rfl rfl rfl rfl rfl rfl (by rw [e1, e2, e3]; exact e4) TL hT p w h
  · exact rntake_at L A c _ _ _ _ _ _ _ _ _ _ _ _ a1.symm rfl rfl a2.symm rfl rfl a3.symm rfl rfl ed.symm (digF_length _) rfl rfl r1.2.2 r2.2.2 r3.2.2 (numF_leN _ _) (numF_leN _ _) (numF_leN _ _) TL hT q w h hf

theorem numF_backN (most v : Nat) (r : List UInt8) (h : v ≤ most) (hv : v < 18446744073709551616) : numF most (Lib.uvarint v ++ r) = (v, r, false) := by
  unfold numF
  rw [lead_uv v r hv]
  have := Lib.uvarint_pos v
  rw [if_neg (by simp only; omega)]
  simp

theorem ntake_back (d : List UInt8) (hd : d.length = 32) (x a n : Nat) (hx : x ≤ 2147483647) (ha : a ≤ 65535) (hn : n ≤ 65536) (TL : List Value) (hTL : TL = binC (x : Nat) (a : Nat) (n : Nat) d) (p : Nat) (w : World) (h : PIn w p (binB x a n d) false) :
    Calls Try.prog 40 #[.pointer (some ⟨p, 0, none⟩)] w fun e w' => e = .returned (.agg TL.toArray) ∧ PIn w' p [] false ∧ Turn p w w' := by
  have hB : binB x a n d = Lib.uvarint x ++ (Lib.uvarint a ++ (Lib.uvarint n ++ d)) := by
    unfold binB
    rw [uN_nat (by omega), uN_nat (by omega), uN_nat (by omega)]
    simp
  have e1 := numF_backN 2147483647 x (Lib.uvarint a ++ (Lib.uvarint n ++ d)) hx (by omega)
  have e2 := numF_backN 65535 a (Lib.uvarint n ++ d) ha (by omega)
  have e3 := numF_backN 65536 n d hn (by omega)
  have hl : ¬ (d.length < 32) := by omega
  have hc : cutF 32 d = (d, [], false) := by
    unfold cutF; rw [if_neg hl, List.take_of_length_le (by omega), List.drop_of_length_le (by omega)]
  refine ntake_at (binB x a n d) (Lib.uvarint a ++ (Lib.uvarint n ++ d)) (Lib.uvarint n ++ d) d [] false false false false d x a n (by rw [hB, e1]) (by rw [hB, e1]) (by rw [hB, e1]) (by rw [e2]) (by rw [e2]) (by rw [e2]; rfl) (by rw [e3]) (by rw [e3]) (by rw [e3]; rfl) ?_ (by rw [hc]) (by rw [hc]; rfl) TL (by rw [hTL]; rfl) p w h
  unfold digF
  rw [if_neg hl, List.take_of_length_le (by omega)]



theorem bin_fields : (Try.prog.fieldsOf 63).toList.map (fun f => (f.name == "_", f.type, f.offset)) = [(false, 3, 0), (false, 3, 1), (false, 3, 2), (false, 24, 3)] := by kernel_rfl

theorem bin_held : Try.prog.stoodInHeld 63 = false := by kernel_rfl

theorem bin_under : Try.prog.underlying 63 = some (.struct (Try.prog.fieldsOf 63)) := by kernel_rfl

theorem gtNN : Try.prog.eqGuardType Try.prog.depth 63 = false := by kernel_rfl

theorem bin_dig_part {d : List UInt8} (hd : d.length = 32) (x a n : Int) (w : World) : (part 24 (binC x a n d).toArray 3).run Try.prog w = .ok (.agg (Lib.byteCells d).toArray) w := by
  have hs : (Try.prog.info? 24).map (·.size) = some 32 := digInfo
  have hu := Try.underlying24
  have hl : (Lib.byteCells d).length = 32 := by rw [Lib.byteCells_length, hd]
  cases hq : Try.prog.info? 24 with
  | none => simp [hq] at hs
  | some i0 =>
    have h1 : i0.size = 32 := by simpa [hq] using hs
    have e : List.take 32 ((binC x a n d).drop 3) = Lib.byteCells d := by
      show List.take 32 (Lib.byteCells d) = _
      rw [List.take_of_length_le (Nat.le_of_eq hl)]
    simp [part, isAgg, run_underlying hu, sizeOf, typeInfo, hq, h1, e]

theorem bin_int_part (d : List UInt8) (x a n : Int) (w : World) : (part 3 (binC x a n d).toArray 0).run Try.prog w = .ok (.int .i64 x) w ∧ (part 3 (binC x a n d).toArray 1).run Try.prog w = .ok (.int .i64 a) w ∧ (part 3 (binC x a n d).toArray 2).run Try.prog w = .ok (.int .i64 n) w := by
  have hu := Try.underlying3
  have h := binC_at x a n d
  refine ⟨?_, ?_, ?_⟩ <;> simp [part, isAgg, run_underlying hu, h.1, h.2.1, h.2.2]

theorem bin_list : ∃ f g h k : Field, (Try.prog.fieldsOf 63).toList = [f, g, h, k] ∧ (f.name ≠ "_" ∧ f.type = 3 ∧ f.offset = 0) ∧ (g.name ≠ "_" ∧ g.type = 3 ∧ g.offset = 1) ∧ (h.name ≠ "_" ∧ h.type = 3 ∧ h.offset = 2) ∧ (k.name ≠ "_" ∧ k.type = 24 ∧ k.offset = 3) := by
  have h := bin_fields
  revert h
  generalize (Try.prog.fieldsOf 63).toList = l
  intro h
  cases l with
  | nil => simp at h
  | cons f l => cases l with
    | nil => simp at h
    | cons g l => cases l with
      | nil => simp at h
      | cons k l => cases l with
        | nil => simp at h
        | cons u l => cases l with
          | cons _ _ => simp at h
          | nil =>
            simp only [List.map_cons, List.map_nil, List.cons.injEq, Prod.mk.injEq, beq_eq_false_iff_ne, and_true] at h
            exact ⟨f, g, k, u, rfl, h.1, h.2.1, h.2.2.1, h.2.2.2⟩

theorem eqFieldsN_yes {P : Program} {d : Nat} {xs ys : Array Value} {f : Field} {fs : List Field} {w : World} {a b : Value} (hn : f.name ≠ "_") (ha : (part f.type xs f.offset).run P w = .ok a w) (hb : (part f.type ys f.offset).run P w = .ok b w) (he : (Op.equalIn d f.type a b).run P w = .ok true w) :
    (Op.eqFields d xs ys (f :: fs)).run P w = (Op.eqFields d xs ys fs).run P w := by
  rw [Op.eqFields, if_pos hn]
  simp only [Sem.run_bind, ha, hb, he, Result.andThen_ok, Bool.not_true, Bool.false_eq_true, if_false]

theorem eqFieldsN_nil {P : Program} {d : Nat} {xs ys : Array Value} {w : World} : (Op.eqFields d xs ys []).run P w = .ok true w := by
  rw [Op.eqFields, Sem.run_pure]

set_option maxRecDepth 100000 in
theorem dig_eqvN_at (e : Nat) (X : List UInt8) (hX : X.length = 32) (w : World) :
    (Op.equalIn (e + 1 + 1) 24 (.agg (Lib.byteCells X).toArray) (.agg (Lib.byteCells X).toArray)).run Try.prog w = .ok true w := by
  have hi : Try.prog.info? 5 = some ((Try.prog.info? 5).get (by kernel_rfl)) := (Option.some_get _).symm
  have h1 := run_equalIn_array (P := Try.prog) (w := w) (e + 1) (Lib.byteCells X).toArray (Lib.byteCells X).toArray Try.underlying24 hi
  have hc : Try.prog.cellsOf 5 = 1 := by kernel_rfl
  rw [hc, eqItems_bytes e X X w (List.range 32) (fun i hi => by have := List.mem_range.1 hi; omega), all_getD hX hX] at h1
  rw [h1]
  simp

theorem bin_refl (d : List UInt8) (hd : d.length = 32) (x a n : Int) (XL : List Value) (hXL : XL = binC x a n d) (w : World) : (Op.equalIn 10000 63 (.agg XL.toArray) (.agg XL.toArray)).run Try.prog w = .ok true w := by
  subst hXL
  obtain ⟨f, g, h, k, hl, ⟨f1, f2, f3⟩, ⟨g1, g2, g3⟩, ⟨h1, h2, h3⟩, ⟨k1, k2, k3⟩⟩ := bin_list
  show (Op.equalIn (9997 + 1 + 1 + 1) _ _ _).run _ _ = _
  rw [run_equalIn_struct w (9997 + 1 + 1) 63 _ _ bin_under bin_held, hl]
  obtain ⟨p1, p2, p3⟩ := bin_int_part d x a n w
  have p4 := bin_dig_part hd x a n w
  have q0 : ∀ z : Int, (Op.equalIn (9997 + 1 + 1) 3 (.int .i64 z) (.int .i64 z)).run Try.prog w = .ok true w := fun z => by
    rw [run_equalIn_int w (9997 + 1) 3 .i64 .i64 z z Try.underlying3]; simp
  have q4 := dig_eqvN_at 9997 d hd w
  rw [eqFieldsN_yes f1 (by rw [f2, f3]; exact p1) (by rw [f2, f3]; exact p1) (by rw [f2]; exact q0 x)]
  rw [eqFieldsN_yes g1 (by rw [g2, g3]; exact p2) (by rw [g2, g3]; exact p2) (by rw [g2]; exact q0 a)]
  rw [eqFieldsN_yes h1 (by rw [h2, h3]; exact p3) (by rw [h2, h3]; exact p3) (by rw [h2]; exact q0 n)]
  rw [eqFieldsN_yes k1 (by rw [k2, k3]; exact p4) (by rw [k2, k3]; exact p4) (by rw [k2]; exact q4), eqFieldsN_nil]

end Go.Proofs.Ytlfddijmanlneaa

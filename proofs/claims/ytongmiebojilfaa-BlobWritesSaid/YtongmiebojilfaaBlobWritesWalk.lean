/-
  The walk of BlobWrites.
-/
import Derived.Test.YtongmiebojilfaaBlobReadsWalk
import Derived.Test.YtongmiebojilfaaBlobLaid
namespace Go.Proofs.Ytongmiebojilfaa
open Go.RowKit
set_option linter.unusedVariables false
set_option linter.unusedSimpArgs false

theorem range_below {w w' : World} {B g o : Nat} {cs : List Value} (h : w.rangeAt g o cs) (hb : Below B w w') (hg : g < B) : w'.rangeAt g o cs := fun j v hj => (hb.cell (p := ⟨g, _, none⟩) hg).trans (h j v hj)
theorem sec_range {w : World} {g : Nat} {S : List (List UInt8)} (h : w.rangeAt g 0 (secC S)) (h64 : ∀ s ∈ S, s.length = 64) {i : Nat} (hi : i < S.length) : w.rangeAt g (i * 64) (Lib.byteCells (S.getD i [])) := fun j v hj => by
  have := h (i * 64 + j) v (secC_at h64 hi j v hj)
  rwa [Nat.zero_add] at this
/-- The sector of before. -/
def preS (i : Nat) : List UInt8 := 238 :: i.toUInt8 :: List.replicate 62 0
theorem preS_length (i : Nat) : (preS i).length = 64 := by simp [preS]
def preL (n : Nat) : List (List UInt8) := (List.range n).map preS
theorem preL_length (n : Nat) : (preL n).length = n := by simp [preL]
theorem preL_64 (n : Nat) : ∀ s ∈ preL n, s.length = 64 := fun s hs => by
  obtain ⟨i, _, rfl⟩ := List.mem_map.1 hs
  exact preS_length i
theorem preL_getD {n i : Nat} (h : i < n) : (preL n).getD i [] = preS i := by simp [preL, List.getD, h]
set_option maxRecDepth 100000 in
theorem pre_built (i : Nat) (h : i < 256) : Try.prog.built 30 [(0, .int .u8 238), (1, .int .u8 (i : Nat))] = some (Lib.byteCells (preS i)).toArray := by
  have e : Lib.byteCells (preS i) = .int .u8 238 :: .int .u8 (i : Nat) :: List.replicate 62 (.int .u8 0) := by
    unfold preS Lib.byteCells
    simp only [List.map_cons, List.map_replicate, Lib.toUInt8_toNat h]
    rfl
  rw [e]
  rfl
/-- What is there behind the write. -/
def aftS (n a : Nat) (b : List UInt8) : List (List UInt8) := putF (preL n) a b (secsF b.length)
theorem aftS_length (n a : Nat) (b : List UInt8) : (aftS n a b).length = n := by unfold aftS; rw [putF_length, preL_length]
theorem aftS_64 (n a : Nat) (b : List UInt8) : ∀ s ∈ aftS n a b, s.length = 64 := putF_64 b (preL_64 n)
theorem aftS_in {n a : Nat} {b : List UInt8} {i : Nat} (h : a + secsF b.length ≤ n) (h1 : a ≤ i) (h2 : i < a + secsF b.length) : (aftS n a b).getD i [] = secAtF b (i - a) := by
  have := putF_at (S := preL n) (a := a) b (i := secsF b.length) (j := i - a) (by rw [preL_length]; exact h) (by omega)
  rw [show a + (i - a) = i by omega] at this
  exact this
theorem aftS_off {n a : Nat} {b : List UInt8} {i : Nat} (h : i < a ∨ a + secsF b.length ≤ i) : (aftS n a b).getD i [] = (preL n).getD i [] := by
  unfold aftS
  simp only [List.getD]
  rw [putF_off b h]

set_option maxHeartbeats 8000000 in
set_option maxRecDepth 100000 in
theorem bwrites_great (z a : Int) (A : Option Addr) (n c : Nat) (w : World) (h : z < 1 ∨ 200 < z ∨ 3000 < n) :
    Calls Try.prog 3 #[.int .i64 z, .int .i64 a, .slice A n c] w fun e w' => e = .returned (.bool true) ∧ Below w.heap.size w w' := by
  have hd : decide (z < (1 : Int)) = true ∨ (decide (z < (1 : Int)) = false ∧ decide ((200 : Int) < z) = true) ∨ (decide (z < (1 : Int)) = false ∧ decide ((200 : Int) < z) = false ∧ decide ((3000 : Int) < (n : Int)) = true) := by
    simp only [decide_eq_true_eq, decide_eq_false_iff_not]
    omega
  clear h
  rcases hd with h1 | ⟨h1, h2⟩ | ⟨h1, h2, h3⟩
  all_goals
    go_enter Try.func3, Try.ntmps3
    go_wp2_with fail
    refine Calls.mono (bspeaks_true w) ?_
    rintro e w1 ⟨rfl, hB1⟩
    go_wp2_with fail
    go_ret
    exact ⟨rfl, hB1⟩

theorem wpList_load_row_ifB {P : Program} {ops : Array Oper} {rest : List Oper} {o : Oper} {a : Act} {w : World} {Q : Exit → Act → World → Prop} (hw : Region.wanted o (yielded ops a.tmps) = true) (ty : TypeId) (x : Operand) (ho : o.op = .load ty x) (g : Nat) (hx : a.eval x = .pointer (some ⟨g, 0, none⟩))
    (t : TypeId) (cs : Array Value) (d : TypeDesc) (hg : w.heap[g]? = some (.cells cs t (0, 0))) (hu : P.underlying ty = some d) (hd : (match d with | .struct _ | .array _ _ => true | _ => false) = true) (hi : (P.info? ty).map (·.size) = some cs.size)
    (h : wpList P ops Q rest (a.put o.dst (.agg cs)) w) : wpList P ops Q (o :: rest) a w :=
  wpList_step fun K hK => by
    rw [if_pos hw]
    unfold Oper.wp execOp
    simp only [ho, hx, Sem.run_bind, run_loadAt_row w g t ty cs d hg hu hd hi, Result.andThen_ok]
    exact hK _ _ h
theorem wpList_built_ifB {P : Program} {ops : Array Oper} {rest : List Oper} {o : Oper} {a : Act} {w : World} {Q : Exit → Act → World → Prop} (hw : Region.wanted o (yielded ops a.tmps) = true) (t : TypeId) (parts : Array (Nat × Operand)) (ho : o.op = .build t parts)
    (ps : List (Nat × Value)) (hp : parts.toList.map (fun x => (x.1, a.eval x.2)) = ps) (cells : Array Value) (hf : P.built t ps = some cells)
    (h : wpList P ops Q rest (a.put o.dst (.agg cells)) w) : wpList P ops Q (o :: rest) a w :=
  wpList_step fun K hK => by
    rw [if_pos hw]
    unfold Oper.wp execOp
    simp only [ho, Sem.run_bind, run_build w t _ cells (show P.built t (parts.map fun (i, x) => (i, a.eval x)).toList = some cells by rw [← hf, ← hp]; simp), Result.andThen_ok]
    exact hK _ _ h

theorem owns_emptyB (w : World) (B : Nat) (hB : B ≤ w.heap.size) : Owns (w.alloc (.cells #[] 5)) B 5 (.slice (some ⟨w.heap.size, 0, none⟩) 0 0) [] :=
  ⟨by simp [Lib.byteCells], .inr ⟨w.heap.size, 0, #[], rfl, hB, heap_alloc_new w _, Nat.le_refl _, by unfold maxLen; omega, by simp, by simp [Lib.byteCells]⟩⟩

set_option maxHeartbeats 32000000 in
set_option maxRecDepth 100000 in
theorem bwrites_in (m : Nat) (a : Int) (A : Option Addr) (n c : Nat) (bs : List UInt8) (hbl : bs.length = n) (hnc : n ≤ c) (hcm : c ≤ maxLen) (ha0 : -9223372036854775808 ≤ a) (ha1 : a ≤ 9223372036854775807) (w : World) (hA : Bs w w.heap.size A bs) (hm1 : 1 ≤ m) (hm2 : m ≤ 200) (hn3 : n ≤ 3000) :
    Calls Try.prog 3 #[.int .i64 (m : Nat), .int .i64 a, .slice A n c] w fun e w' => e = .returned (.bool true) ∧ Below w.heap.size w w' := by
  obtain ⟨i0, hi, hi0, hi1, hi2⟩ := info_parts byteInfo
  have hcm63 : c ≤ 9223372036854775807 := by unfold maxLen at hcm; exact hcm
  have Hbl := Lib.hid hbl
  have hd1 : decide ((m : Int) < (1 : Int)) = false := by simp; omega
  have hd2 : decide ((200 : Int) < (m : Int)) = false := by simp; omega
  have hd3 : decide ((3000 : Int) < (n : Int)) = false := by simp; omega
  clear hbl
  go_enter Try.func3, Try.ntmps3
  go_wp2_with fail
  refine Calls.mono (bspeaks_true w) ?_
  rintro e w1 ⟨rfl, hB1⟩
  go_wp2_with fail
  go_at_call 9
  refine Calls.mono (show Calls Try.prog 9 #[.int .i64 (m : Nat)] w1 (NewPost m w1) from new_yes m w1 hm1 (by omega)) ?_
  rintro e w2 ⟨k, rfl, hD2, hb2⟩
  obtain ⟨B, hB⟩ : ∃ B, B = w.heap.size := ⟨_, rfl⟩
  rw [← hB] at hB1
  have hBw : B ≤ w1.heap.size := by have := hB1.size; omega
  have hB2 : Below B w w2 := hB1.trans (hb2.mono hBw)
  have hF2 : ∀ b, newF (fun _ => False) w1 w2 b → B ≤ b := fun b h => h.elim (fun h => h.elim) (fun h => Nat.le_trans hBw h.1)
  rw [← firstS_zero (preL m) m] at hD2
  obtain ⟨Z, hZ⟩ : ∃ Z, Z = firstS (preL m) m 0 := ⟨_, rfl⟩
  have hD2' : Disk w2 (newF (fun _ => False) w1 w2) k m (firstS (preL m) m 0) Z [] false 0 := by rw [hZ]; exact hD2
  have hSl := preL_length m
  clear hb2 hB1 hZ hD2 hd1 hd2 hd3 hBw
  go_wp2_with fail
  go_loopw [9] (fun x wr => ∃ (j : Nat) (F : Nat → Prop) (W : List WrF), x = .int .i64 j ∧ j ≤ m ∧ Disk wr F k m (firstS (preL m) m j) Z W false 0 ∧ W.length ≤ j ∧ (∀ b, F b → B ≤ b) ∧ Below B w wr) (fun x _ => m - (intOf x).toNat)
  case atStart => exact ⟨0, _, _, rfl, Nat.zero_le _, hD2', Nat.le_refl _, hF2, hB2⟩
  case round =>
    clear hD2' hF2 hB2
    obtain ⟨j, F, W, rfl, hjn, hDq, hWj, hFb, hBq⟩ := hrel
    obtain ⟨wq, hwq⟩ : ∃ x, x = wr := ⟨_, rfl⟩
    subst hwq
    have hBs : B ≤ wq.heap.size := by have := hBq.size; omega
    by_cases hlt : j < m
    · have hstep := firstS_step (S := preL m) hSl hlt
      rw [preL_getD hlt] at hstep
      obtain ⟨XL, hXL⟩ : ∃ l, l = Lib.byteCells (preS j) := ⟨_, rfl⟩
      have HXb := Lib.hid (show Try.prog.built 30 [(0, .int .u8 238), (1, .int .u8 (j : Nat))] = some XL.toArray by rw [hXL]; exact pre_built j (by omega))
      have HXL := Lib.hid hXL
      have Hst := Lib.hid hstep
      have hjI : decide ((j : Int) < (m : Int)) = true := by simp; exact hlt
      have hjN : decide (j < m) = true := by simp; exact hlt
      have hju : IntKind.u8.wrap (j : Int) = (j : Int) := IntWalk.u8_in _ (by omega)
      clear hXL hstep
      go_wp2_with (first
        | (refine wpList_builtD rfl _ _ rfl [(0, .int .u8 238), (1, .int .u8 (j : Nat))] rfl XL.toArray HXb.out ?_))
      refine Calls.mono (write_live F k m j (firstS (preL m) m j) Z W false 0 (preS j) XL wq hDq rfl hlt (preS_length j) HXL.out (by omega)) ?_
      rintro e w5 ⟨rfl, hD5, hO5⟩
      rw [Hst.out] at hD5
      have hB5 : Below B w w5 := hBq.trans (hO5.below hBs hFb)
      have hF5 : ∀ b, newF F wq w5 b → B ≤ b := fun b h => h.elim (hFb b) (fun h => Nat.le_trans hBs h.1)
      clear hDq hO5
      go_wp2_with fail
      go_roundw
      case rel => exact ⟨j + 1, _, _, by go_num, by omega, hD5, by rw [List.length_append]; simp; omega, hF5, hB5⟩
      case measure => simp [intOf]; omega
    · obtain rfl : j = m := by omega
      rw [firstS_all hSl] at hDq
      have hjI : decide ((j : Int) < (j : Int)) = false := by simp
      have hjN : decide (j < j) = false := by simp
      go_wp2_with fail
      go_at_call 11
      refine Calls.mono hDq.image ?_
      rintro e w3 ⟨gb, cb, rfl, hrb, hgb1, hgb2, hcb1, hcb2, hb3⟩
      have hD3 := hDq.below hb3
      have hB3 : Below B w w3 := hBq.trans (hb3.mono hBs)
      have hszF : ∀ b, F b → b < w3.heap.size := hD3.Flt
      have hgbF : ¬ F gb := fun e => by have := hDq.Flt gb e; omega
      have hBs3 : B ≤ w3.heap.size := Nat.le_trans hBs hb3.size
      have hA3 : Bs w3 B A bs := by rw [hB]; exact hA.below (hB ▸ hB3) (Nat.le_refl _)
      clear hDq hBq hb3 hBs hgb1
      go_wp2_with (at_builtin; refine wpList_append_bs rfl _ _ 22 rfl w3.heap.size 5 i0 (.int .u8 0) Try.underlying22 hi hi0 hi1 hi2 rfl (.slice (some ⟨w3.heap.size, 0, none⟩) 0 0) [] rfl (owns_emptyB w3 w3.heap.size (Nat.le_refl _)) B A n c bs rfl Hbl.out (hA3.alloc hBs3 _) (by simp; omega) (by simp) ?_; intro v4 w4 hown4 hg4)
      have hrow0 : ∀ q, (Value.slice (some ⟨w3.heap.size, 0, none⟩) 0 0).ownBlock = some q → w3.heap.size ≤ q := fun q hq => by
        simp only [Value.ownBlock, Option.some.injEq] at hq
        omega
      rw [List.nil_append] at hown4
      have hb4 : Below w3.heap.size w3 w4 := ((Below.refl _ w3).alloc (Nat.le_refl _) _).trans (hg4.below (by simp) hrow0)
      obtain ⟨A4, c4, hv4, h41, h42, hs4⟩ := hown4.slice
      have hA4 : ∀ x, A4 = some x → ¬ F x.block := fun x hx hF => by
        have h1 := (hown4.lt x.block (by rw [hv4, hx]; rfl)).1
        have h2 := hD3.Flt x.block hF
        have h3 := hszF x.block hF
        omega
      rw [Hbl.out] at hv4 h41
      subst hv4
      have hD4 := hD3.below hb4
      have hB4 : Below B w w4 := hB3.trans (hb4.mono hBs3)
      have hBs4 : B ≤ w4.heap.size := Nat.le_trans hBs3 hb4.size
      have hrb4 := range_below hrb hb4 hgb2
      have hgb4 : gb < w4.heap.size := Nat.lt_of_lt_of_le hgb2 hb4.size
      clear hown4 hg4 hrow0 hb4 hD3 hB3 hBs3 hrb hgb2 hA3 hszF
      by_cases hgood : 0 ≤ a ∧ a + secsF n ≤ (j : Int)
      · obtain ⟨a, rfl⟩ : ∃ a' : Nat, a = (a' : Int) := ⟨a.toNat, by omega⟩
        have hf : a + secsF n ≤ j := by omega
        obtain ⟨DL, hDL⟩ : ∃ x, x = refC (blobDig bs) (a : Nat) (n : Nat) := ⟨_, rfl⟩
        have hDl : DL.length = 34 := by rw [hDL]; exact refC_length (blobDig_length _) _ _
        have HD1 := Lib.hid (show DL.toArray.all (·.oneCell') = true by rw [hDL]; exact all_oneCell_toArray (refC_cell _ _ _))
        have HDL := Lib.hid hDL
        clear hDL
        refine Calls.mono (bwrite_yes F k j a (preL j) Z W bs DL A4 n c4 w4 hD4 Hbl.out (by omega) h41 h42 hs4 hA4 hf (by unfold secsF; omega) HDL.out) ?_
        rintro e w5 ⟨rfl, F5, hD5, hF5, hO5⟩
        have hFb5 : ∀ b, F5 b → B ≤ b := fun b h => by rcases hF5 b h with h1 | h1; exact hFb b h1; exact Nat.le_trans hBs4 h1
        have hB5 : Below B w w5 := hB4.trans (hO5.below hBs4 hFb)
        have hrb5 : w5.rangeAt gb 0 (secC (preL j)) := fun q v hq => (World.cell?_of_block (hO5.block gb hgb4 hgbF)).trans (hrb4 q v hq)
        have hT5 : putF (preL j) a bs (secsF n) = aftS j a bs := by unfold aftS; rw [Hbl.out]
        have hgb5 : gb < w5.heap.size := Nat.lt_of_lt_of_le hgb4 hO5.size
        rw [hT5] at hD5
        clear hO5 hF5 hT5

        have hBs5 : B ≤ w5.heap.size := by have := hB5.size; omega
        have HDi := Lib.hid (show (Try.prog.info? 36).map (·.size) = some DL.toArray.size by rw [List.size_toArray, hDl]; exact refSize)
        have HDn := Lib.hid (show (Try.prog.info? 36).map (·.size) = some DL.length by rw [hDl]; exact refSize)
        have HDs := Lib.hid (show refZ.toArray.size = DL.toArray.size by rw [List.size_toArray, List.size_toArray, hDl]; rfl)
        clear hB4 hD4 hrb4 hgb4 hs4 hA4 h41 h42 hBs4 hgbF
        go_wp2_with (first
          | (change wpList _ _ _ _ _ (w5.alloc (.cells refZ.toArray 36)); refine wpList_store_row rfl _ _ _ rfl w5.heap.size DL.toArray rfl rfl 36 refZ.toArray (heap_alloc_new w5 _) HDi.out HDs.out HD1.out ?_; obtain ⟨w6, hw6⟩ : ∃ x, x = (w5.alloc (.cells refZ.toArray 36)).setRow w5.heap.size DL.toArray := ⟨_, rfl⟩; rw [← hw6]; obtain ⟨hP6, hb6⟩ := alloc_rowD w5 36 refZ.toArray DL; rw [← hw6] at hP6 hb6; clear hw6))
        have hD6 := hD5.below hb6
        have hB6 := hB5.trans (hb6.mono hBs5)
        have hrb6 := range_below hrb5 hb6 hgb5
        have hgb6 : gb < w6.heap.size := Nat.lt_of_lt_of_le hgb5 hb6.size
        have hBs6 : B ≤ w6.heap.size := Nat.le_trans hBs5 hb6.size
        obtain ⟨gr, hgr⟩ : ∃ g, g = w5.heap.size := ⟨_, rfl⟩
        rw [← hgr] at hP6 ⊢
        clear hgr hD5 hB5 hrb5 hgb5 hb6 hBs5
        refine Calls.mono hD6.image ?_
        rintro e w7 ⟨ga, ca, rfl, hra7, hga1, hga2, hca1, hca2, hb7⟩
        have hD7 := hD6.below hb7
        have hB7 := hB6.trans (hb7.mono hBs6)
        have hrb7 := range_below hrb6 hb7 hgb6
        have hgb7 : gb < w7.heap.size := Nat.lt_of_lt_of_le hgb6 hb7.size
        have hBs7 : B ≤ w7.heap.size := Nat.le_trans hBs6 hb7.size
        have hP7 := hP6.upD hb7
        have hA7 : Bs w7 w7.heap.size A bs := by have := hA.below (hB ▸ hB7) (Nat.le_refl _); exact this.more (by omega)
        clear hD6 hB6 hrb6 hgb6 hb7 hBs6 hP6 hga1
        go_wp2_with fail
        refine Calls.mono (laid_any bs A n c w7 Hbl.out (by omega) hnc hcm63 hA7) ?_
        rintro e w8 ⟨v8, rfl, hl8, hb8⟩
        have hD8 := hD7.below hb8
        have hB8 := hB7.trans (hb8.mono hBs7)
        have hrb8 := range_below hrb7 hb8 hgb7
        have hra8 := range_below hra7 hb8 hga2
        have hgb8 : gb < w8.heap.size := Nat.lt_of_lt_of_le hgb7 hb8.size
        have hga8 : ga < w8.heap.size := Nat.lt_of_lt_of_le hga2 hb8.size
        have hBs8 : B ≤ w8.heap.size := Nat.le_trans hBs7 hb8.size
        have hP8 := hP7.upD hb8
        obtain ⟨A8, c8, rfl, h81, h82, h8s⟩ := hl8.slice
        clear hl8 hD7 hB7 hrb7 hra7 hgb7 hga2 hb8 hBs7 hP7 hA7
        obtain ⟨s, hs⟩ : ∃ s, secsF n = s := ⟨_, rfl⟩
        rw [laidF_length, hs] at h81 ⊢
        rw [hs] at h8s
        have hs1 : 1 ≤ s := by rw [← hs]; exact secsF_pos n
        have hsB : s ≤ 1000000 := by rw [← hs]; unfold secsF; omega
        have Hs := Lib.hid hs
        have hS64 := preL_64 j
        have hT64 : ∀ s ∈ aftS j a bs, s.length = 64 := aftS_64 j a bs
        have hTl : (aftS j a bs).length = j := aftS_length j a bs
        obtain ⟨T, hT⟩ : ∃ T, T = aftS j a bs := ⟨_, rfl⟩
        rw [← hT] at hra8 hD8 hT64 hTl

        rw [hs] at hf
        have hTin : ∀ i, a ≤ i → i < a + s → T.getD i [] = (laidF bs s).getD (i - a) [] := fun i h1 h2 => by
          rw [hT, aftS_in (by rw [Hbl.out, Hs.out]; exact hf) h1 (by rw [Hbl.out, Hs.out]; exact h2), laidF_getD bs (by omega)]
        have hToff : ∀ i, i < a ∨ a + s ≤ i → T.getD i [] = (preL j).getD i [] := fun i h => by
          rw [hT, aftS_off (by rw [Hbl.out, Hs.out]; exact h)]
        have hgT : gotF T a n s = bs := by
          have h64 := putF_64 (i := secsF n) (a := a) bs (preL_64 j)
          have h := gotF_all (S := T) (a := a) (n := n) hT64 (by rw [hTl, Hs.out]; exact hf)
          rw [Hs.out] at h
          rw [h, hT]
          have h2 := put_get (S := preL j) (a := a) bs (by rw [Hbl.out, Hs.out, preL_length]; exact hf)
          rw [Hbl.out] at h2
          unfold aftS
          rw [Hbl.out]
          exact h2
        have q1 : decide ((a : Int) < (0 : Int)) = false := by simp
        have q2 : decide ((j : Int) ≤ (a : Int)) = false := by simp; omega
        have q2n : decide (j ≤ a) = false := by simp; omega
        have q3 : decide ((j : Int) - (a : Int) < (s : Int)) = false := by simp; omega
        have r1 : -9223372036854775808 ≤ (j : Int) - (a : Int) := by omega
        have r2 : (j : Int) - (a : Int) ≤ 9223372036854775807 := by omega
        have HgT := Lib.hid hgT
        have HTin := Lib.hid hTin
        have HToff := Lib.hid hToff
        clear hs hT hgT hTin hToff
        go_wp2_with fail
        clear q1 q2 q3 r1 r2 q2n

        go_wp2_with fail
        obtain ⟨N, hN⟩ : ∃ x, x = j := ⟨_, rfl⟩
        go_loopw [86] (fun x wr => ∃ i : Nat, i ≤ j ∧ x = .int .i64 i ∧ Below w8.heap.size w8 wr) (fun x _ => j - (intOf x).toNat)
        case atStart => exact ⟨0, Nat.zero_le _, rfl, Below.refl _ _⟩
        case round =>
          obtain ⟨i, hij, rfl, hbr⟩ := hrel
          obtain ⟨wq, hwq⟩ : ∃ x, x = wr := ⟨_, rfl⟩
          subst hwq
          by_cases hlt : i < j
          · have hbz := hbr.size
            have hrbq := sec_range (range_below hrb8 hbr hgb8) hS64 (i := i) (by rw [hSl]; exact hlt)
            have hraq := sec_range (range_below hra8 hbr hga8) hT64 (i := i) (by rw [hTl]; exact hlt)
            have hX64 : ((preL j).getD i []).length = 64 := by rw [preL_getD hlt]; exact preS_length i
            have hY64 : (T.getD i []).length = 64 := hT64 _ (by simp [List.getD, show i < T.length by omega])
            obtain ⟨BL, hBL⟩ : ∃ l, l = Lib.byteCells ((preL j).getD i []) := ⟨_, rfl⟩
            obtain ⟨TL, hTL⟩ : ∃ l, l = Lib.byteCells (T.getD i []) := ⟨_, rfl⟩
            have hBl : BL.length = 64 := by rw [hBL, Lib.byteCells_length]; exact hX64
            have hTLl : TL.length = 64 := by rw [hTL, Lib.byteCells_length]; exact hY64
            have HBi := Lib.hid (show (Try.prog.info? 30).map (·.size) = some BL.toArray.size by rw [List.size_toArray, hBl]; exact secInfo)
            have HBn := Lib.hid (show (Try.prog.info? 30).map (·.size) = some BL.length by rw [hBl]; exact secInfo)
            have HBs := Lib.hid (show (Lib.byteCells zero64).toArray.size = BL.toArray.size by rw [List.size_toArray, List.size_toArray, hBl]; rfl)
            have HB1 := Lib.hid (show BL.toArray.all (·.oneCell') = true by rw [hBL]; exact sec_one _)
            have HTi := Lib.hid (show (Try.prog.info? 30).map (·.size) = some TL.toArray.size by rw [List.size_toArray, hTLl]; exact secInfo)
            have HTn := Lib.hid (show (Try.prog.info? 30).map (·.size) = some TL.length by rw [hTLl]; exact secInfo)
            have HTs := Lib.hid (show BL.toArray.size = TL.toArray.size by rw [List.size_toArray, List.size_toArray, hBl, hTLl])
            have HT1 := Lib.hid (show TL.toArray.all (·.oneCell') = true by rw [hTL]; exact sec_one _)
            have hcmp : ∀ w, (Op.equalIn 10000 30 (.agg TL.toArray) (.agg TL.toArray)).run Try.prog w = .ok true w := fun w => by
              rw [sec_eqv _ _ hY64 hY64 TL TL hTL hTL w]
              simp
            have hgS := gtS
            rw [← hBL] at hrbq
            rw [← hTL] at hraq
            have hiI : (i : Int) < (j : Int) := by omega
            have hin : decide (i < j) = true := by simp; exact hlt
            by_cases hr : a ≤ i ∧ i < a + s
            · obtain ⟨q, hq⟩ : ∃ q, i - a = q := ⟨_, rfl⟩
              have hqs : q < s := by omega
              have hqI : (i : Int) - (a : Int) = (q : Int) := by omega
              have hTi := HTin.out i hr.1 hr.2
              obtain ⟨b8, off8, hAe, hb8l, hrow8⟩ := h8s (by rw [laidF_length]; omega)
              have hlq := (hrow8 q (by rw [laidF_length]; exact hqs)).2
              rw [hq] at hTi
              rw [← hTi, ← hTL] at hlq
              subst hAe
              have e1 : decide ((a : Int) ≤ (i : Int)) = true := by simp; omega
              have e1n : decide (a ≤ i) = true := by simp; omega
              have e2 : decide ((i : Int) < (a : Int) + (s : Int)) = true := by simp; omega
              have e3 : -9223372036854775808 ≤ (a : Int) + (s : Int) := by omega
              have e4 : (a : Int) + (s : Int) ≤ 9223372036854775807 := by omega
              have e5 : (q : Int) < (s : Int) := by omega
              have hqB : q ≤ 1000000 := by omega
              clear hq hTi hrow8 h8s
              have HBL := Lib.hid hBL
              have HTL := Lib.hid hTL
              clear hBL hTL
              go_wp2_with (first
                | (refine wpList_load_mid rfl _ _ rfl gb (i * 64) rfl BL _ hrbq Try.underlying30 rfl HBn.out ?_)
                | (change wpList _ _ _ _ _ (wq.alloc (.cells (Lib.byteCells zero64).toArray 30)); refine wpList_store_row rfl _ _ _ rfl wq.heap.size BL.toArray rfl rfl 30 (Lib.byteCells zero64).toArray (heap_alloc_new wq _) HBi.out HBs.out HB1.out ?_; obtain ⟨wa, hwa⟩ : ∃ x, x = (wq.alloc (.cells (Lib.byteCells zero64).toArray 30)).setRow wq.heap.size BL.toArray := ⟨_, rfl⟩; rw [← hwa]; obtain ⟨hXa, hba⟩ := alloc_rowD wq 30 (Lib.byteCells zero64).toArray BL; rw [← hwa] at hXa hba; clear hwa)
                | (refine wpList_load_mid rfl _ _ rfl b8 (off8 + q * 64) rfl TL _ (range_below (range_below hlq hbr hb8l) hba (by omega)) Try.underlying30 rfl HTn.out ?_)
                | (refine wpList_store_row rfl _ _ _ rfl wq.heap.size TL.toArray rfl rfl 30 BL.toArray hXa HTi.out HTs.out HT1.out ?_; obtain ⟨wb, hwb⟩ : ∃ x, x = wa.setRow wq.heap.size TL.toArray := ⟨_, rfl⟩; rw [← hwb]; have hXb : Arr wb wq.heap.size 30 TL := (by rw [hwb]; exact hXa.setRow TL); have hOb : Only (fun j => j = wq.heap.size) wa wb := (by rw [hwb]; exact (Only.refl (fun j => j = wq.heap.size) wa).setRow (.inl rfl) _); clear hwb))
              have hbab : Below wq.heap.size wq wb := hba.trans (hOb.below (by have := hba.size; omega) (by rintro j rfl; exact Nat.le_refl _))
              have hrz := range_below hraq hbab (by omega)
              have hXd : Arr wb.drew wq.heap.size 30 TL := hXb.drewN 1
              have hrd : wb.drew.rangeAt ga (i * 64) TL := hrz
              refine wp_region_held_drew (S := fun w' => w'.rangeAt ga (i * 64) TL ∧ w'.rangeAt wq.heap.size 0 TL) (by kernel_rfl) ⟨hrd, hXd.rangeD⟩ (fun hHeld => ?_)
              refine anyH_take (i := 0) (v := .slice (some ⟨ga, 0, none⟩) j ca) (some 110) rfl rfl (by kernel_rfl) (by kernel_rfl) (by kernel_rfl) (fun _ _ _ h => h) (Or.inl ⟨by rfl, fun _ _ => by rfl⟩) (by assumption) ?_
              simp only [Act.put, List.setIfInBounds_toArray, List.set_cons_zero, List.set_cons_succ]
              refine anyH_take (i := 1) (v := .int .i64 (i : Nat)) (some 111) rfl rfl (by kernel_rfl) (by kernel_rfl) (by kernel_rfl) (fun _ _ _ h => h) (Or.inl ⟨by rfl, fun _ _ => by rfl⟩) (by assumption) ?_
              simp only [Act.put, List.setIfInBounds_toArray, List.set_cons_zero, List.set_cons_succ]
              refine anyH_take (i := 2) (v := .pointer (some ⟨ga, i * 64, none⟩)) (some 112) rfl rfl (by kernel_rfl) (by kernel_rfl) (by kernel_rfl) (fun _ _ _ h => h) (Or.inl ⟨by rfl, fun _ _ => by go_simp⟩) (by assumption) ?_
              simp only [Act.put, List.setIfInBounds_toArray, List.set_cons_zero, List.set_cons_succ]
              refine anyH_take (i := 3) (some 113) rfl rfl (by kernel_rfl) (by kernel_rfl) (by kernel_rfl) (fun _ _ _ h => h) (yieldsIf_load_mid (by rfl) 30 (.tmp 112) rfl ga (i * 64) rfl TL _ (fun _ h => h.1) Try.underlying30 rfl HTn.out) (by assumption) ?_
              simp only [Act.put, List.setIfInBounds_toArray, List.set_cons_zero, List.set_cons_succ]
              refine anyH_take (i := 4) (some 114) rfl rfl (by kernel_rfl) (by kernel_rfl) (by kernel_rfl) (fun _ _ _ h => h) (yieldsIf_load_mid (by rfl) 30 (.tmp 16) rfl wq.heap.size 0 rfl TL _ (fun _ h => h.2) Try.underlying30 rfl HTn.out) (by assumption) ?_
              simp only [Act.put, List.setIfInBounds_toArray, List.set_cons_zero, List.set_cons_succ]
              refine wpAnyH_ready (rs := [5]) (by kernel_rfl) (by simp) ?_
              refine AllReadyH.cons rfl (fun K hK => ?_) AllReadyH.nil
              go_simp
              refine hK.out _ _ ⟨hrd, hXd.rangeD⟩ (fun hHeld => ?_)
              clear hK K
              try simp only [Act.put, List.setIfInBounds_toArray, List.set_cons_zero, List.set_cons_succ]
              refine wpAnyH_done (by kernel_rfl) ?_ _
              go_wp2_with fail
              case roundEnd => exact ⟨⟨i + 1, by omega, by simp, hbr.trans ((Below.dN hbab 1).mono hbz)⟩, by simp [intOf]; omega⟩
            · have hTi := HToff.out i (by omega)
              rw [hTi, ← hBL] at hTL
              have hBT : BL = TL := hTL.symm
              subst hBT
              have e1 : decide ((a : Int) ≤ (i : Int)) = false ∨ (decide ((a : Int) ≤ (i : Int)) = true ∧ decide ((i : Int) < (a : Int) + (s : Int)) = false) := by
                simp only [decide_eq_true_eq, decide_eq_false_iff_not]
                omega
              have e1n : decide (a ≤ i) = false ∨ decide (a ≤ i) = true := by cases decide (a ≤ i) <;> simp
              have e3 : -9223372036854775808 ≤ (a : Int) + (s : Int) := by omega
              have e4 : (a : Int) + (s : Int) ≤ 9223372036854775807 := by omega
              clear hTi
              rcases e1 with e1 | ⟨e1, e2⟩
              · have e1n : decide (a ≤ i) = false := by simp at e1 ⊢; omega
                have HBL := Lib.hid hBL
                clear hBL
                go_wp2_with (first
                  | (refine wpList_load_mid rfl _ _ rfl gb (i * 64) rfl BL _ hrbq Try.underlying30 rfl HBn.out ?_)
                  | (change wpList _ _ _ _ _ (wq.alloc (.cells (Lib.byteCells zero64).toArray 30)); refine wpList_store_row rfl _ _ _ rfl wq.heap.size BL.toArray rfl rfl 30 (Lib.byteCells zero64).toArray (heap_alloc_new wq _) HBi.out HBs.out HB1.out ?_; obtain ⟨wa, hwa⟩ : ∃ x, x = (wq.alloc (.cells (Lib.byteCells zero64).toArray 30)).setRow wq.heap.size BL.toArray := ⟨_, rfl⟩; rw [← hwa]; obtain ⟨hXa, hba⟩ := alloc_rowD wq 30 (Lib.byteCells zero64).toArray BL; rw [← hwa] at hXa hba; clear hwa))
                have hrz := range_below hraq hba (by omega)
                have hXd : Arr wa.drew wq.heap.size 30 BL := hXa.drewN 1
                have hrd : wa.drew.rangeAt ga (i * 64) BL := hrz
                refine wp_region_held_drew (S := fun w' => w'.rangeAt ga (i * 64) BL ∧ w'.rangeAt wq.heap.size 0 BL) (by kernel_rfl) ⟨hrd, hXd.rangeD⟩ (fun hHeld => ?_)
                refine anyH_take (i := 0) (v := .slice (some ⟨ga, 0, none⟩) j ca) (some 110) rfl rfl (by kernel_rfl) (by kernel_rfl) (by kernel_rfl) (fun _ _ _ h => h) (Or.inl ⟨by rfl, fun _ _ => by rfl⟩) (by assumption) ?_
                simp only [Act.put, List.setIfInBounds_toArray, List.set_cons_zero, List.set_cons_succ]
                refine anyH_take (i := 1) (v := .int .i64 (i : Nat)) (some 111) rfl rfl (by kernel_rfl) (by kernel_rfl) (by kernel_rfl) (fun _ _ _ h => h) (Or.inl ⟨by rfl, fun _ _ => by rfl⟩) (by assumption) ?_
                simp only [Act.put, List.setIfInBounds_toArray, List.set_cons_zero, List.set_cons_succ]
                refine anyH_take (i := 2) (v := .pointer (some ⟨ga, i * 64, none⟩)) (some 112) rfl rfl (by kernel_rfl) (by kernel_rfl) (by kernel_rfl) (fun _ _ _ h => h) (Or.inl ⟨by rfl, fun _ _ => by go_simp⟩) (by assumption) ?_
                simp only [Act.put, List.setIfInBounds_toArray, List.set_cons_zero, List.set_cons_succ]
                refine anyH_take (i := 3) (some 113) rfl rfl (by kernel_rfl) (by kernel_rfl) (by kernel_rfl) (fun _ _ _ h => h) (yieldsIf_load_mid (by rfl) 30 (.tmp 112) rfl ga (i * 64) rfl BL _ (fun _ h => h.1) Try.underlying30 rfl HBn.out) (by assumption) ?_
                simp only [Act.put, List.setIfInBounds_toArray, List.set_cons_zero, List.set_cons_succ]
                refine anyH_take (i := 4) (some 114) rfl rfl (by kernel_rfl) (by kernel_rfl) (by kernel_rfl) (fun _ _ _ h => h) (yieldsIf_load_mid (by rfl) 30 (.tmp 16) rfl wq.heap.size 0 rfl BL _ (fun _ h => h.2) Try.underlying30 rfl HBn.out) (by assumption) ?_
                simp only [Act.put, List.setIfInBounds_toArray, List.set_cons_zero, List.set_cons_succ]
                refine wpAnyH_ready (rs := [5]) (by kernel_rfl) (by simp) ?_
                refine AllReadyH.cons rfl (fun K hK => ?_) AllReadyH.nil
                go_simp
                refine hK.out _ _ ⟨hrd, hXd.rangeD⟩ (fun hHeld => ?_)
                clear hK K
                try simp only [Act.put, List.setIfInBounds_toArray, List.set_cons_zero, List.set_cons_succ]
                refine wpAnyH_done (by kernel_rfl) ?_ _
                go_wp2_with fail
                case roundEnd => exact ⟨⟨i + 1, by omega, by simp, hbr.trans ((Below.dN hba 1).mono hbz)⟩, by simp [intOf]; omega⟩
              · have e1n : decide (a ≤ i) = true := by simp at e1 ⊢; omega
                have HBL := Lib.hid hBL
                clear hBL
                go_wp2_with (first
                  | (refine wpList_load_mid rfl _ _ rfl gb (i * 64) rfl BL _ hrbq Try.underlying30 rfl HBn.out ?_)
                  | (change wpList _ _ _ _ _ (wq.alloc (.cells (Lib.byteCells zero64).toArray 30)); refine wpList_store_row rfl _ _ _ rfl wq.heap.size BL.toArray rfl rfl 30 (Lib.byteCells zero64).toArray (heap_alloc_new wq _) HBi.out HBs.out HB1.out ?_; obtain ⟨wa, hwa⟩ : ∃ x, x = (wq.alloc (.cells (Lib.byteCells zero64).toArray 30)).setRow wq.heap.size BL.toArray := ⟨_, rfl⟩; rw [← hwa]; obtain ⟨hXa, hba⟩ := alloc_rowD wq 30 (Lib.byteCells zero64).toArray BL; rw [← hwa] at hXa hba; clear hwa))
                have hrz := range_below hraq hba (by omega)
                have hXd : Arr wa.drew wq.heap.size 30 BL := hXa.drewN 1
                have hrd : wa.drew.rangeAt ga (i * 64) BL := hrz
                refine wp_region_held_drew (S := fun w' => w'.rangeAt ga (i * 64) BL ∧ w'.rangeAt wq.heap.size 0 BL) (by kernel_rfl) ⟨hrd, hXd.rangeD⟩ (fun hHeld => ?_)
                refine anyH_take (i := 0) (v := .slice (some ⟨ga, 0, none⟩) j ca) (some 110) rfl rfl (by kernel_rfl) (by kernel_rfl) (by kernel_rfl) (fun _ _ _ h => h) (Or.inl ⟨by rfl, fun _ _ => by rfl⟩) (by assumption) ?_
                simp only [Act.put, List.setIfInBounds_toArray, List.set_cons_zero, List.set_cons_succ]
                refine anyH_take (i := 1) (v := .int .i64 (i : Nat)) (some 111) rfl rfl (by kernel_rfl) (by kernel_rfl) (by kernel_rfl) (fun _ _ _ h => h) (Or.inl ⟨by rfl, fun _ _ => by rfl⟩) (by assumption) ?_
                simp only [Act.put, List.setIfInBounds_toArray, List.set_cons_zero, List.set_cons_succ]
                refine anyH_take (i := 2) (v := .pointer (some ⟨ga, i * 64, none⟩)) (some 112) rfl rfl (by kernel_rfl) (by kernel_rfl) (by kernel_rfl) (fun _ _ _ h => h) (Or.inl ⟨by rfl, fun _ _ => by go_simp⟩) (by assumption) ?_
                simp only [Act.put, List.setIfInBounds_toArray, List.set_cons_zero, List.set_cons_succ]
                refine anyH_take (i := 3) (some 113) rfl rfl (by kernel_rfl) (by kernel_rfl) (by kernel_rfl) (fun _ _ _ h => h) (yieldsIf_load_mid (by rfl) 30 (.tmp 112) rfl ga (i * 64) rfl BL _ (fun _ h => h.1) Try.underlying30 rfl HBn.out) (by assumption) ?_
                simp only [Act.put, List.setIfInBounds_toArray, List.set_cons_zero, List.set_cons_succ]
                refine anyH_take (i := 4) (some 114) rfl rfl (by kernel_rfl) (by kernel_rfl) (by kernel_rfl) (fun _ _ _ h => h) (yieldsIf_load_mid (by rfl) 30 (.tmp 16) rfl wq.heap.size 0 rfl BL _ (fun _ h => h.2) Try.underlying30 rfl HBn.out) (by assumption) ?_
                simp only [Act.put, List.setIfInBounds_toArray, List.set_cons_zero, List.set_cons_succ]
                refine wpAnyH_ready (rs := [5]) (by kernel_rfl) (by simp) ?_
                refine AllReadyH.cons rfl (fun K hK => ?_) AllReadyH.nil
                go_simp
                refine hK.out _ _ ⟨hrd, hXd.rangeD⟩ (fun hHeld => ?_)
                clear hK K
                try simp only [Act.put, List.setIfInBounds_toArray, List.set_cons_zero, List.set_cons_succ]
                refine wpAnyH_done (by kernel_rfl) ?_ _
                go_wp2_with fail
                case roundEnd => exact ⟨⟨i + 1, by omega, by simp, hbr.trans ((Below.dN hba 1).mono hbz)⟩, by simp [intOf]; omega⟩
          · obtain rfl : i = j := by omega
            have hin : decide (i < i) = false := by simp
            have hrz0 := hP8.upD hbr
            have hPq : Arr wq gr 36 DL := hP8.upD hbr
            have hDq := hD8.below hbr
            have hBq : Below B w wq := hB8.trans (hbr.mono hBs8)
            have hBsq : B ≤ wq.heap.size := Nat.le_trans hBs8 hbr.size
            have hs0 : ((s : Int) == 0) = false := by rw [beq_eq_false_iff_ne]; omega
            have hok : decide (blobDig (gotF T a n (secsF n)) = blobDig bs) = true := by rw [Hs.out, HgT.out]; simp
            clear hP8 hD8 hB8 hrb8 hra8 hrz0 hbr hBs8
            go_wp2_with (first
              | (refine wpList_load_row rfl _ _ rfl gr rfl 36 DL.toArray (0, 0) _ hPq Try.underlying36 rfl HDi.out ?_))
            refine Calls.mono (bread_got F5 k i a T Z _ (blobDig bs) DL n wq hDq true (blobDig_length _) (by omega) (by rw [Hs.out]; exact hf) HDL.out hok) ?_
            rintro e w9 ⟨h9, _, hb9⟩
            obtain ⟨g9, rfl, hA9, hg9⟩ := h9 (by first | rfl | trivial)
            rw [Hs.out, HgT.out] at hA9
            have hP9 := hPq.upD hb9
            have hB9 : Below B w w9 := hBq.trans (hb9.mono hBsq)
            have hBs9 : B ≤ w9.heap.size := Nat.le_trans hBsq hb9.size
            have hbs9 : Bs w9 w9.heap.size (some ⟨g9, 0, none⟩) bs := Arr.bsB hA9
            have hA9b : Bs w9 B A bs := by rw [hB]; exact hA.below (hB ▸ hB9) (Nat.le_refl _)
            have hgtR := gtR
            have hcmpD : ∀ w, (Op.equalIn 10000 36 (.agg DL.toArray) (.agg DL.toArray)).run Try.prog w = .ok true w := fun w => by
              rw [ref_eqv (blobDig bs) (blobDig bs) (blobDig_length _) (blobDig_length _) a n a n DL DL HDL.out HDL.out w]
              simp
            clear hPq hDq hBq hBsq hA9 hok h9 hg9 hb9
            go_wp2_with fail
            refine wp_region_held_drew (S := fun w' => w'.rangeAt gr 0 DL) (by kernel_rfl) (hP9.drewN 1).rangeD (fun hHeld => ?_)
            have hP9d : Arr w9.drew gr 36 DL := hP9.drewN 1
            have hB9d : Below B w w9.drew := Below.dN hB9 1
            have hbs9d : Bs w9.drew w9.heap.size (some ⟨g9, 0, none⟩) bs := hbs9.drewN 1
            have hA9d : Bs w9.drew B A bs := hA9b.drewN 1
            refine anyH_take (i := 0) (v := .int .i64 0) (some 133) rfl rfl (by kernel_rfl) (by kernel_rfl) (by kernel_rfl) (fun _ _ _ h => h) (Or.inl ⟨by rfl, fun _ _ => by rfl⟩) (by assumption) ?_
            simp only [Act.put, List.setIfInBounds_toArray, List.set_cons_zero, List.set_cons_succ]
            refine anyH_take (i := 1) (v := .bool true) (some 134) rfl rfl (by kernel_rfl) (by kernel_rfl) (by kernel_rfl) (fun _ _ _ h => h) (Or.inl ⟨by rfl, fun _ _ => by go_simp⟩) (by assumption) ?_
            simp only [Act.put, List.setIfInBounds_toArray, List.set_cons_zero, List.set_cons_succ]
            refine anyH_take (i := 2) (v := .bool true) (some 135) rfl rfl (by kernel_rfl) (by kernel_rfl) (by kernel_rfl) (fun _ _ _ h => h) (Or.inl ⟨by rfl, fun _ _ => by rfl⟩) (by assumption) ?_
            simp only [Act.put, List.setIfInBounds_toArray, List.set_cons_zero, List.set_cons_succ]
            refine anyH_take (i := 3) (some 136) rfl rfl (by kernel_rfl) (by kernel_rfl) (by kernel_rfl) (fun _ _ _ h => h) (yieldsIf_load_mid (by rfl) 36 (.tmp 11) rfl gr 0 rfl DL _ (fun _ h => h) Try.underlying36 rfl HDn.out) (by assumption) ?_
            simp only [Act.put, List.setIfInBounds_toArray, List.set_cons_zero, List.set_cons_succ]
            refine anyH_take (i := 4) (v := .int .i64 (a : Nat)) (some 137) rfl rfl (by kernel_rfl) (by kernel_rfl) (by kernel_rfl) (fun _ _ _ h => h) (Or.inl ⟨by rfl, fun _ _ => by rfl⟩) (by assumption) ?_
            simp only [Act.put, List.setIfInBounds_toArray, List.set_cons_zero, List.set_cons_succ]
            refine anyH_take (i := 5) (v := .slice A n c) (some 138) rfl rfl (by kernel_rfl) (by kernel_rfl) (by kernel_rfl) (fun _ _ _ h => h) (Or.inl ⟨by rfl, fun _ _ => by rfl⟩) (by assumption) ?_
            simp only [Act.put, List.setIfInBounds_toArray, List.set_cons_zero, List.set_cons_succ]
            refine wpAnyH_ready (rs := [6]) (by kernel_rfl) (by simp) ?_
            refine AllReadyH.cons rfl (fun K hK => ?_) AllReadyH.nil
            go_simp
            go_at_call 15
            refine Calls.mono (rof_any a bs DL A n c w9.drew Hbl.out (by omega) hnc hcm (hA9d.more hBs9) (by omega) (by omega) HDL.out) ?_
            rintro e wa ⟨rfl, hba⟩
            have hPa := hP9d.upD hba
            have hBa : Below B w wa := hB9d.trans (hba.mono hBs9)
            have hAa : Bs wa B A bs := hA9d.below hba hBs9
            have hbsa : Bs wa w9.heap.size (some ⟨g9, 0, none⟩) bs := hbs9d.below hba (Nat.le_refl _)
            have hBsa : B ≤ wa.heap.size := Nat.le_trans hBs9 hba.size
            have hza := hba.size
            dsimp only
            go_wp2_with fail
            refine hK.out _ _ hPa.rangeD (fun hHeld => ?_)
            clear hK K
            try simp only [Act.put, List.setIfInBounds_toArray, List.set_cons_zero, List.set_cons_succ]
            refine wpAnyH_ready (rs := [7]) (by kernel_rfl) (by simp) ?_
            refine AllReadyH.cons rfl (fun K hK => ?_) AllReadyH.nil
            go_simp
            refine hK.out _ _ hPa.rangeD (fun hHeld => ?_)
            clear hK K
            try simp only [Act.put, List.setIfInBounds_toArray, List.set_cons_zero, List.set_cons_succ]
            refine anyH_take (i := 8) (v := .bool true) (some 141) rfl rfl (by kernel_rfl) (by kernel_rfl) (by kernel_rfl) (fun _ _ _ h => h) (Or.inl ⟨by rfl, fun _ _ => by rfl⟩) (by assumption) ?_
            simp only [Act.put, List.setIfInBounds_toArray, List.set_cons_zero, List.set_cons_succ]
            refine anyH_take (i := 9) (v := .bool true) (some 142) rfl rfl (by kernel_rfl) (by kernel_rfl) (by kernel_rfl) (fun _ _ _ h => h) (Or.inl ⟨by rfl, fun _ _ => by rfl⟩) (by assumption) ?_
            simp only [Act.put, List.setIfInBounds_toArray, List.set_cons_zero, List.set_cons_succ]
            refine anyH_take (i := 10) (v := .int .i64 (a : Nat)) (some 143) rfl rfl (by kernel_rfl) (by kernel_rfl) (by kernel_rfl) (fun _ _ _ h => h) (Or.inl ⟨by rfl, fun _ _ => by rfl⟩) (by assumption) ?_
            simp only [Act.put, List.setIfInBounds_toArray, List.set_cons_zero, List.set_cons_succ]
            refine anyH_take (i := 11) (v := .slice A n c) (some 144) rfl rfl (by kernel_rfl) (by kernel_rfl) (by kernel_rfl) (fun _ _ _ h => h) (Or.inl ⟨by rfl, fun _ _ => by rfl⟩) (by assumption) ?_
            simp only [Act.put, List.setIfInBounds_toArray, List.set_cons_zero, List.set_cons_succ]
            refine anyH_take (i := 13) (some 146) rfl rfl (by kernel_rfl) (by kernel_rfl) (by kernel_rfl) (fun _ _ _ h => h) (yieldsIf_load_mid (by rfl) 36 (.tmp 11) rfl gr 0 rfl DL _ (fun _ h => h) Try.underlying36 rfl HDn.out) (by assumption) ?_
            simp only [Act.put, List.setIfInBounds_toArray, List.set_cons_zero, List.set_cons_succ]
            refine wpAnyH_ready (rs := [12]) (by kernel_rfl) (by simp) ?_
            refine AllReadyH.cons rfl (fun K hK => ?_) AllReadyH.nil
            go_simp
            go_at_call 16
            refine Calls.mono (of_any a bs DL A n c wa Hbl.out (by omega) hnc hcm (hAa.more hBsa) (by omega) (by omega) HDL.out) ?_
            rintro e wb ⟨rfl, hbb⟩
            have hPb := hPa.upD hbb
            have hBb : Below B w wb := hBa.trans (hbb.mono hBsa)
            have hAb : Bs wb B A bs := hAa.below hbb hBsa
            have hbsb : Bs wb w9.heap.size (some ⟨g9, 0, none⟩) bs := hbsa.below hbb hza
            dsimp only
            go_wp2_with fail
            refine hK.out _ _ hPb.rangeD (fun hHeld => ?_)
            clear hK K
            try simp only [Act.put, List.setIfInBounds_toArray, List.set_cons_zero, List.set_cons_succ]
            refine wpAnyH_ready (rs := [14]) (by kernel_rfl) (by simp) ?_
            refine AllReadyH.cons rfl (fun K hK => ?_) AllReadyH.nil
            go_simp
            refine hK.out _ _ hPb.rangeD (fun hHeld => ?_)
            clear hK K
            try simp only [Act.put, List.setIfInBounds_toArray, List.set_cons_zero, List.set_cons_succ]
            refine anyH_take (i := 15) (v := .bool true) (some 148) rfl rfl (by kernel_rfl) (by kernel_rfl) (by kernel_rfl) (fun _ _ _ h => h) (Or.inl ⟨by rfl, fun _ _ => by rfl⟩) (by assumption) ?_
            simp only [Act.put, List.setIfInBounds_toArray, List.set_cons_zero, List.set_cons_succ]
            refine anyH_take (i := 16) (v := .bool true) (some 149) rfl rfl (by kernel_rfl) (by kernel_rfl) (by kernel_rfl) (fun _ _ _ h => h) (Or.inl ⟨by rfl, fun _ _ => by rfl⟩) (by assumption) ?_
            simp only [Act.put, List.setIfInBounds_toArray, List.set_cons_zero, List.set_cons_succ]
            refine anyH_take (i := 17) (v := .int .i64 0) (some 150) rfl rfl (by kernel_rfl) (by kernel_rfl) (by kernel_rfl) (fun _ _ _ h => h) (Or.inl ⟨by rfl, fun _ _ => by rfl⟩) (by assumption) ?_
            simp only [Act.put, List.setIfInBounds_toArray, List.set_cons_zero, List.set_cons_succ]
            refine anyH_take (i := 18) (v := .bool true) (some 151) rfl rfl (by kernel_rfl) (by kernel_rfl) (by kernel_rfl) (fun _ _ _ h => h) (Or.inl ⟨by rfl, fun _ _ => by go_simp⟩) (by assumption) ?_
            simp only [Act.put, List.setIfInBounds_toArray, List.set_cons_zero, List.set_cons_succ]
            refine anyH_take (i := 19) (v := .bool true) (some 152) rfl rfl (by kernel_rfl) (by kernel_rfl) (by kernel_rfl) (fun _ _ _ h => h) (Or.inl ⟨by rfl, fun _ _ => by rfl⟩) (by assumption) ?_
            simp only [Act.put, List.setIfInBounds_toArray, List.set_cons_zero, List.set_cons_succ]
            refine anyH_take (i := 20) (v := .bool true) (some 153) rfl rfl (by kernel_rfl) (by kernel_rfl) (by kernel_rfl) (fun _ _ _ h => h) (Or.inl ⟨by rfl, fun _ _ => by rfl⟩) (by assumption) ?_
            simp only [Act.put, List.setIfInBounds_toArray, List.set_cons_zero, List.set_cons_succ]
            refine anyH_take (i := 21) (v := .slice (some ⟨g9, 0, none⟩) n n) (some 154) rfl rfl (by kernel_rfl) (by kernel_rfl) (by kernel_rfl) (fun _ _ _ h => h) (Or.inl ⟨by rfl, fun _ _ => by rfl⟩) (by assumption) ?_
            simp only [Act.put, List.setIfInBounds_toArray, List.set_cons_zero, List.set_cons_succ]
            refine anyH_take (i := 22) (v := .slice A n c) (some 155) rfl rfl (by kernel_rfl) (by kernel_rfl) (by kernel_rfl) (fun _ _ _ h => h) (Or.inl ⟨by rfl, fun _ _ => by rfl⟩) (by assumption) ?_
            simp only [Act.put, List.setIfInBounds_toArray, List.set_cons_zero, List.set_cons_succ]
            refine wpAnyH_ready (rs := [23]) (by kernel_rfl) (by simp) ?_
            refine AllReadyH.cons rfl (fun K hK => ?_) AllReadyH.nil
            go_simp
            go_at_call 17
            refine Calls.mono (same_n w9.heap.size B (some ⟨g9, 0, none⟩) A n c n n bs bs wb true hbsb hAb Hbl.out Hbl.out (by unfold maxLen; omega) (by unfold maxLen; omega) (by simp)) ?_
            rintro e wc ⟨rfl, nd, rfl⟩
            have hPc : Arr (wb.drewN nd) gr 36 DL := hPb.drewN nd
            have hBc : Below B w (wb.drewN nd) := Below.dN hBb nd
            dsimp only
            go_wp2_with fail
            refine hK.out _ _ hPc.rangeD (fun hHeld => ?_)
            clear hK K
            try simp only [Act.put, List.setIfInBounds_toArray, List.set_cons_zero, List.set_cons_succ]
            refine anyH_take (i := 24) (v := .bool true) (some 157) rfl rfl (by kernel_rfl) (by kernel_rfl) (by kernel_rfl) (fun _ _ _ h => h) (Or.inl ⟨by rfl, fun _ _ => by rfl⟩) (by assumption) ?_
            simp only [Act.put, List.setIfInBounds_toArray, List.set_cons_zero, List.set_cons_succ]
            refine anyH_take (i := 25) (v := .bool true) (some 158) rfl rfl (by kernel_rfl) (by kernel_rfl) (by kernel_rfl) (fun _ _ _ h => h) (Or.inl ⟨by rfl, fun _ _ => by rfl⟩) (by assumption) ?_
            simp only [Act.put, List.setIfInBounds_toArray, List.set_cons_zero, List.set_cons_succ]
            refine anyH_take (i := 26) (v := .slice A n c) (some 159) rfl rfl (by kernel_rfl) (by kernel_rfl) (by kernel_rfl) (fun _ _ _ h => h) (Or.inl ⟨by rfl, fun _ _ => by rfl⟩) (by assumption) ?_
            simp only [Act.put, List.setIfInBounds_toArray, List.set_cons_zero, List.set_cons_succ]
            refine anyH_take (i := 27) (v := .int .i64 (n : Nat)) (some 160) rfl rfl (by kernel_rfl) (by kernel_rfl) (by kernel_rfl) (fun _ _ _ h => h) (Or.inl ⟨by rfl, fun _ _ => by go_simp⟩) (by assumption) ?_
            simp only [Act.put, List.setIfInBounds_toArray, List.set_cons_zero, List.set_cons_succ]
            refine anyH_take (i := 29) (v := .slice A8 s c8) (some 162) rfl rfl (by kernel_rfl) (by kernel_rfl) (by kernel_rfl) (fun _ _ _ h => h) (Or.inl ⟨by rfl, fun _ _ => by rfl⟩) (by assumption) ?_
            simp only [Act.put, List.setIfInBounds_toArray, List.set_cons_zero, List.set_cons_succ]
            refine anyH_take (i := 30) (v := .int .i64 (s : Nat)) (some 163) rfl rfl (by kernel_rfl) (by kernel_rfl) (by kernel_rfl) (fun _ _ _ h => h) (Or.inl ⟨by rfl, fun _ _ => by go_simp⟩) (by assumption) ?_
            simp only [Act.put, List.setIfInBounds_toArray, List.set_cons_zero, List.set_cons_succ]
            refine wpAnyH_ready (rs := [28]) (by kernel_rfl) (by simp) ?_
            refine AllReadyH.cons rfl (fun K hK => ?_) AllReadyH.nil
            go_simp
            go_at_call 18
            refine Calls.mono (sectors_any n (by omega) (wb.drewN nd)) ?_
            rintro e wd ⟨rfl, rfl⟩
            rw [Hs.out]
            dsimp only
            go_wp2_with fail
            refine hK.out _ _ hPc.rangeD (fun hHeld => ?_)
            clear hK K
            try simp only [Act.put, List.setIfInBounds_toArray, List.set_cons_zero, List.set_cons_succ]
            refine anyH_take (i := 31) (v := .bool true) (some 164) rfl rfl (by kernel_rfl) (by kernel_rfl) (by kernel_rfl) (fun _ _ _ h => h) (Or.inl ⟨by rfl, fun _ _ => by go_simp⟩) (by assumption) ?_
            simp only [Act.put, List.setIfInBounds_toArray, List.set_cons_zero, List.set_cons_succ]
            refine anyH_take (i := 32) (v := .bool true) (some 165) rfl rfl (by kernel_rfl) (by kernel_rfl) (by kernel_rfl) (fun _ _ _ h => h) (Or.inl ⟨by rfl, fun _ _ => by rfl⟩) (by assumption) ?_
            simp only [Act.put, List.setIfInBounds_toArray, List.set_cons_zero, List.set_cons_succ]
            refine anyH_take (i := 33) (v := .bool true) (some 6) rfl rfl (by kernel_rfl) (by kernel_rfl) (by kernel_rfl) (fun _ _ _ h => h) (Or.inl ⟨by rfl, fun _ _ => by rfl⟩) (by assumption) ?_
            simp only [Act.put, List.setIfInBounds_toArray, List.set_cons_zero, List.set_cons_succ]
            refine wpAnyH_done (by kernel_rfl) ?_ _
            go_wp2_with fail
            go_ret
            exact ⟨rfl, hB ▸ hBc⟩
      · obtain ⟨DL, hDL⟩ : ∃ x, x = refZ := ⟨_, rfl⟩
        have hDl : DL.length = 34 := by rw [hDL]; exact refC_length (by simp) _ _
        have HD1 := Lib.hid (show DL.toArray.all (·.oneCell') = true by rw [hDL]; exact all_oneCell_toArray (refC_cell _ _ _))
        have HDL := Lib.hid hDL
        clear hDL
        have hc0 : ∃ gs, w4.cell? ⟨k, 0, none⟩ = some (.slice (some ⟨gs, 0, none⟩) j j) ∧ k < w4.heap.size := by
          obtain ⟨gs, gl, bm, vw, base, nm, D, hDD, hr⟩ := hD4
          exact ⟨gs, hDD.c0, hDD.Flt k hDD.Fk⟩
        obtain ⟨gs, hc0, hkl⟩ := hc0
        refine Calls.mono (bwrite_out k gs j a DL A4 n c4 w4 hc0 hkl (by omega) (by omega) ha1 (by omega) HDL.out) ?_
        rintro e w5 ⟨rfl, hb5⟩
        have hFb5 := hFb
        have hD5 := hD4.below hb5
        have hB5 : Below B w w5 := hB4.trans (hb5.mono hBs4)
        have hrb5 := range_below hrb4 hb5 hgb4
        have hgb5 : gb < w5.heap.size := Nat.lt_of_lt_of_le hgb4 hb5.size
        clear hb5 hc0 hkl

        have hBs5 : B ≤ w5.heap.size := by have := hB5.size; omega
        have HDi := Lib.hid (show (Try.prog.info? 36).map (·.size) = some DL.toArray.size by rw [List.size_toArray, hDl]; exact refSize)
        have HDn := Lib.hid (show (Try.prog.info? 36).map (·.size) = some DL.length by rw [hDl]; exact refSize)
        have HDs := Lib.hid (show refZ.toArray.size = DL.toArray.size by rw [List.size_toArray, List.size_toArray, hDl]; rfl)
        clear hB4 hD4 hrb4 hgb4 hs4 hA4 h41 h42 hBs4 hgbF
        go_wp2_with (first
          | (change wpList _ _ _ _ _ (w5.alloc (.cells refZ.toArray 36)); refine wpList_store_row rfl _ _ _ rfl w5.heap.size DL.toArray rfl rfl 36 refZ.toArray (heap_alloc_new w5 _) HDi.out HDs.out HD1.out ?_; obtain ⟨w6, hw6⟩ : ∃ x, x = (w5.alloc (.cells refZ.toArray 36)).setRow w5.heap.size DL.toArray := ⟨_, rfl⟩; rw [← hw6]; obtain ⟨hP6, hb6⟩ := alloc_rowD w5 36 refZ.toArray DL; rw [← hw6] at hP6 hb6; clear hw6))
        have hD6 := hD5.below hb6
        have hB6 := hB5.trans (hb6.mono hBs5)
        have hrb6 := range_below hrb5 hb6 hgb5
        have hgb6 : gb < w6.heap.size := Nat.lt_of_lt_of_le hgb5 hb6.size
        have hBs6 : B ≤ w6.heap.size := Nat.le_trans hBs5 hb6.size
        obtain ⟨gr, hgr⟩ : ∃ g, g = w5.heap.size := ⟨_, rfl⟩
        rw [← hgr] at hP6 ⊢
        clear hgr hD5 hB5 hrb5 hgb5 hb6 hBs5
        refine Calls.mono hD6.image ?_
        rintro e w7 ⟨ga, ca, rfl, hra7, hga1, hga2, hca1, hca2, hb7⟩
        have hD7 := hD6.below hb7
        have hB7 := hB6.trans (hb7.mono hBs6)
        have hrb7 := range_below hrb6 hb7 hgb6
        have hgb7 : gb < w7.heap.size := Nat.lt_of_lt_of_le hgb6 hb7.size
        have hBs7 : B ≤ w7.heap.size := Nat.le_trans hBs6 hb7.size
        have hP7 := hP6.upD hb7
        have hA7 : Bs w7 w7.heap.size A bs := by have := hA.below (hB ▸ hB7) (Nat.le_refl _); exact this.more (by omega)
        clear hD6 hB6 hrb6 hgb6 hb7 hBs6 hP6 hga1
        go_wp2_with fail
        refine Calls.mono (laid_any bs A n c w7 Hbl.out (by omega) hnc hcm63 hA7) ?_
        rintro e w8 ⟨v8, rfl, hl8, hb8⟩
        have hD8 := hD7.below hb8
        have hB8 := hB7.trans (hb8.mono hBs7)
        have hrb8 := range_below hrb7 hb8 hgb7
        have hra8 := range_below hra7 hb8 hga2
        have hgb8 : gb < w8.heap.size := Nat.lt_of_lt_of_le hgb7 hb8.size
        have hga8 : ga < w8.heap.size := Nat.lt_of_lt_of_le hga2 hb8.size
        have hBs8 : B ≤ w8.heap.size := Nat.le_trans hBs7 hb8.size
        have hP8 := hP7.upD hb8
        obtain ⟨A8, c8, rfl, h81, h82, h8s⟩ := hl8.slice
        clear hl8 hD7 hB7 hrb7 hra7 hgb7 hga2 hb8 hBs7 hP7 hA7
        obtain ⟨s, hs⟩ : ∃ s, secsF n = s := ⟨_, rfl⟩
        rw [laidF_length, hs] at h81 ⊢
        rw [hs] at h8s
        have hs1 : 1 ≤ s := by rw [← hs]; exact secsF_pos n
        have hsB : s ≤ 1000000 := by rw [← hs]; unfold secsF; omega
        have Hs := Lib.hid hs
        have hS64 := preL_64 j
        have hT64 : ∀ s ∈ preL j, s.length = 64 := preL_64 j
        have hTl : (preL j).length = j := preL_length j
        obtain ⟨T, hT⟩ : ∃ T, T = preL j := ⟨_, rfl⟩
        rw [← hT] at hra8 hD8 hT64 hTl

        have hToff : ∀ i, T.getD i [] = (preL j).getD i [] := fun i => by rw [hT]
        have hq : decide (a < (0 : Int)) = true ∨ (decide (a < (0 : Int)) = false ∧ decide ((j : Int) ≤ a) = true) ∨ (decide (a < (0 : Int)) = false ∧ decide ((j : Int) ≤ a) = false ∧ decide ((j : Int) - a < (s : Int)) = true ∧ -9223372036854775808 ≤ (j : Int) - a ∧ (j : Int) - a ≤ 9223372036854775807) := by
          simp only [decide_eq_true_eq, decide_eq_false_iff_not]
          omega
        have HToff := Lib.hid hToff
        have Hgood := Lib.hid hgood
        clear hs hT hToff hgood
        rcases hq with q1 | ⟨q1, q2⟩ | ⟨q1, q2, q3, r1, r2⟩
        · skip
          go_wp2_with fail
          obtain ⟨N, hN⟩ : ∃ x, x = j := ⟨_, rfl⟩
          go_loopw [86] (fun x wr => ∃ i : Nat, i ≤ j ∧ x = .int .i64 i ∧ Below w8.heap.size w8 wr) (fun x _ => j - (intOf x).toNat)
          case atStart => exact ⟨0, Nat.zero_le _, rfl, Below.refl _ _⟩
          case round =>
            obtain ⟨i, hij, rfl, hbr⟩ := hrel
            obtain ⟨wq, hwq⟩ : ∃ x, x = wr := ⟨_, rfl⟩
            subst hwq
            by_cases hlt : i < j
            · have hbz := hbr.size
              have hrbq := sec_range (range_below hrb8 hbr hgb8) hS64 (i := i) (by rw [hSl]; exact hlt)
              have hraq := sec_range (range_below hra8 hbr hga8) hT64 (i := i) (by rw [hTl]; exact hlt)
              have hX64 : ((preL j).getD i []).length = 64 := by rw [preL_getD hlt]; exact preS_length i
              have hY64 : (T.getD i []).length = 64 := hT64 _ (by simp [List.getD, show i < T.length by omega])
              obtain ⟨BL, hBL⟩ : ∃ l, l = Lib.byteCells ((preL j).getD i []) := ⟨_, rfl⟩
              obtain ⟨TL, hTL⟩ : ∃ l, l = Lib.byteCells (T.getD i []) := ⟨_, rfl⟩
              have hBl : BL.length = 64 := by rw [hBL, Lib.byteCells_length]; exact hX64
              have hTLl : TL.length = 64 := by rw [hTL, Lib.byteCells_length]; exact hY64
              have HBi := Lib.hid (show (Try.prog.info? 30).map (·.size) = some BL.toArray.size by rw [List.size_toArray, hBl]; exact secInfo)
              have HBn := Lib.hid (show (Try.prog.info? 30).map (·.size) = some BL.length by rw [hBl]; exact secInfo)
              have HBs := Lib.hid (show (Lib.byteCells zero64).toArray.size = BL.toArray.size by rw [List.size_toArray, List.size_toArray, hBl]; rfl)
              have HB1 := Lib.hid (show BL.toArray.all (·.oneCell') = true by rw [hBL]; exact sec_one _)
              have HTi := Lib.hid (show (Try.prog.info? 30).map (·.size) = some TL.toArray.size by rw [List.size_toArray, hTLl]; exact secInfo)
              have HTn := Lib.hid (show (Try.prog.info? 30).map (·.size) = some TL.length by rw [hTLl]; exact secInfo)
              have HTs := Lib.hid (show BL.toArray.size = TL.toArray.size by rw [List.size_toArray, List.size_toArray, hBl, hTLl])
              have HT1 := Lib.hid (show TL.toArray.all (·.oneCell') = true by rw [hTL]; exact sec_one _)
              have hcmp : ∀ w, (Op.equalIn 10000 30 (.agg TL.toArray) (.agg TL.toArray)).run Try.prog w = .ok true w := fun w => by
                rw [sec_eqv _ _ hY64 hY64 TL TL hTL hTL w]
                simp
              have hgS := gtS
              rw [← hBL] at hrbq
              rw [← hTL] at hraq
              have hiI : (i : Int) < (j : Int) := by omega
              have hin : decide (i < j) = true := by simp; exact hlt
              have hTi := HToff.out i
              rw [hTi, ← hBL] at hTL
              have hBT : BL = TL := hTL.symm
              subst hBT
              have e1 : decide (a ≤ (i : Int)) = false ∨ (decide (a ≤ (i : Int)) = true ∧ decide ((i : Int) < a) = false) := by
                simp only [decide_eq_true_eq, decide_eq_false_iff_not]
                omega
              clear hTi
              rcases e1 with e1 | ⟨e1, e2⟩
              · have HBL := Lib.hid hBL
                clear hBL
                go_wp2_with (first
                  | (refine wpList_load_mid rfl _ _ rfl gb (i * 64) rfl BL _ hrbq Try.underlying30 rfl HBn.out ?_)
                  | (change wpList _ _ _ _ _ (wq.alloc (.cells (Lib.byteCells zero64).toArray 30)); refine wpList_store_row rfl _ _ _ rfl wq.heap.size BL.toArray rfl rfl 30 (Lib.byteCells zero64).toArray (heap_alloc_new wq _) HBi.out HBs.out HB1.out ?_; obtain ⟨wa, hwa⟩ : ∃ x, x = (wq.alloc (.cells (Lib.byteCells zero64).toArray 30)).setRow wq.heap.size BL.toArray := ⟨_, rfl⟩; rw [← hwa]; obtain ⟨hXa, hba⟩ := alloc_rowD wq 30 (Lib.byteCells zero64).toArray BL; rw [← hwa] at hXa hba; clear hwa))
                have hrz := range_below hraq hba (by omega)
                have hXd : Arr wa.drew wq.heap.size 30 BL := hXa.drewN 1
                have hrd : wa.drew.rangeAt ga (i * 64) BL := hrz
                refine wp_region_held_drew (S := fun w' => w'.rangeAt ga (i * 64) BL ∧ w'.rangeAt wq.heap.size 0 BL) (by kernel_rfl) ⟨hrd, hXd.rangeD⟩ (fun hHeld => ?_)
                refine anyH_take (i := 0) (v := .slice (some ⟨ga, 0, none⟩) j ca) (some 110) rfl rfl (by kernel_rfl) (by kernel_rfl) (by kernel_rfl) (fun _ _ _ h => h) (Or.inl ⟨by rfl, fun _ _ => by rfl⟩) (by assumption) ?_
                simp only [Act.put, List.setIfInBounds_toArray, List.set_cons_zero, List.set_cons_succ]
                refine anyH_take (i := 1) (v := .int .i64 (i : Nat)) (some 111) rfl rfl (by kernel_rfl) (by kernel_rfl) (by kernel_rfl) (fun _ _ _ h => h) (Or.inl ⟨by rfl, fun _ _ => by rfl⟩) (by assumption) ?_
                simp only [Act.put, List.setIfInBounds_toArray, List.set_cons_zero, List.set_cons_succ]
                refine anyH_take (i := 2) (v := .pointer (some ⟨ga, i * 64, none⟩)) (some 112) rfl rfl (by kernel_rfl) (by kernel_rfl) (by kernel_rfl) (fun _ _ _ h => h) (Or.inl ⟨by rfl, fun _ _ => by go_simp⟩) (by assumption) ?_
                simp only [Act.put, List.setIfInBounds_toArray, List.set_cons_zero, List.set_cons_succ]
                refine anyH_take (i := 3) (some 113) rfl rfl (by kernel_rfl) (by kernel_rfl) (by kernel_rfl) (fun _ _ _ h => h) (yieldsIf_load_mid (by rfl) 30 (.tmp 112) rfl ga (i * 64) rfl BL _ (fun _ h => h.1) Try.underlying30 rfl HBn.out) (by assumption) ?_
                simp only [Act.put, List.setIfInBounds_toArray, List.set_cons_zero, List.set_cons_succ]
                refine anyH_take (i := 4) (some 114) rfl rfl (by kernel_rfl) (by kernel_rfl) (by kernel_rfl) (fun _ _ _ h => h) (yieldsIf_load_mid (by rfl) 30 (.tmp 16) rfl wq.heap.size 0 rfl BL _ (fun _ h => h.2) Try.underlying30 rfl HBn.out) (by assumption) ?_
                simp only [Act.put, List.setIfInBounds_toArray, List.set_cons_zero, List.set_cons_succ]
                refine wpAnyH_ready (rs := [5]) (by kernel_rfl) (by simp) ?_
                refine AllReadyH.cons rfl (fun K hK => ?_) AllReadyH.nil
                go_simp
                refine hK.out _ _ ⟨hrd, hXd.rangeD⟩ (fun hHeld => ?_)
                clear hK K
                try simp only [Act.put, List.setIfInBounds_toArray, List.set_cons_zero, List.set_cons_succ]
                refine wpAnyH_done (by kernel_rfl) ?_ _
                go_wp2_with fail
                case roundEnd => exact ⟨⟨i + 1, by omega, by simp, hbr.trans ((Below.dN hba 1).mono hbz)⟩, by simp [intOf]; omega⟩
              · have HBL := Lib.hid hBL
                clear hBL
                go_wp2_with (first
                  | (refine wpList_load_mid rfl _ _ rfl gb (i * 64) rfl BL _ hrbq Try.underlying30 rfl HBn.out ?_)
                  | (change wpList _ _ _ _ _ (wq.alloc (.cells (Lib.byteCells zero64).toArray 30)); refine wpList_store_row rfl _ _ _ rfl wq.heap.size BL.toArray rfl rfl 30 (Lib.byteCells zero64).toArray (heap_alloc_new wq _) HBi.out HBs.out HB1.out ?_; obtain ⟨wa, hwa⟩ : ∃ x, x = (wq.alloc (.cells (Lib.byteCells zero64).toArray 30)).setRow wq.heap.size BL.toArray := ⟨_, rfl⟩; rw [← hwa]; obtain ⟨hXa, hba⟩ := alloc_rowD wq 30 (Lib.byteCells zero64).toArray BL; rw [← hwa] at hXa hba; clear hwa))
                have hrz := range_below hraq hba (by omega)
                have hXd : Arr wa.drew wq.heap.size 30 BL := hXa.drewN 1
                have hrd : wa.drew.rangeAt ga (i * 64) BL := hrz
                refine wp_region_held_drew (S := fun w' => w'.rangeAt ga (i * 64) BL ∧ w'.rangeAt wq.heap.size 0 BL) (by kernel_rfl) ⟨hrd, hXd.rangeD⟩ (fun hHeld => ?_)
                refine anyH_take (i := 0) (v := .slice (some ⟨ga, 0, none⟩) j ca) (some 110) rfl rfl (by kernel_rfl) (by kernel_rfl) (by kernel_rfl) (fun _ _ _ h => h) (Or.inl ⟨by rfl, fun _ _ => by rfl⟩) (by assumption) ?_
                simp only [Act.put, List.setIfInBounds_toArray, List.set_cons_zero, List.set_cons_succ]
                refine anyH_take (i := 1) (v := .int .i64 (i : Nat)) (some 111) rfl rfl (by kernel_rfl) (by kernel_rfl) (by kernel_rfl) (fun _ _ _ h => h) (Or.inl ⟨by rfl, fun _ _ => by rfl⟩) (by assumption) ?_
                simp only [Act.put, List.setIfInBounds_toArray, List.set_cons_zero, List.set_cons_succ]
                refine anyH_take (i := 2) (v := .pointer (some ⟨ga, i * 64, none⟩)) (some 112) rfl rfl (by kernel_rfl) (by kernel_rfl) (by kernel_rfl) (fun _ _ _ h => h) (Or.inl ⟨by rfl, fun _ _ => by go_simp⟩) (by assumption) ?_
                simp only [Act.put, List.setIfInBounds_toArray, List.set_cons_zero, List.set_cons_succ]
                refine anyH_take (i := 3) (some 113) rfl rfl (by kernel_rfl) (by kernel_rfl) (by kernel_rfl) (fun _ _ _ h => h) (yieldsIf_load_mid (by rfl) 30 (.tmp 112) rfl ga (i * 64) rfl BL _ (fun _ h => h.1) Try.underlying30 rfl HBn.out) (by assumption) ?_
                simp only [Act.put, List.setIfInBounds_toArray, List.set_cons_zero, List.set_cons_succ]
                refine anyH_take (i := 4) (some 114) rfl rfl (by kernel_rfl) (by kernel_rfl) (by kernel_rfl) (fun _ _ _ h => h) (yieldsIf_load_mid (by rfl) 30 (.tmp 16) rfl wq.heap.size 0 rfl BL _ (fun _ h => h.2) Try.underlying30 rfl HBn.out) (by assumption) ?_
                simp only [Act.put, List.setIfInBounds_toArray, List.set_cons_zero, List.set_cons_succ]
                refine wpAnyH_ready (rs := [5]) (by kernel_rfl) (by simp) ?_
                refine AllReadyH.cons rfl (fun K hK => ?_) AllReadyH.nil
                go_simp
                refine hK.out _ _ ⟨hrd, hXd.rangeD⟩ (fun hHeld => ?_)
                clear hK K
                try simp only [Act.put, List.setIfInBounds_toArray, List.set_cons_zero, List.set_cons_succ]
                refine wpAnyH_done (by kernel_rfl) ?_ _
                go_wp2_with fail
                case roundEnd => exact ⟨⟨i + 1, by omega, by simp, hbr.trans ((Below.dN hba 1).mono hbz)⟩, by simp [intOf]; omega⟩
            · obtain rfl : i = j := by omega
              have hin : decide (i < i) = false := by simp
              have hPq : Arr wq gr 36 DL := hP8.upD hbr
              have hBq : Below B w wq := hB8.trans (hbr.mono hBs8)
              have hgtR := gtR
              have hz0 : (([] : List UInt8).length : Int) = 0 := rfl
              have HRb := Lib.hid (show Try.prog.built 36 [] = some DL.toArray by rw [HDL.out]; exact ref_zero)
              have hcmpD : ∀ w, (Op.equalIn 10000 36 (.agg DL.toArray) (.agg DL.toArray)).run Try.prog w = .ok true w := fun w => by
                rw [ref_eqv (List.replicate 32 0) (List.replicate 32 0) (by simp) (by simp) 0 0 0 0 DL DL HDL.out HDL.out w]
                simp
              clear hP8 hD8 hB8 hrb8 hra8 hbr hBs8 hz0
              go_wp2_with (first
                | (refine wpList_load_row_ifB (by rfl) _ _ rfl gr rfl 36 DL.toArray _ hPq Try.underlying36 rfl HDi.out ?_)
                | (refine wpList_built_ifB (by rfl) _ _ rfl [] rfl DL.toArray HRb.out ?_))
              go_ret
              exact ⟨rfl, hB ▸ hBq⟩
        · skip
          go_wp2_with fail
          obtain ⟨N, hN⟩ : ∃ x, x = j := ⟨_, rfl⟩
          go_loopw [86] (fun x wr => ∃ i : Nat, i ≤ j ∧ x = .int .i64 i ∧ Below w8.heap.size w8 wr) (fun x _ => j - (intOf x).toNat)
          case atStart => exact ⟨0, Nat.zero_le _, rfl, Below.refl _ _⟩
          case round =>
            obtain ⟨i, hij, rfl, hbr⟩ := hrel
            obtain ⟨wq, hwq⟩ : ∃ x, x = wr := ⟨_, rfl⟩
            subst hwq
            by_cases hlt : i < j
            · have hbz := hbr.size
              have hrbq := sec_range (range_below hrb8 hbr hgb8) hS64 (i := i) (by rw [hSl]; exact hlt)
              have hraq := sec_range (range_below hra8 hbr hga8) hT64 (i := i) (by rw [hTl]; exact hlt)
              have hX64 : ((preL j).getD i []).length = 64 := by rw [preL_getD hlt]; exact preS_length i
              have hY64 : (T.getD i []).length = 64 := hT64 _ (by simp [List.getD, show i < T.length by omega])
              obtain ⟨BL, hBL⟩ : ∃ l, l = Lib.byteCells ((preL j).getD i []) := ⟨_, rfl⟩
              obtain ⟨TL, hTL⟩ : ∃ l, l = Lib.byteCells (T.getD i []) := ⟨_, rfl⟩
              have hBl : BL.length = 64 := by rw [hBL, Lib.byteCells_length]; exact hX64
              have hTLl : TL.length = 64 := by rw [hTL, Lib.byteCells_length]; exact hY64
              have HBi := Lib.hid (show (Try.prog.info? 30).map (·.size) = some BL.toArray.size by rw [List.size_toArray, hBl]; exact secInfo)
              have HBn := Lib.hid (show (Try.prog.info? 30).map (·.size) = some BL.length by rw [hBl]; exact secInfo)
              have HBs := Lib.hid (show (Lib.byteCells zero64).toArray.size = BL.toArray.size by rw [List.size_toArray, List.size_toArray, hBl]; rfl)
              have HB1 := Lib.hid (show BL.toArray.all (·.oneCell') = true by rw [hBL]; exact sec_one _)
              have HTi := Lib.hid (show (Try.prog.info? 30).map (·.size) = some TL.toArray.size by rw [List.size_toArray, hTLl]; exact secInfo)
              have HTn := Lib.hid (show (Try.prog.info? 30).map (·.size) = some TL.length by rw [hTLl]; exact secInfo)
              have HTs := Lib.hid (show BL.toArray.size = TL.toArray.size by rw [List.size_toArray, List.size_toArray, hBl, hTLl])
              have HT1 := Lib.hid (show TL.toArray.all (·.oneCell') = true by rw [hTL]; exact sec_one _)
              have hcmp : ∀ w, (Op.equalIn 10000 30 (.agg TL.toArray) (.agg TL.toArray)).run Try.prog w = .ok true w := fun w => by
                rw [sec_eqv _ _ hY64 hY64 TL TL hTL hTL w]
                simp
              have hgS := gtS
              rw [← hBL] at hrbq
              rw [← hTL] at hraq
              have hiI : (i : Int) < (j : Int) := by omega
              have hin : decide (i < j) = true := by simp; exact hlt
              have hTi := HToff.out i
              rw [hTi, ← hBL] at hTL
              have hBT : BL = TL := hTL.symm
              subst hBT
              have e1 : decide (a ≤ (i : Int)) = false ∨ (decide (a ≤ (i : Int)) = true ∧ decide ((i : Int) < a) = false) := by
                simp only [decide_eq_true_eq, decide_eq_false_iff_not]
                omega
              clear hTi
              rcases e1 with e1 | ⟨e1, e2⟩
              · have HBL := Lib.hid hBL
                clear hBL
                go_wp2_with (first
                  | (refine wpList_load_mid rfl _ _ rfl gb (i * 64) rfl BL _ hrbq Try.underlying30 rfl HBn.out ?_)
                  | (change wpList _ _ _ _ _ (wq.alloc (.cells (Lib.byteCells zero64).toArray 30)); refine wpList_store_row rfl _ _ _ rfl wq.heap.size BL.toArray rfl rfl 30 (Lib.byteCells zero64).toArray (heap_alloc_new wq _) HBi.out HBs.out HB1.out ?_; obtain ⟨wa, hwa⟩ : ∃ x, x = (wq.alloc (.cells (Lib.byteCells zero64).toArray 30)).setRow wq.heap.size BL.toArray := ⟨_, rfl⟩; rw [← hwa]; obtain ⟨hXa, hba⟩ := alloc_rowD wq 30 (Lib.byteCells zero64).toArray BL; rw [← hwa] at hXa hba; clear hwa))
                have hrz := range_below hraq hba (by omega)
                have hXd : Arr wa.drew wq.heap.size 30 BL := hXa.drewN 1
                have hrd : wa.drew.rangeAt ga (i * 64) BL := hrz
                refine wp_region_held_drew (S := fun w' => w'.rangeAt ga (i * 64) BL ∧ w'.rangeAt wq.heap.size 0 BL) (by kernel_rfl) ⟨hrd, hXd.rangeD⟩ (fun hHeld => ?_)
                refine anyH_take (i := 0) (v := .slice (some ⟨ga, 0, none⟩) j ca) (some 110) rfl rfl (by kernel_rfl) (by kernel_rfl) (by kernel_rfl) (fun _ _ _ h => h) (Or.inl ⟨by rfl, fun _ _ => by rfl⟩) (by assumption) ?_
                simp only [Act.put, List.setIfInBounds_toArray, List.set_cons_zero, List.set_cons_succ]
                refine anyH_take (i := 1) (v := .int .i64 (i : Nat)) (some 111) rfl rfl (by kernel_rfl) (by kernel_rfl) (by kernel_rfl) (fun _ _ _ h => h) (Or.inl ⟨by rfl, fun _ _ => by rfl⟩) (by assumption) ?_
                simp only [Act.put, List.setIfInBounds_toArray, List.set_cons_zero, List.set_cons_succ]
                refine anyH_take (i := 2) (v := .pointer (some ⟨ga, i * 64, none⟩)) (some 112) rfl rfl (by kernel_rfl) (by kernel_rfl) (by kernel_rfl) (fun _ _ _ h => h) (Or.inl ⟨by rfl, fun _ _ => by go_simp⟩) (by assumption) ?_
                simp only [Act.put, List.setIfInBounds_toArray, List.set_cons_zero, List.set_cons_succ]
                refine anyH_take (i := 3) (some 113) rfl rfl (by kernel_rfl) (by kernel_rfl) (by kernel_rfl) (fun _ _ _ h => h) (yieldsIf_load_mid (by rfl) 30 (.tmp 112) rfl ga (i * 64) rfl BL _ (fun _ h => h.1) Try.underlying30 rfl HBn.out) (by assumption) ?_
                simp only [Act.put, List.setIfInBounds_toArray, List.set_cons_zero, List.set_cons_succ]
                refine anyH_take (i := 4) (some 114) rfl rfl (by kernel_rfl) (by kernel_rfl) (by kernel_rfl) (fun _ _ _ h => h) (yieldsIf_load_mid (by rfl) 30 (.tmp 16) rfl wq.heap.size 0 rfl BL _ (fun _ h => h.2) Try.underlying30 rfl HBn.out) (by assumption) ?_
                simp only [Act.put, List.setIfInBounds_toArray, List.set_cons_zero, List.set_cons_succ]
                refine wpAnyH_ready (rs := [5]) (by kernel_rfl) (by simp) ?_
                refine AllReadyH.cons rfl (fun K hK => ?_) AllReadyH.nil
                go_simp
                refine hK.out _ _ ⟨hrd, hXd.rangeD⟩ (fun hHeld => ?_)
                clear hK K
                try simp only [Act.put, List.setIfInBounds_toArray, List.set_cons_zero, List.set_cons_succ]
                refine wpAnyH_done (by kernel_rfl) ?_ _
                go_wp2_with fail
                case roundEnd => exact ⟨⟨i + 1, by omega, by simp, hbr.trans ((Below.dN hba 1).mono hbz)⟩, by simp [intOf]; omega⟩
              · have HBL := Lib.hid hBL
                clear hBL
                go_wp2_with (first
                  | (refine wpList_load_mid rfl _ _ rfl gb (i * 64) rfl BL _ hrbq Try.underlying30 rfl HBn.out ?_)
                  | (change wpList _ _ _ _ _ (wq.alloc (.cells (Lib.byteCells zero64).toArray 30)); refine wpList_store_row rfl _ _ _ rfl wq.heap.size BL.toArray rfl rfl 30 (Lib.byteCells zero64).toArray (heap_alloc_new wq _) HBi.out HBs.out HB1.out ?_; obtain ⟨wa, hwa⟩ : ∃ x, x = (wq.alloc (.cells (Lib.byteCells zero64).toArray 30)).setRow wq.heap.size BL.toArray := ⟨_, rfl⟩; rw [← hwa]; obtain ⟨hXa, hba⟩ := alloc_rowD wq 30 (Lib.byteCells zero64).toArray BL; rw [← hwa] at hXa hba; clear hwa))
                have hrz := range_below hraq hba (by omega)
                have hXd : Arr wa.drew wq.heap.size 30 BL := hXa.drewN 1
                have hrd : wa.drew.rangeAt ga (i * 64) BL := hrz
                refine wp_region_held_drew (S := fun w' => w'.rangeAt ga (i * 64) BL ∧ w'.rangeAt wq.heap.size 0 BL) (by kernel_rfl) ⟨hrd, hXd.rangeD⟩ (fun hHeld => ?_)
                refine anyH_take (i := 0) (v := .slice (some ⟨ga, 0, none⟩) j ca) (some 110) rfl rfl (by kernel_rfl) (by kernel_rfl) (by kernel_rfl) (fun _ _ _ h => h) (Or.inl ⟨by rfl, fun _ _ => by rfl⟩) (by assumption) ?_
                simp only [Act.put, List.setIfInBounds_toArray, List.set_cons_zero, List.set_cons_succ]
                refine anyH_take (i := 1) (v := .int .i64 (i : Nat)) (some 111) rfl rfl (by kernel_rfl) (by kernel_rfl) (by kernel_rfl) (fun _ _ _ h => h) (Or.inl ⟨by rfl, fun _ _ => by rfl⟩) (by assumption) ?_
                simp only [Act.put, List.setIfInBounds_toArray, List.set_cons_zero, List.set_cons_succ]
                refine anyH_take (i := 2) (v := .pointer (some ⟨ga, i * 64, none⟩)) (some 112) rfl rfl (by kernel_rfl) (by kernel_rfl) (by kernel_rfl) (fun _ _ _ h => h) (Or.inl ⟨by rfl, fun _ _ => by go_simp⟩) (by assumption) ?_
                simp only [Act.put, List.setIfInBounds_toArray, List.set_cons_zero, List.set_cons_succ]
                refine anyH_take (i := 3) (some 113) rfl rfl (by kernel_rfl) (by kernel_rfl) (by kernel_rfl) (fun _ _ _ h => h) (yieldsIf_load_mid (by rfl) 30 (.tmp 112) rfl ga (i * 64) rfl BL _ (fun _ h => h.1) Try.underlying30 rfl HBn.out) (by assumption) ?_
                simp only [Act.put, List.setIfInBounds_toArray, List.set_cons_zero, List.set_cons_succ]
                refine anyH_take (i := 4) (some 114) rfl rfl (by kernel_rfl) (by kernel_rfl) (by kernel_rfl) (fun _ _ _ h => h) (yieldsIf_load_mid (by rfl) 30 (.tmp 16) rfl wq.heap.size 0 rfl BL _ (fun _ h => h.2) Try.underlying30 rfl HBn.out) (by assumption) ?_
                simp only [Act.put, List.setIfInBounds_toArray, List.set_cons_zero, List.set_cons_succ]
                refine wpAnyH_ready (rs := [5]) (by kernel_rfl) (by simp) ?_
                refine AllReadyH.cons rfl (fun K hK => ?_) AllReadyH.nil
                go_simp
                refine hK.out _ _ ⟨hrd, hXd.rangeD⟩ (fun hHeld => ?_)
                clear hK K
                try simp only [Act.put, List.setIfInBounds_toArray, List.set_cons_zero, List.set_cons_succ]
                refine wpAnyH_done (by kernel_rfl) ?_ _
                go_wp2_with fail
                case roundEnd => exact ⟨⟨i + 1, by omega, by simp, hbr.trans ((Below.dN hba 1).mono hbz)⟩, by simp [intOf]; omega⟩
            · obtain rfl : i = j := by omega
              have hin : decide (i < i) = false := by simp
              have hPq : Arr wq gr 36 DL := hP8.upD hbr
              have hBq : Below B w wq := hB8.trans (hbr.mono hBs8)
              have hgtR := gtR
              have hz0 : (([] : List UInt8).length : Int) = 0 := rfl
              have HRb := Lib.hid (show Try.prog.built 36 [] = some DL.toArray by rw [HDL.out]; exact ref_zero)
              have hcmpD : ∀ w, (Op.equalIn 10000 36 (.agg DL.toArray) (.agg DL.toArray)).run Try.prog w = .ok true w := fun w => by
                rw [ref_eqv (List.replicate 32 0) (List.replicate 32 0) (by simp) (by simp) 0 0 0 0 DL DL HDL.out HDL.out w]
                simp
              clear hP8 hD8 hB8 hrb8 hra8 hbr hBs8 hz0
              go_wp2_with (first
                | (refine wpList_load_row_ifB (by rfl) _ _ rfl gr rfl 36 DL.toArray _ hPq Try.underlying36 rfl HDi.out ?_)
                | (refine wpList_built_ifB (by rfl) _ _ rfl [] rfl DL.toArray HRb.out ?_))
              go_ret
              exact ⟨rfl, hB ▸ hBq⟩
        · skip
          go_wp2_with fail
          obtain ⟨N, hN⟩ : ∃ x, x = j := ⟨_, rfl⟩
          go_loopw [86] (fun x wr => ∃ i : Nat, i ≤ j ∧ x = .int .i64 i ∧ Below w8.heap.size w8 wr) (fun x _ => j - (intOf x).toNat)
          case atStart => exact ⟨0, Nat.zero_le _, rfl, Below.refl _ _⟩
          case round =>
            obtain ⟨i, hij, rfl, hbr⟩ := hrel
            obtain ⟨wq, hwq⟩ : ∃ x, x = wr := ⟨_, rfl⟩
            subst hwq
            by_cases hlt : i < j
            · have hbz := hbr.size
              have hrbq := sec_range (range_below hrb8 hbr hgb8) hS64 (i := i) (by rw [hSl]; exact hlt)
              have hraq := sec_range (range_below hra8 hbr hga8) hT64 (i := i) (by rw [hTl]; exact hlt)
              have hX64 : ((preL j).getD i []).length = 64 := by rw [preL_getD hlt]; exact preS_length i
              have hY64 : (T.getD i []).length = 64 := hT64 _ (by simp [List.getD, show i < T.length by omega])
              obtain ⟨BL, hBL⟩ : ∃ l, l = Lib.byteCells ((preL j).getD i []) := ⟨_, rfl⟩
              obtain ⟨TL, hTL⟩ : ∃ l, l = Lib.byteCells (T.getD i []) := ⟨_, rfl⟩
              have hBl : BL.length = 64 := by rw [hBL, Lib.byteCells_length]; exact hX64
              have hTLl : TL.length = 64 := by rw [hTL, Lib.byteCells_length]; exact hY64
              have HBi := Lib.hid (show (Try.prog.info? 30).map (·.size) = some BL.toArray.size by rw [List.size_toArray, hBl]; exact secInfo)
              have HBn := Lib.hid (show (Try.prog.info? 30).map (·.size) = some BL.length by rw [hBl]; exact secInfo)
              have HBs := Lib.hid (show (Lib.byteCells zero64).toArray.size = BL.toArray.size by rw [List.size_toArray, List.size_toArray, hBl]; rfl)
              have HB1 := Lib.hid (show BL.toArray.all (·.oneCell') = true by rw [hBL]; exact sec_one _)
              have HTi := Lib.hid (show (Try.prog.info? 30).map (·.size) = some TL.toArray.size by rw [List.size_toArray, hTLl]; exact secInfo)
              have HTn := Lib.hid (show (Try.prog.info? 30).map (·.size) = some TL.length by rw [hTLl]; exact secInfo)
              have HTs := Lib.hid (show BL.toArray.size = TL.toArray.size by rw [List.size_toArray, List.size_toArray, hBl, hTLl])
              have HT1 := Lib.hid (show TL.toArray.all (·.oneCell') = true by rw [hTL]; exact sec_one _)
              have hcmp : ∀ w, (Op.equalIn 10000 30 (.agg TL.toArray) (.agg TL.toArray)).run Try.prog w = .ok true w := fun w => by
                rw [sec_eqv _ _ hY64 hY64 TL TL hTL hTL w]
                simp
              have hgS := gtS
              rw [← hBL] at hrbq
              rw [← hTL] at hraq
              have hiI : (i : Int) < (j : Int) := by omega
              have hin : decide (i < j) = true := by simp; exact hlt
              have hTi := HToff.out i
              rw [hTi, ← hBL] at hTL
              have hBT : BL = TL := hTL.symm
              subst hBT
              have e1 : decide (a ≤ (i : Int)) = false ∨ (decide (a ≤ (i : Int)) = true ∧ decide ((i : Int) < a) = false) := by
                simp only [decide_eq_true_eq, decide_eq_false_iff_not]
                omega
              clear hTi
              rcases e1 with e1 | ⟨e1, e2⟩
              · have HBL := Lib.hid hBL
                clear hBL
                go_wp2_with (first
                  | (refine wpList_load_mid rfl _ _ rfl gb (i * 64) rfl BL _ hrbq Try.underlying30 rfl HBn.out ?_)
                  | (change wpList _ _ _ _ _ (wq.alloc (.cells (Lib.byteCells zero64).toArray 30)); refine wpList_store_row rfl _ _ _ rfl wq.heap.size BL.toArray rfl rfl 30 (Lib.byteCells zero64).toArray (heap_alloc_new wq _) HBi.out HBs.out HB1.out ?_; obtain ⟨wa, hwa⟩ : ∃ x, x = (wq.alloc (.cells (Lib.byteCells zero64).toArray 30)).setRow wq.heap.size BL.toArray := ⟨_, rfl⟩; rw [← hwa]; obtain ⟨hXa, hba⟩ := alloc_rowD wq 30 (Lib.byteCells zero64).toArray BL; rw [← hwa] at hXa hba; clear hwa))
                have hrz := range_below hraq hba (by omega)
                have hXd : Arr wa.drew wq.heap.size 30 BL := hXa.drewN 1
                have hrd : wa.drew.rangeAt ga (i * 64) BL := hrz
                refine wp_region_held_drew (S := fun w' => w'.rangeAt ga (i * 64) BL ∧ w'.rangeAt wq.heap.size 0 BL) (by kernel_rfl) ⟨hrd, hXd.rangeD⟩ (fun hHeld => ?_)
                refine anyH_take (i := 0) (v := .slice (some ⟨ga, 0, none⟩) j ca) (some 110) rfl rfl (by kernel_rfl) (by kernel_rfl) (by kernel_rfl) (fun _ _ _ h => h) (Or.inl ⟨by rfl, fun _ _ => by rfl⟩) (by assumption) ?_
                simp only [Act.put, List.setIfInBounds_toArray, List.set_cons_zero, List.set_cons_succ]
                refine anyH_take (i := 1) (v := .int .i64 (i : Nat)) (some 111) rfl rfl (by kernel_rfl) (by kernel_rfl) (by kernel_rfl) (fun _ _ _ h => h) (Or.inl ⟨by rfl, fun _ _ => by rfl⟩) (by assumption) ?_
                simp only [Act.put, List.setIfInBounds_toArray, List.set_cons_zero, List.set_cons_succ]
                refine anyH_take (i := 2) (v := .pointer (some ⟨ga, i * 64, none⟩)) (some 112) rfl rfl (by kernel_rfl) (by kernel_rfl) (by kernel_rfl) (fun _ _ _ h => h) (Or.inl ⟨by rfl, fun _ _ => by go_simp⟩) (by assumption) ?_
                simp only [Act.put, List.setIfInBounds_toArray, List.set_cons_zero, List.set_cons_succ]
                refine anyH_take (i := 3) (some 113) rfl rfl (by kernel_rfl) (by kernel_rfl) (by kernel_rfl) (fun _ _ _ h => h) (yieldsIf_load_mid (by rfl) 30 (.tmp 112) rfl ga (i * 64) rfl BL _ (fun _ h => h.1) Try.underlying30 rfl HBn.out) (by assumption) ?_
                simp only [Act.put, List.setIfInBounds_toArray, List.set_cons_zero, List.set_cons_succ]
                refine anyH_take (i := 4) (some 114) rfl rfl (by kernel_rfl) (by kernel_rfl) (by kernel_rfl) (fun _ _ _ h => h) (yieldsIf_load_mid (by rfl) 30 (.tmp 16) rfl wq.heap.size 0 rfl BL _ (fun _ h => h.2) Try.underlying30 rfl HBn.out) (by assumption) ?_
                simp only [Act.put, List.setIfInBounds_toArray, List.set_cons_zero, List.set_cons_succ]
                refine wpAnyH_ready (rs := [5]) (by kernel_rfl) (by simp) ?_
                refine AllReadyH.cons rfl (fun K hK => ?_) AllReadyH.nil
                go_simp
                refine hK.out _ _ ⟨hrd, hXd.rangeD⟩ (fun hHeld => ?_)
                clear hK K
                try simp only [Act.put, List.setIfInBounds_toArray, List.set_cons_zero, List.set_cons_succ]
                refine wpAnyH_done (by kernel_rfl) ?_ _
                go_wp2_with fail
                case roundEnd => exact ⟨⟨i + 1, by omega, by simp, hbr.trans ((Below.dN hba 1).mono hbz)⟩, by simp [intOf]; omega⟩
              · have HBL := Lib.hid hBL
                clear hBL
                go_wp2_with (first
                  | (refine wpList_load_mid rfl _ _ rfl gb (i * 64) rfl BL _ hrbq Try.underlying30 rfl HBn.out ?_)
                  | (change wpList _ _ _ _ _ (wq.alloc (.cells (Lib.byteCells zero64).toArray 30)); refine wpList_store_row rfl _ _ _ rfl wq.heap.size BL.toArray rfl rfl 30 (Lib.byteCells zero64).toArray (heap_alloc_new wq _) HBi.out HBs.out HB1.out ?_; obtain ⟨wa, hwa⟩ : ∃ x, x = (wq.alloc (.cells (Lib.byteCells zero64).toArray 30)).setRow wq.heap.size BL.toArray := ⟨_, rfl⟩; rw [← hwa]; obtain ⟨hXa, hba⟩ := alloc_rowD wq 30 (Lib.byteCells zero64).toArray BL; rw [← hwa] at hXa hba; clear hwa))
                have hrz := range_below hraq hba (by omega)
                have hXd : Arr wa.drew wq.heap.size 30 BL := hXa.drewN 1
                have hrd : wa.drew.rangeAt ga (i * 64) BL := hrz
                refine wp_region_held_drew (S := fun w' => w'.rangeAt ga (i * 64) BL ∧ w'.rangeAt wq.heap.size 0 BL) (by kernel_rfl) ⟨hrd, hXd.rangeD⟩ (fun hHeld => ?_)
                refine anyH_take (i := 0) (v := .slice (some ⟨ga, 0, none⟩) j ca) (some 110) rfl rfl (by kernel_rfl) (by kernel_rfl) (by kernel_rfl) (fun _ _ _ h => h) (Or.inl ⟨by rfl, fun _ _ => by rfl⟩) (by assumption) ?_
                simp only [Act.put, List.setIfInBounds_toArray, List.set_cons_zero, List.set_cons_succ]
                refine anyH_take (i := 1) (v := .int .i64 (i : Nat)) (some 111) rfl rfl (by kernel_rfl) (by kernel_rfl) (by kernel_rfl) (fun _ _ _ h => h) (Or.inl ⟨by rfl, fun _ _ => by rfl⟩) (by assumption) ?_
                simp only [Act.put, List.setIfInBounds_toArray, List.set_cons_zero, List.set_cons_succ]
                refine anyH_take (i := 2) (v := .pointer (some ⟨ga, i * 64, none⟩)) (some 112) rfl rfl (by kernel_rfl) (by kernel_rfl) (by kernel_rfl) (fun _ _ _ h => h) (Or.inl ⟨by rfl, fun _ _ => by go_simp⟩) (by assumption) ?_
                simp only [Act.put, List.setIfInBounds_toArray, List.set_cons_zero, List.set_cons_succ]
                refine anyH_take (i := 3) (some 113) rfl rfl (by kernel_rfl) (by kernel_rfl) (by kernel_rfl) (fun _ _ _ h => h) (yieldsIf_load_mid (by rfl) 30 (.tmp 112) rfl ga (i * 64) rfl BL _ (fun _ h => h.1) Try.underlying30 rfl HBn.out) (by assumption) ?_
                simp only [Act.put, List.setIfInBounds_toArray, List.set_cons_zero, List.set_cons_succ]
                refine anyH_take (i := 4) (some 114) rfl rfl (by kernel_rfl) (by kernel_rfl) (by kernel_rfl) (fun _ _ _ h => h) (yieldsIf_load_mid (by rfl) 30 (.tmp 16) rfl wq.heap.size 0 rfl BL _ (fun _ h => h.2) Try.underlying30 rfl HBn.out) (by assumption) ?_
                simp only [Act.put, List.setIfInBounds_toArray, List.set_cons_zero, List.set_cons_succ]
                refine wpAnyH_ready (rs := [5]) (by kernel_rfl) (by simp) ?_
                refine AllReadyH.cons rfl (fun K hK => ?_) AllReadyH.nil
                go_simp
                refine hK.out _ _ ⟨hrd, hXd.rangeD⟩ (fun hHeld => ?_)
                clear hK K
                try simp only [Act.put, List.setIfInBounds_toArray, List.set_cons_zero, List.set_cons_succ]
                refine wpAnyH_done (by kernel_rfl) ?_ _
                go_wp2_with fail
                case roundEnd => exact ⟨⟨i + 1, by omega, by simp, hbr.trans ((Below.dN hba 1).mono hbz)⟩, by simp [intOf]; omega⟩
            · obtain rfl : i = j := by omega
              have hin : decide (i < i) = false := by simp
              have hPq : Arr wq gr 36 DL := hP8.upD hbr
              have hBq : Below B w wq := hB8.trans (hbr.mono hBs8)
              have hgtR := gtR
              have hz0 : (([] : List UInt8).length : Int) = 0 := rfl
              have HRb := Lib.hid (show Try.prog.built 36 [] = some DL.toArray by rw [HDL.out]; exact ref_zero)
              have hcmpD : ∀ w, (Op.equalIn 10000 36 (.agg DL.toArray) (.agg DL.toArray)).run Try.prog w = .ok true w := fun w => by
                rw [ref_eqv (List.replicate 32 0) (List.replicate 32 0) (by simp) (by simp) 0 0 0 0 DL DL HDL.out HDL.out w]
                simp
              clear hP8 hD8 hB8 hrb8 hra8 hbr hBs8 hz0
              go_wp2_with (first
                | (refine wpList_load_row_ifB (by rfl) _ _ rfl gr rfl 36 DL.toArray _ hPq Try.underlying36 rfl HDi.out ?_)
                | (refine wpList_built_ifB (by rfl) _ _ rfl [] rfl DL.toArray HRb.out ?_))
              go_ret
              exact ⟨rfl, hB ▸ hBq⟩

theorem blobWrites_walk (z : Int) (hz0 : -9223372036854775808 ≤ z) (hz1 : z ≤ 9223372036854775807) (a : Int) (ha0 : -9223372036854775808 ≤ a) (ha1 : a ≤ 9223372036854775807) (A : Option Addr) (c : Nat) (bs : List UInt8) (hnc : bs.length ≤ c) (hcm : c ≤ maxLen) (w : World) (hA : Bs w w.heap.size A bs) :
    Calls Try.prog 3 #[.int .i64 z, .int .i64 a, .slice A bs.length c] w fun e w' => e = .returned (.bool true) ∧ Below w.heap.size w w' := by
  by_cases h : z < 1 ∨ 200 < z ∨ 3000 < bs.length
  · exact bwrites_great z a A _ c w h
  · obtain ⟨m, rfl⟩ : ∃ m : Nat, z = (m : Int) := ⟨z.toNat, by omega⟩
    exact bwrites_in m a A _ c bs rfl hnc hcm ha0 ha1 w hA (by omega) (by omega) (by omega)

end Go.Proofs.Ytongmiebojilfaa

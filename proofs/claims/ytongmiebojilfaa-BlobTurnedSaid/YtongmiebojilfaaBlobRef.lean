/-
  The document's own Of and Sectors.
-/
import Derived.Test.YtongmiebojilfaaBlobGot
import Derived.Test.YtongmiebojilfaaRTagged
namespace Go.Proofs.Ytongmiebojilfaa
open Go.RowKit
set_option linter.unusedVariables false
set_option linter.unusedSimpArgs false

theorem rtagged_atB (use : UInt8) (u : Int) (rs : List (List UInt8)) (SL : List Value) (A : Option Addr) (n c : Nat) (w : World) (hu : ((use.toNat : Nat) : Int) = u) (hS : SL = Lib.byteCells (shaF (tagF use rs))) (hn : rs.length = n) (hn2 : n ≤ 1000000) (hr : RowsAt w w.heap.size A rs) (hlim : (tagF use rs).length ≤ 1000000) :
    Calls Try.prog 35 #[.int .u8 u, .slice A n c] w fun e w' => e = .returned (.agg SL.toArray) ∧ Below w.heap.size w w' := by
  subst hS hu; exact rtagged_any use rs A n c w hn hn2 hr hlim

set_option maxHeartbeats 8000000 in
set_option maxRecDepth 100000 in
theorem rof_any (a : Int) (l : List UInt8) (DL : List Value) (A : Option Addr) (n c : Nat) (w : World) (hn : l.length = n) (hn2 : n ≤ 900000) (hc : n ≤ c) (hm : c ≤ maxLen) (hb : Bs w w.heap.size A l) (ha0 : -9223372036854775808 ≤ a) (ha1 : a ≤ 9223372036854775807) (hDL : DL = refC (blobDig l) a n) :
    Calls Try.prog 15 #[.int .i64 a, .slice A n c] w fun e w' => e = .returned (.agg DL.toArray) ∧ Below w.heap.size w w' := by
  obtain ⟨W, hW⟩ : ∃ W, W = w.alloc (.cells refZ.toArray 36) := ⟨_, rfl⟩
  have hR : Arr W w.heap.size 36 refZ := by rw [hW]; exact Arr.new w _ _
  have hWs : W.heap.size = w.heap.size + 1 := by rw [hW]; simp
  have hB : Below w.heap.size w W := by rw [hW]; exact (Below.refl _ w).alloc (Nat.le_refl _) _
  obtain ⟨V, hV⟩ : ∃ V, V = W.alloc (.cells #[.slice A n c] 22) := ⟨_, rfl⟩
  have hbV : Below W.heap.size W V := by rw [hV]; exact (Below.refl _ W).alloc (Nat.le_refl _) _
  have hrow : RowsAt V V.heap.size (some ⟨W.heap.size, 0, none⟩) [l] := by
    have h1 := rows_one (w := W) 22 hn hc hm (hb.below hB (Nat.le_refl _)) hB.size
    rw [hV]; exact h1.more (Nat.le_of_eq (by simp))
  have hlim : (tagF 3 [l]).length ≤ 1000000 := by
    unfold tagF
    have e1 := Lib.uvarint_length64 (x := l.length) (by omega)
    simp only [List.length_cons, List.flatMap_cons, List.flatMap_nil, List.length_append, List.length_nil]
    omega
  obtain ⟨SL, hSL⟩ : ∃ SL, SL = Lib.byteCells (blobDig l) := ⟨_, rfl⟩
  have Hb := Lib.hid (show Try.prog.built 36 [(0, .agg SL.toArray), (1, .int .i64 a), (2, .int .i64 n)] = some DL.toArray by rw [hDL]; exact ref_built (blobDig l) SL hSL (blobDig_length l) a n)
  have hdl : DL.length = 34 := by rw [hDL]; exact refC_length (blobDig_length l) _ _
  have hone : ∀ v ∈ DL, v.oneCell' = true := by rw [hDL]; exact refC_cell _ _ _
  have hi34 : (Try.prog.info? 36).map (·.size) = some DL.length := by rw [hdl]; exact refSize
  have HSL := Lib.hid hSL
  have HV := Lib.hid hV
  have HW := Lib.hid hW
  have HWs := Lib.hid hWs
  clear hV hW hSL hDL hWs
  go_enter Try.func15, Try.ntmps15
  go_wp2_with fail
  change Calls _ _ #[_, .slice (some ⟨w.heap.size + 1, 0, none⟩) 1 1] ((w.alloc (.cells refZ.toArray 36)).alloc (.cells #[.slice A n c] 22)) _
  rw [← HWs.out, ← HW.out, ← HV.out]
  refine Calls.mono (rtagged_atB 3 3 [l] SL (some ⟨W.heap.size, 0, none⟩) 1 1 V rfl HSL.out rfl (by omega) hrow hlim) ?_
  rintro e w5 ⟨rfl, hb5⟩
  have hR5 : Arr w5 w.heap.size 36 refZ := (hR.below hbV hR.lt).below hb5 (by have := hR.lt; have := hbV.size; omega)
  have h5 : Below w.heap.size w w5 := (hB.trans (hbV.mono hB.size)).trans (hb5.mono (Nat.le_trans hB.size hbV.size))
  have H0 : Hid (w5.heap[w.heap.size]? = some (.cells refZ.toArray 36 (0, 0))) := Lib.hid hR5
  have HI := Lib.hid (show (Try.prog.info? 36).map (·.size) = some DL.toArray.size by rw [List.size_toArray]; exact hi34)
  have HS := Lib.hid (show refZ.toArray.size = DL.toArray.size by rw [List.size_toArray, List.size_toArray, hdl]; rfl)
  have H1 := Lib.hid (show DL.toArray.all (·.oneCell') = true from all_oneCell_toArray hone)
  have hfin : Below w.heap.size w (w5.setRow w.heap.size DL.toArray) := h5.trans (((Only.refl (fun k => k = w.heap.size) w5).setRow (.inl rfl) DL.toArray).below h5.size (by rintro k rfl; omega))
  have hset : Arr (w5.setRow w.heap.size DL.toArray) w.heap.size 36 DL := hR5.setRow DL
  clear hR hB hbV hrow hlim hb5 hb hR5 h5
  go_wp2_with (first
    | (refine wpList_builtD rfl _ _ rfl _ rfl DL.toArray Hb.out ?_)
    | (refine wpList_store_row rfl _ _ _ rfl w.heap.size DL.toArray rfl rfl 36 refZ.toArray H0.out HI.out HS.out H1.out ?_))
  exact bodyPost_ret (v := .agg DL.toArray) (results_cell_row (by rfl) _ _ w.heap.size 36 DL.toArray (0, 0) _ (by rfl) hset Try.underlying36 rfl hi34) rfl ⟨rfl, hfin⟩


set_option maxHeartbeats 4000000 in
theorem sectors_neg (n : Int) (h : n < 0) (w : World) : Calls Try.prog 18 #[.int .i64 n] w fun e w' => e = .returned (.int .i64 0) ∧ w' = w := by
  have hd : decide (n < 0) = true := by simp; exact h
  go_enter Try.func18, Try.ntmps18
  go_wp2
  go_ret
  exact ⟨rfl, rfl⟩

set_option maxHeartbeats 4000000 in
theorem rsectors_neg (n : Int) (h : n < 0) (w : World) : Calls Try.prog 20 #[.int .i64 n] w fun e w' => e = .returned (.int .i64 0) ∧ w' = w := by
  have hd : decide (n < 0) = true := by simp; exact h
  go_enter Try.func20, Try.ntmps20
  go_wp2
  go_ret
  exact ⟨rfl, rfl⟩

set_option maxHeartbeats 4000000 in
theorem rsectors_any (n : Nat) (h : n ≤ 1000000) (w : World) : Calls Try.prog 20 #[.int .i64 (n : Nat)] w fun e w' => e = .returned (.int .i64 (secsF n : Nat)) ∧ w' = w := by
  have hd : decide ((n : Int) < 0) = false := by simp
  go_enter Try.func20, Try.ntmps20
  go_wp2
  go_loopw [0, 3] (fun x y wr => ∃ m i : Nat, x = .int .i64 (m : Nat) ∧ y = .int .i64 ((i + 1 : Nat) : Nat) ∧ m + 64 * i = n ∧ (i = 0 ∨ 0 < m) ∧ wr = w) (fun x _ _ => (intOf x).toNat)
  case atStart => exact ⟨n, 0, rfl, rfl, by omega, .inl rfl, rfl⟩
  case round =>
    obtain ⟨m, i, rfl, rfl, hmi, hor, rfl⟩ := hrel
    obtain ⟨j, hj⟩ : ∃ j, i + 1 = j := ⟨_, rfl⟩
    have hjB : j ≤ 1000000 := by omega
    by_cases hgt : 64 < m
    · have hd2 : decide ((64 : Int) < (m : Int)) = true := by simp; omega
      obtain ⟨m2, hm2⟩ : ∃ m2, m - 64 = m2 := ⟨_, rfl⟩
      have hmI : (m : Int) - 64 = (m2 : Int) := by omega
      have hmB : m2 ≤ 1000000 := by omega
      have hi2 : m2 + 64 * j = n ∧ 0 < m2 ∧ m2 < m := by omega
      have Hi2 := Lib.hid hi2
      rw [hj]
      clear hi2 hor hmi hm2 hj
      go_wp2
      go_roundw
      case rel => exact ⟨m2, j, rfl, rfl, Hi2.out.1, .inr Hi2.out.2.1, (by first | rfl | trivial)⟩
      case measure => have := Hi2.out.2.2; simp [intOf]; omega
    · have hd2 : decide ((64 : Int) < (m : Int)) = false := by simp; omega
      have hq := Lib.hid (show secsF n = j by unfold secsF; omega)
      rw [hj]
      clear hor hmi hj
      go_wp2
      go_ret
      exact ⟨by rw [hq.out]; rfl, (by first | rfl | trivial)⟩

end Go.Proofs.Ytongmiebojilfaa

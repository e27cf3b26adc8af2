/-
  A Ref of bytes; what sectors there are.
-/
import Derived.Test.YtongmiebojilfaaBlobMath
namespace Go.Proofs.Ytongmiebojilfaa
open Go.RowKit
set_option linter.unusedVariables false
set_option linter.unusedSimpArgs false

/-- A row of one row of bytes, new. -/
theorem rows_one {w : World} {B : Nat} {A : Option Addr} {l : List UInt8} {n c : Nat} (T : TypeId) (hn : l.length = n) (hc : n ≤ c) (hm : c ≤ maxLen) (h : Bs w B A l) (hB : B ≤ w.heap.size) :
    RowsAt (w.alloc (.cells #[.slice A n c] T)) (w.heap.size + 1) (some ⟨w.heap.size, 0, none⟩) [l] := fun _ => by
  subst hn
  have ha := Arr.new w T [.slice A l.length c]
  have hb : Below w.heap.size w (w.alloc (.cells #[.slice A l.length c] T)) := (Below.refl _ w).alloc (Nat.le_refl _) _
  refine ⟨w.heap.size, 0, rfl, by omega, fun i hi => ?_⟩
  have hi2 : i = 0 := by simp at hi; omega
  subst hi2
  exact ⟨A, c, ha.cell 0, hc, hm, (h.below hb hB).more (by omega)⟩

theorem tagged_atB (use : UInt8) (u : Int) (rs : List (List UInt8)) (SL : List Value) (A : Option Addr) (n c : Nat) (w : World) (hu : ((use.toNat : Nat) : Int) = u) (hS : SL = Lib.byteCells (shaF (tagF use rs))) (hn : rs.length = n) (hn2 : n ≤ 1000000) (hr : RowsAt w w.heap.size A rs) (hlim : (tagF use rs).length ≤ 1000000) :
    Calls Try.prog 36 #[.int .u8 u, .slice A n c] w fun e w' => e = .returned (.agg SL.toArray) ∧ Below w.heap.size w w' := by
  subst hS hu; exact tagged_any use rs A n c w hn hn2 hr hlim

set_option maxHeartbeats 4000000 in
theorem len_any (k gs n : Nat) (w : World) (h : w.cell? ⟨k, 0, none⟩ = some (.slice (some ⟨gs, 0, none⟩) n n)) (hn : n ≤ 65536) :
    Calls Try.prog 47 #[.pointer (some ⟨k, 0, none⟩)] w fun e w' => e = .returned (.int .i64 (n : Nat)) ∧ w' = w := by
  go_enter Try.func47, Try.ntmps47
  go_wp2
  go_ret
  exact ⟨rfl, rfl⟩

set_option maxHeartbeats 8000000 in
theorem there_yes (k gs n a m : Nat) (w : World) (h : w.cell? ⟨k, 0, none⟩ = some (.slice (some ⟨gs, 0, none⟩) n n)) (hn : n ≤ 65536) (hm : m ≤ 1000000) (ha : a ≤ 9223372036854775807) (hf : a + secsF m ≤ n) :
    Calls Try.prog 34 #[.pointer (some ⟨k, 0, none⟩), .int .i64 (a : Nat), .int .i64 (m : Nat)] w fun e w' => e = .returned (.bool true) ∧ w' = w := by
  have h1 : decide ((0 : Int) ≤ (a : Int)) = true := by simp
  obtain ⟨s, hs⟩ : ∃ s, secsF m = s := ⟨_, rfl⟩
  have hsB : s ≤ n := by omega
  have h2 : decide ((s : Int) ≤ (n : Int) - (a : Int)) = true := by simp; omega
  have Hs := Lib.hid hs
  have haB : a ≤ 65536 := by omega
  clear hs hf ha
  go_enter Try.func34, Try.ntmps34
  go_wp2_with fail
  · go_at_call 18
    refine Calls.mono (sectors_any m hm w) ?_
    rintro e w1 ⟨rfl, rfl⟩
    rw [Hs.out]
    go_wp2_with fail
    go_at_call 47
    refine Calls.mono (len_any k gs n _ h hn) ?_
    rintro e w2 ⟨rfl, rfl⟩
    go_wp2_with fail
    go_ret
    exact ⟨rfl, rfl⟩

set_option maxHeartbeats 8000000 in
set_option maxRecDepth 100000 in
theorem of_any (a : Int) (l : List UInt8) (DL : List Value) (A : Option Addr) (n c : Nat) (w : World) (hn : l.length = n) (hn2 : n ≤ 900000) (hc : n ≤ c) (hm : c ≤ maxLen) (hb : Bs w w.heap.size A l) (ha0 : -9223372036854775808 ≤ a) (ha1 : a ≤ 9223372036854775807) (hDL : DL = refC (blobDig l) a n) :
    Calls Try.prog 16 #[.int .i64 a, .slice A n c] w fun e w' => e = .returned (.agg DL.toArray) ∧ Below w.heap.size w w' := by
  obtain ⟨W, hW⟩ : ∃ W, W = w.alloc (.cells refZ.toArray 36) := ⟨_, rfl⟩
  have hR : Arr W w.heap.size 36 refZ := by rw [hW]; exact Arr.new w _ _
  have hWs : W.heap.size = w.heap.size + 1 := by rw [hW]; simp
  have hB : Below w.heap.size w W := by rw [hW]; exact (Below.refl _ w).alloc (Nat.le_refl _) _
  obtain ⟨V, hV⟩ : ∃ V, V = W.alloc (.cells #[.slice A n c] 22) := ⟨_, rfl⟩
  have hbV : Below W.heap.size W V := by rw [hV]; exact (Below.refl _ W).alloc (Nat.le_refl _) _
  have hrow : RowsAt V V.heap.size (some ⟨W.heap.size, 0, none⟩) [l] := by
    have h1 := rows_one (w := W) 22 hn hc hm (hb.below hB (Nat.le_refl _)) hB.size
    rw [hV]; exact h1.more (Nat.le_of_eq (by simp))
  have hlim : (tagF 3 [l]).length ≤ 1000000 := by
    unfold tagF
    have e1 := Lib.uvarint_length64 (x := l.length) (by omega)
    simp only [List.length_cons, List.flatMap_cons, List.flatMap_nil, List.length_append, List.length_nil]
    omega
  obtain ⟨SL, hSL⟩ : ∃ SL, SL = Lib.byteCells (blobDig l) := ⟨_, rfl⟩
  have Hb := Lib.hid (show Try.prog.built 36 [(0, .agg SL.toArray), (1, .int .i64 a), (2, .int .i64 n)] = some DL.toArray by rw [hDL]; exact ref_built (blobDig l) SL hSL (blobDig_length l) a n)
  have hdl : DL.length = 34 := by rw [hDL]; exact refC_length (blobDig_length l) _ _
  have hone : ∀ v ∈ DL, v.oneCell' = true := by rw [hDL]; exact refC_cell _ _ _
  have hi34 : (Try.prog.info? 36).map (·.size) = some DL.length := by rw [hdl]; exact refSize
  have HSL := Lib.hid hSL
  have HV := Lib.hid hV
  have HW := Lib.hid hW
  have HWs := Lib.hid hWs
  clear hV hW hSL hDL hWs
  go_enter Try.func16, Try.ntmps16
  go_wp2_with fail
  change Calls _ _ #[_, .slice (some ⟨w.heap.size + 1, 0, none⟩) 1 1] ((w.alloc (.cells refZ.toArray 36)).alloc (.cells #[.slice A n c] 22)) _
  rw [← HWs.out, ← HW.out, ← HV.out]
  refine Calls.mono (tagged_atB 3 3 [l] SL (some ⟨W.heap.size, 0, none⟩) 1 1 V rfl HSL.out rfl (by omega) hrow hlim) ?_
  rintro e w5 ⟨rfl, hb5⟩
  have hR5 : Arr w5 w.heap.size 36 refZ := (hR.below hbV hR.lt).below hb5 (by have := hR.lt; have := hbV.size; omega)
  have h5 : Below w.heap.size w w5 := (hB.trans (hbV.mono hB.size)).trans (hb5.mono (Nat.le_trans hB.size hbV.size))
  have H0 : Hid (w5.heap[w.heap.size]? = some (.cells refZ.toArray 36 (0, 0))) := Lib.hid hR5
  have HI := Lib.hid (show (Try.prog.info? 36).map (·.size) = some DL.toArray.size by rw [List.size_toArray]; exact hi34)
  have HS := Lib.hid (show refZ.toArray.size = DL.toArray.size by rw [List.size_toArray, List.size_toArray, hdl]; rfl)
  have H1 := Lib.hid (show DL.toArray.all (·.oneCell') = true from all_oneCell_toArray hone)
  have hfin : Below w.heap.size w (w5.setRow w.heap.size DL.toArray) := h5.trans (((Only.refl (fun k => k = w.heap.size) w5).setRow (.inl rfl) DL.toArray).below h5.size (by rintro k rfl; omega))
  have hset : Arr (w5.setRow w.heap.size DL.toArray) w.heap.size 36 DL := hR5.setRow DL
  clear hR hB hbV hrow hlim hb5 hb hR5 h5
  go_wp2_with (first
    | (refine wpList_builtD rfl _ _ rfl _ rfl DL.toArray Hb.out ?_)
    | (refine wpList_store_row rfl _ _ _ rfl w.heap.size DL.toArray rfl rfl 36 refZ.toArray H0.out HI.out HS.out H1.out ?_))
  exact bodyPost_ret (v := .agg DL.toArray) (results_cell_row (by rfl) _ _ w.heap.size 36 DL.toArray (0, 0) _ (by rfl) hset Try.underlying36 rfl hi34) rfl ⟨rfl, hfin⟩

set_option maxHeartbeats 8000000 in
theorem there_no (k gs n m : Nat) (a : Int) (w : World) (h : w.cell? ⟨k, 0, none⟩ = some (.slice (some ⟨gs, 0, none⟩) n n)) (hn : n ≤ 65536) (hm : m ≤ 1000000) (ha : a ≤ 9223372036854775807) (hf : a < 0 ∨ (n : Int) < a + secsF m) :
    Calls Try.prog 34 #[.pointer (some ⟨k, 0, none⟩), .int .i64 a, .int .i64 (m : Nat)] w fun e w' => e = .returned (.bool false) ∧ w' = w := by
  obtain ⟨s, hs⟩ : ∃ s, secsF m = s := ⟨_, rfl⟩
  have hd : decide ((0 : Int) ≤ a) = false ∨ (decide ((0 : Int) ≤ a) = true ∧ 0 ≤ a ∧ decide ((s : Int) ≤ (n : Int) - a) = false) := by
    simp only [decide_eq_true_eq, decide_eq_false_iff_not]
    rw [hs] at hf
    omega
  have Hs := Lib.hid hs
  clear hs hf
  rcases hd with h1 | ⟨h1, h0, h2⟩
  · go_enter Try.func34, Try.ntmps34
    go_wp2
    go_ret
    exact ⟨rfl, rfl⟩
  · go_enter Try.func34, Try.ntmps34
    go_wp2_with fail
    go_at_call 18
    refine Calls.mono (sectors_any m hm w) ?_
    rintro e w1 ⟨rfl, rfl⟩
    rw [Hs.out]
    go_wp2_with fail
    go_at_call 47
    refine Calls.mono (len_any k gs n _ h hn) ?_
    rintro e w2 ⟨rfl, rfl⟩
    go_wp2_with fail
    go_ret
    exact ⟨rfl, rfl⟩

end Go.Proofs.Ytongmiebojilfaa

/-
  Refs put behind bytes; a Ref of bytes.
-/
import Derived.Test.YtlfddijmanlneaaComRef
import Derived.Test.YtlfddijmanlneaaConcat
import Derived.Test.YtlfddijmanlneaaRefNum
import Derived.Test.YtlfddijmanlneaaFrom
import Derived.Test.YtlfddijmanlneaaGen
namespace Go.Proofs.Ytlfddijmanlneaa
open Go.RowKit
set_option linter.unusedVariables false
set_option linter.unusedSimpArgs false

/-- A row of one row of bytes, new. -/
theorem rows_one {w : World} {B : Nat} {A : Option Addr} {l : List UInt8} {n c : Nat} (T : TypeId) (hn : l.length = n) (hc : n ≤ c) (hm : c ≤ maxLen) (h : Bs w B A l) (hB : B ≤ w.heap.size) :
    RowsAt (w.alloc (.cells #[.slice A n c] T)) (w.heap.size + 1) (some ⟨w.heap.size, 0, none⟩) [l] := fun _ => by
  subst hn
  have ha := Arr.new w T [.slice A l.length c]
  have hb : Below w.heap.size w (w.alloc (.cells #[.slice A l.length c] T)) := (Below.refl _ w).alloc (Nat.le_refl _) _
  refine ⟨w.heap.size, 0, rfl, by omega, fun i hi => ?_⟩
  have hi2 : i = 0 := by simp at hi; omega
  subst hi2
  exact ⟨A, c, ha.cell 0, hc, hm, (h.below hb hB).more (by omega)⟩

theorem tagged_atB (use : UInt8) (u : Int) (rs : List (List UInt8)) (SL : List Value) (A : Option Addr) (n c : Nat) (w : World) (hu : ((use.toNat : Nat) : Int) = u) (hS : SL = Lib.byteCells (shaF (tagF use rs))) (hn : rs.length = n) (hn2 : n ≤ 1000000) (hr : RowsAt w w.heap.size A rs) (hlim : (tagF use rs).length ≤ 1000000) :
    Calls Try.prog 69 #[.int .u8 u, .slice A n c] w fun e w' => e = .returned (.agg SL.toArray) ∧ Below w.heap.size w w' := by
  subst hS hu; exact tagged_any use rs A n c w hn hn2 hr hlim

set_option maxHeartbeats 8000000 in
set_option maxRecDepth 100000 in
theorem of_any (a : Int) (l : List UInt8) (DL : List Value) (A : Option Addr) (n c : Nat) (w : World) (hn : l.length = n) (hn2 : n ≤ 900000) (hc : n ≤ c) (hm : c ≤ maxLen) (hb : Bs w w.heap.size A l) (ha0 : -9223372036854775808 ≤ a) (ha1 : a ≤ 9223372036854775807) (hDL : DL = refC (blobDig l) a n) :
    Calls Try.prog 47 #[.int .i64 a, .slice A n c] w fun e w' => e = .returned (.agg DL.toArray) ∧ Below w.heap.size w w' := by
  obtain ⟨W, hW⟩ : ∃ W, W = w.alloc (.cells refZ.toArray 26) := ⟨_, rfl⟩
  have hR : Arr W w.heap.size 26 refZ := by rw [hW]; exact Arr.new w _ _
  have hWs : W.heap.size = w.heap.size + 1 := by rw [hW]; simp
  have hB : Below w.heap.size w W := by rw [hW]; exact (Below.refl _ w).alloc (Nat.le_refl _) _
  obtain ⟨V, hV⟩ : ∃ V, V = W.alloc (.cells #[.slice A n c] 33) := ⟨_, rfl⟩
  have hbV : Below W.heap.size W V := by rw [hV]; exact (Below.refl _ W).alloc (Nat.le_refl _) _
  have hrow : RowsAt V V.heap.size (some ⟨W.heap.size, 0, none⟩) [l] := by
    have h1 := rows_one (w := W) 33 hn hc hm (hb.below hB (Nat.le_refl _)) hB.size
    rw [hV]; exact h1.more (Nat.le_of_eq (by simp))
  have hlim : (tagF 3 [l]).length ≤ 1000000 := by
    unfold tagF
    have e1 := Lib.uvarint_length64 (x := l.length) (by omega)
    simp only [List.length_cons, List.flatMap_cons, List.flatMap_nil, List.length_append, List.length_nil]
    omega
  obtain ⟨SL, hSL⟩ : ∃ SL, SL = Lib.byteCells (blobDig l) := ⟨_, rfl⟩
  have Hb := Lib.hid (show Try.prog.built 26 [(0, .agg SL.toArray), (1, .int .i64 a), (2, .int .i64 n)] = some DL.toArray by rw [hDL]; exact ref_built (blobDig l) SL hSL (blobDig_length l) a n)
  have hdl : DL.length = 34 := by rw [hDL]; exact refC_length (blobDig_length l) _ _
  have hone : ∀ v ∈ DL, v.oneCell' = true := by rw [hDL]; exact refC_cell _ _ _
  have hi34 : (Try.prog.info? 26).map (·.size) = some DL.length := by rw [hdl]; exact refSize
  have HSL := Lib.hid hSL
  have HV := Lib.hid hV
  have HW := Lib.hid hW
  have HWs := Lib.hid hWs
  clear hV hW hSL hDL hWs
  go_enter Try.func47, Try.ntmps47
  go_wp2_with fail
  change Calls _ _ #[_, .slice (some ⟨w.heap.size + 1, 0, none⟩) 1 1] ((w.alloc (.cells refZ.toArray 26)).alloc (.cells #[.slice A n c] 33)) _
  rw [← HWs.out, ← HW.out, ← HV.out]
  refine Calls.mono (tagged_atB 3 3 [l] SL (some ⟨W.heap.size, 0, none⟩) 1 1 V rfl HSL.out rfl (by omega) hrow hlim) ?_
  rintro e w5 ⟨rfl, hb5⟩
  have hR5 : Arr w5 w.heap.size 26 refZ := (hR.below hbV hR.lt).below hb5 (by have := hR.lt; have := hbV.size; omega)
  have h5 : Below w.heap.size w w5 := (hB.trans (hbV.mono hB.size)).trans (hb5.mono (Nat.le_trans hB.size hbV.size))
  have H0 : Hid (w5.heap[w.heap.size]? = some (.cells refZ.toArray 26 (0, 0))) := Lib.hid hR5
  have HI := Lib.hid (show (Try.prog.info? 26).map (·.size) = some DL.toArray.size by rw [List.size_toArray]; exact hi34)
  have HS := Lib.hid (show refZ.toArray.size = DL.toArray.size by rw [List.size_toArray, List.size_toArray, hdl]; rfl)
  have H1 := Lib.hid (show DL.toArray.all (·.oneCell') = true from all_oneCell_toArray hone)
  have hfin : Below w.heap.size w (w5.setRow w.heap.size DL.toArray) := h5.trans (((Only.refl (fun k => k = w.heap.size) w5).setRow (.inl rfl) DL.toArray).below h5.size (by rintro k rfl; omega))
  have hset : Arr (w5.setRow w.heap.size DL.toArray) w.heap.size 26 DL := hR5.setRow DL
  clear hR hB hbV hrow hlim hb5 hb hR5 h5
  go_wp2_with (first
    | (refine wpList_builtD rfl _ _ rfl _ rfl DL.toArray Hb.out ?_)
    | (refine wpList_store_row rfl _ _ _ rfl w.heap.size DL.toArray rfl rfl 26 refZ.toArray H0.out HI.out HS.out H1.out ?_))
  exact bodyPost_ret (v := .agg DL.toArray) (results_cell_row (by rfl) _ _ w.heap.size 26 DL.toArray (0, 0) _ (by rfl) hset Try.underlying26 rfl hi34) rfl ⟨rfl, hfin⟩

/-- A whole number, taken modulo 2^64. -/
def uF (a : Int) : Nat := (IntKind.u64.wrap a).toNat
theorem uF_wrap (a : Int) : IntKind.u64.wrap a = ((uF a : Nat) : Int) ∧ uF a < 18446744073709551616 := by
  unfold uF
  have h : IntKind.u64.wrap a = a % 18446744073709551616 := by rw [IntKind.wrap_u64]
  omega
theorem uF_nat {n : Nat} (h : n < 18446744073709551616) : uF (n : Int) = n := by
  unfold uF
  rw [IntWalk.u64_in _ (by omega)]
  simp
/-- A Ref as bytes, behind others. -/
def refB (out d : List UInt8) (a z : Int) : List UInt8 := out ++ d ++ Lib.uvarint (uF a) ++ Lib.uvarint (uF z)

theorem rows_two {w : World} {B : Nat} {A A' : Option Addr} {l l' : List UInt8} {n c n' c' : Nat} (T : TypeId) (hn : l.length = n) (hc : n ≤ c) (hm : c ≤ maxLen) (h : Bs w B A l) (hn' : l'.length = n') (hc' : n' ≤ c') (hm' : c' ≤ maxLen) (h' : Bs w B A' l') (hB : B ≤ w.heap.size) :
    RowsAt (w.alloc (.cells #[.slice A n c, .slice A' n' c'] T)) (w.heap.size + 1) (some ⟨w.heap.size, 0, none⟩) [l, l'] := fun _ => by
  subst hn hn'
  have ha := Arr.new w T [.slice A l.length c, .slice A' l'.length c']
  have hb : Below w.heap.size w (w.alloc (.cells #[.slice A l.length c, .slice A' l'.length c'] T)) := (Below.refl _ w).alloc (Nat.le_refl _) _
  refine ⟨w.heap.size, 0, rfl, by omega, fun i hi => ?_⟩
  have hi2 : i = 0 ∨ i = 1 := by simp at hi; omega
  rcases hi2 with rfl | rfl
  · exact ⟨A, c, ha.cell 0, hc, hm, (h.below hb hB).more (by omega)⟩
  · exact ⟨A', c', ha.cell 1, hc', hm', (h'.below hb hB).more (by omega)⟩

set_option maxHeartbeats 8000000 in
set_option maxRecDepth 100000 in
theorem bput_any (out d : List UInt8) (hd : d.length = 32) (a z : Int) (DL : List Value) (hDL : DL = refC d a z) (A : Option Addr) (n c : Nat) (w : World) (hn : out.length = n) (hn2 : n ≤ 100000) (hnc : n ≤ c) (hcm : c ≤ maxLen) (hb : Bs w w.heap.size A out) :
    Calls Try.prog 25 #[.slice A n c, .agg DL.toArray] w fun e w' => ∃ v, e = .returned v ∧ Owns w' w.heap.size 5 v (refB out d a z) ∧ Below w.heap.size w w' := by
  obtain ⟨W1, hW1⟩ : ∃ x, x = w.alloc (.cells DL.toArray 26) := ⟨_, rfl⟩
  have hR1 : Arr W1 w.heap.size 26 DL := by rw [hW1]; exact Arr.new w _ _
  have hW1s : W1.heap.size = w.heap.size + 1 := by rw [hW1]; simp
  have hb1 : Below w.heap.size w W1 := by rw [hW1]; exact (Below.refl _ w).alloc (Nat.le_refl _) _
  have hd1 : Bs W1 W1.heap.size (some ⟨w.heap.size, 0, none⟩) d := fun hp => ⟨w.heap.size, 0, rfl, hR1.lt, fun j hj => by
    rw [Nat.zero_add, hR1.cell, hDL]
    unfold refC
    rw [List.getElem?_append_left (by rw [Lib.byteCells_length]; exact hj)]
    exact byteCells_get hj⟩
  obtain ⟨W2, hW2⟩ : ∃ x, x = W1.alloc (.cells #[.slice A n c, .slice (some ⟨w.heap.size, 0, none⟩) 32 32] 33) := ⟨_, rfl⟩
  have hrow : RowsAt W2 W2.heap.size (some ⟨W1.heap.size, 0, none⟩) [out, d] := by
    rw [hW2]
    exact (rows_two (w := W1) 33 hn hnc hcm ((hb.below hb1 (Nat.le_refl _)).more hb1.size) hd (Nat.le_refl _) (by unfold maxLen; omega) hd1 (Nat.le_refl _)).more (Nat.le_of_eq (by simp))
  have hb2 : Below W1.heap.size W1 W2 := by rw [hW2]; exact (Below.refl _ W1).alloc (Nat.le_refl _) _
  have hfl : ([out, d] : List (List UInt8)).flatten = out ++ d := by simp
  obtain ⟨x, hx⟩ : ∃ x, uF a = x := ⟨_, rfl⟩
  obtain ⟨y, hy⟩ : ∃ y, uF z = y := ⟨_, rfl⟩
  have hxw : IntKind.u64.wrap a = (x : Int) := by rw [← hx]; exact (uF_wrap a).1
  have hyw : IntKind.u64.wrap z = (y : Int) := by rw [← hy]; exact (uF_wrap z).1
  have hxl : x < 18446744073709551616 := by rw [← hx]; exact (uF_wrap a).2
  have hyl : y < 18446744073709551616 := by rw [← hy]; exact (uF_wrap z).2
  have hR2 : Arr W2 w.heap.size 26 DL := hR1.below hb2 hR1.lt
  have h32 : DL[32]? = some (.int .i64 a) := by rw [hDL]; exact (refC_at hd a z).1
  have h33 : DL[33]? = some (.int .i64 z) := by rw [hDL]; exact (refC_at hd a z).2
  have HW1 := Lib.hid hW1
  have HW2 := Lib.hid hW2
  have Hx := Lib.hid hx
  have Hy := Lib.hid hy
  rw [hW1s] at hrow hb2
  have hwB : w.heap.size ≤ w.heap.size + 1 := Nat.le_succ _
  have hz2 := hb2.size
  have HDL := Lib.hid hDL
  clear hW1 hW2 hd1 hx hy hR1 hDL
  go_enter Try.func25, Try.ntmps25
  go_upto_region 1 with fail
  change Code.wp _ _ _ _ (w.alloc (.cells DL.toArray 26))
  rw [← HW1.out]
  clear HW1
  go_wp2_with fail
  go_at_call 62
  rw [hW1s] at *
  change Calls _ _ #[.slice (some ⟨w.heap.size + 1, 0, none⟩) 2 2] (W1.alloc (.cells #[.slice A n c, .slice (some ⟨w.heap.size, 0, none⟩) 32 32] 33)) _
  rw [← HW2.out]
  refine Calls.mono (concat_any [out, d] _ 2 2 W2 rfl (by omega) hrow (by rw [hfl, List.length_append, hn, hd]; omega)) ?_
  rintro e w3 ⟨v3, rfl, hown3, hb3⟩
  rw [hfl] at hown3
  have hR3 : Arr w3 w.heap.size 26 DL := hR2.below hb3 hR2.lt
  have hc3 : w3.cell? ⟨w.heap.size, 32, none⟩ = some (.int .i64 a) := by rw [hR3.cell]; exact h32
  obtain ⟨B, hB⟩ : ∃ B, B = W2.heap.size := ⟨_, rfl⟩
  have hBw2 : Below w.heap.size w W2 := hb1.trans (hb2.mono hwB)
  have hBw3 : Below w.heap.size w w3 := hBw2.trans (hb3.mono hBw2.size)
  have hB3 : B ≤ w3.heap.size := by rw [hB]; exact hb3.size
  have hwBB : w.heap.size < B := by rw [hB]; exact hR2.lt
  rw [← hB] at hown3
  have hl3 : (out ++ d).length ≤ 200000 := by rw [List.length_append, hn, hd]; omega
  clear hb2 hb3 hrow hW1s hR2 hBw2 hB hz2 HW2
  dsimp only
  go_wp2_with fail
  go_at_call 24
  refine Calls.mono (number_any B x hxl v3 (out ++ d) w3 hown3 hB3 (by omega)) ?_
  rintro e w4 ⟨v4, rfl, hown4, hgr4⟩
  have hb4 : Below B w3 w4 := hgr4.below hB3 (fun q hq => (hown3.lt q hq).1)
  have hR4 : Arr w4 w.heap.size 26 DL := hR3.below hb4 hwBB
  have hc4 : w4.cell? ⟨w.heap.size, 33, none⟩ = some (.int .i64 z) := by rw [hR4.cell]; exact h33
  have hBw4 : Below w.heap.size w w4 := hBw3.trans (hb4.mono (Nat.le_of_lt hwBB))
  have hB4 : B ≤ w4.heap.size := Nat.le_trans hB3 hb4.size
  have hl4 : (out ++ d ++ Lib.uvarint x).length ≤ 200010 := by
    have := Lib.uvarint_length64 hxl
    rw [List.length_append]; omega
  clear hown3 hgr4 hb4 hR3 hc3 hBw3 hB3
  dsimp only
  go_wp2_with fail
  go_at_call 24
  refine Calls.mono (number_any B y hyl v4 (out ++ d ++ Lib.uvarint x) w4 hown4 hB4 (by omega)) ?_
  rintro e w5 ⟨v5, rfl, hown5, hgr5⟩
  have hb5 : Below B w4 w5 := hgr5.below hB4 (fun q hq => (hown4.lt q hq).1)
  have hBw5 : Below w.heap.size w w5 := hBw4.trans (hb5.mono (Nat.le_of_lt hwBB))
  go_wp2_with fail
  go_ret
  exact ⟨v5, rfl, by unfold refB; rw [Hx.out, Hy.out]; exact hown5.base (Nat.le_of_lt hwBB), hBw5⟩

set_option maxHeartbeats 8000000 in
set_option maxRecDepth 100000 in
theorem rput_any (B : Nat) (sv : Value) (out d : List UInt8) (hd : d.length = 32) (a z : Int) (DL : List Value) (hDL : DL = refC d a z) (w : World) (hown : Owns w B 5 sv out) (hB : B ≤ w.heap.size) (hn2 : out.length ≤ 100000) :
    Calls Try.prog 33 #[sv, .agg DL.toArray] w fun e w' => ∃ v, e = .returned v ∧ Owns w' B 5 v (refB out d a z) ∧ Below B w w' := by
  obtain ⟨i0, hi, hz0, hz1, hz2⟩ := info_parts byteInfo
  obtain ⟨W1, hW1⟩ : ∃ x, x = w.alloc (.cells DL.toArray 26) := ⟨_, rfl⟩
  have hR1 : Arr W1 w.heap.size 26 DL := by rw [hW1]; exact Arr.new w _ _
  have hb1 : Below w.heap.size w W1 := by rw [hW1]; exact (Below.refl _ w).alloc (Nat.le_refl _) _
  have hown1 : Owns W1 B 5 sv (out ++ d.take 0) := by
    have := hown.below hb1 (fun k hk => (hown.lt k hk).2)
    simpa using this
  have hsvk : ∀ k, sv.ownBlock = some k → k ≠ w.heap.size := fun k hk => by have := (hown.lt k hk).2; omega
  have h32 : DL[32]? = some (.int .i64 a) := by rw [hDL]; exact (refC_at hd a z).1
  have h33 : DL[33]? = some (.int .i64 z) := by rw [hDL]; exact (refC_at hd a z).2
  have hdi : ∀ i, i < 32 → DL[i]? = some (.int .u8 ((d.getD i 0).toNat : Nat)) := fun i hi => by
    rw [hDL]
    unfold refC
    rw [List.getElem?_append_left (by rw [Lib.byteCells_length]; omega)]
    exact byteCells_get (by omega)
  obtain ⟨x, hx⟩ : ∃ x, uF a = x := ⟨_, rfl⟩
  obtain ⟨y, hy⟩ : ∃ y, uF z = y := ⟨_, rfl⟩
  have hxw : IntKind.u64.wrap a = (x : Int) := by rw [← hx]; exact (uF_wrap a).1
  have hyw : IntKind.u64.wrap z = (y : Int) := by rw [← hy]; exact (uF_wrap z).1
  have hxl : x < 18446744073709551616 := by rw [← hx]; exact (uF_wrap a).2
  have hyl : y < 18446744073709551616 := by rw [← hy]; exact (uF_wrap z).2
  have HW1 := Lib.hid hW1
  have Hx := Lib.hid hx
  have Hy := Lib.hid hy
  have Hdi := Lib.hid hdi
  have hB1 : B ≤ W1.heap.size := Nat.le_trans hB hb1.size
  have hbB1 : Below B w W1 := hb1.mono hB
  clear hW1 hx hy hDL hdi hown hb1
  go_enter Try.func33, Try.ntmps33
  go_upto_region 1 with fail
  change Code.wp _ _ _ _ (w.alloc (.cells DL.toArray 26))
  rw [← HW1.out]
  clear HW1
  go_wp2_with fail
  go_loopw [0, 5] (fun v i wr => ∃ k : Nat, k ≤ 32 ∧ i = .int .i64 k ∧ Owns wr B 5 v (out ++ d.take k) ∧ Arr wr w.heap.size 26 DL ∧ (∀ q, v.ownBlock = some q → q ≠ w.heap.size) ∧ B ≤ wr.heap.size ∧ Below B w wr) (fun _ i _ => 32 - (intOf i).toNat)
  case atStart => exact ⟨0, by omega, rfl, hown1, hR1, hsvk, hB1, hbB1⟩
  case round =>
    clear hown1 hsvk hR1 hB1 hbB1
    obtain ⟨k, hk, rfl, hown, hR, hvk, hBr, hbB⟩ := hrel
    have hl : (out ++ d.take k).length ≤ 100032 := by rw [List.length_append, List.length_take]; omega
    by_cases hlt : k < 32
    · have hc := Hdi.out k hlt
      have htk : d.take (k + 1) = d.take k ++ [d.getD k 0] := by
        rw [List.take_succ_eq_append_getElem (by omega)]
        simp [List.getD, show k < d.length by omega]
      obtain ⟨b, hb⟩ : ∃ b, d.getD k 0 = b := ⟨_, rfl⟩
      rw [hb] at hc htk
      have hbl : b.toNat < 256 := UInt8.toNat_lt _
      obtain ⟨q, hq⟩ : ∃ q, b.toNat = q := ⟨_, rfl⟩
      rw [hq] at hc hbl
      have hce : wr.cell? ⟨w.heap.size, k, none⟩ = some (.int .u8 (q : Nat)) := by rw [hR.cell]; exact hc
      have hd1 : decide ((k : Int) < (32 : Int)) = true := by simp; omega
      have hkI : (k : Int) < (32 : Int) := by omega
      obtain ⟨Y, hY⟩ : ∃ Y, out ++ d.take k = Y := ⟨_, rfl⟩
      have hY2 : out ++ d.take (k + 1) = Y ++ [b] := by rw [htk, ← List.append_assoc, hY]
      rw [hY] at hown hl
      have Hq := Lib.hid hq
      have HY2 := Lib.hid hY2
      clear hY hY2 htk hq hb hc
      go_wp2_with (at_builtin; refine wpList_append_own_at _ rfl _ _ 33 rfl B 5 i0 (.int .u8 0) 1 1 Try.underlying33 hi hz0 hz1 hz2 rfl (by decide) _ _ _ rfl (World.ownsRow.alloc hown _) ⟨wr.heap.size, 0, none⟩ 1 1 [Value.int .u8 (q : Nat)] rfl rfl ?c1 ?c2 ?c3 ?c4 ?c5 ?_)
      case c1 =>
        intro j u hj
        match j, hj with
        | 0, hj => simp at hj; subst hj; simp [Addr.add]
      case c2 => intro u hu; simp at hu; subst hu; rfl
      case c3 => unfold maxLen; omega
      case c4 => omega
      case c5 => simp; omega
      intro v' w1 hown' hgrow _ hplace
      have hRa : Arr (wr.alloc (.cells #[.int .u8 (q : Nat)] 5)) w.heap.size 26 DL := hR.alloc _
      have hRn : Arr w1 w.heap.size 26 DL := (hgrow.block w.heap.size hRa.lt (fun e => hvk _ e.symm rfl)).trans hRa
      have hvn : ∀ g, v'.ownBlock = some g → g ≠ w.heap.size := fun g hg => by
        rcases hplace with e | e
        · exact hvk g (by rw [← e]; exact hg)
        · rw [hg] at e
          injection e with e
          have h1 := hR.lt
          have h2 : (wr.alloc (.cells #[.int .u8 (q : Nat)] 5)).heap.size = wr.heap.size + 1 := by simp
          omega
      have hsz := hgrow.size
      have hbn : Below B w w1 := (hbB.alloc hBr _).grown hgrow (by simp; omega) (fun k hk => (hown.lt k hk).1)
      have hon : Owns w1 B 5 v' (out ++ d.take (k + 1)) := by
        rw [HY2.out, show b = q.toUInt8 from by rw [← Hq.out]; simp]
        exact Owns.snoc hbl rfl rfl hown'
      have hBn : B ≤ w1.heap.size := by simp at hsz; omega
      clear hown hown' hgrow hplace hbB hRa hsz
      go_wp2
      go_roundw
      case rel => exact ⟨k + 1, by omega, by go_num, hon, hRn, hvn, hBn, hbn⟩
      case measure => simp [intOf]; omega
    · obtain rfl : k = 32 := by omega
      have hd1 : decide (((32 : Nat) : Int) < (32 : Int)) = false := by simp
      have htk : d.take 32 = d := by rw [← hd, List.take_length]
      rw [htk] at hown hl
      obtain ⟨Y, hY⟩ : ∃ Y, out ++ d = Y := ⟨_, rfl⟩
      rw [hY] at hown hl
      obtain ⟨A6, c6, rfl, h61, h62, h63⟩ := hown.slice
      obtain ⟨m, hm⟩ : ∃ m, Y.length = m := ⟨_, rfl⟩
      rw [hm] at hown hl hvk h61 ⊢
      have hRd : Arr wr.drew w.heap.size 26 DL := hR.drewN 1
      have hownd : Owns wr.drew B 5 (.slice A6 m c6) Y := hown.drewN 1
      have hBd : B ≤ wr.drew.heap.size := hBr
      have hbd : Below B w wr.drew := Below.dN hbB 1
      have HY := Lib.hid hY
      have Hm := Lib.hid hm
      clear hY hm htk hown
      go_wp2_with fail
      refine wp_region_held_drew (S := fun w' => w'.rangeAt w.heap.size 0 DL) (by kernel_rfl) hRd.range (fun hHeld => ?_)
      refine anyH_take (i := 0) (v := .slice A6 m c6) (some 17) rfl rfl (by kernel_rfl) (by kernel_rfl) (by kernel_rfl) (fun _ _ _ h => h) (Or.inl ⟨by rfl, fun _ _ => by rfl⟩) (by assumption) ?_
      simp only [Act.put, List.setIfInBounds_toArray, List.set_cons_zero, List.set_cons_succ]
      refine anyH_take (i := 1) (v := .pointer (some ⟨w.heap.size, 32, none⟩)) (some 18) rfl rfl (by kernel_rfl) (by kernel_rfl) (by kernel_rfl) (fun _ _ _ h => h) (Or.inl ⟨by rfl, fun _ _ => by go_simp⟩) (by assumption) ?_
      simp only [Act.put, List.setIfInBounds_toArray, List.set_cons_zero, List.set_cons_succ]
      refine anyH_take (i := 2) (v := .int .i64 a) (some 19) rfl rfl (by kernel_rfl) (by kernel_rfl) (by kernel_rfl) (fun _ _ _ h => h) (Or.inl ⟨by rfl, fun w' h' => by
        have h2 : w'.cell? ⟨w.heap.size, 32, none⟩ = some (.int .i64 a) := h' 32 _ h32
        go_simp⟩) (by assumption) ?_
      simp only [Act.put, List.setIfInBounds_toArray, List.set_cons_zero, List.set_cons_succ]
      refine anyH_take (i := 3) (v := .int .u64 (x : Nat)) (some 20) rfl rfl (by kernel_rfl) (by kernel_rfl) (by kernel_rfl) (fun _ _ _ h => h) (Or.inl ⟨by rfl, fun _ _ => by go_simp⟩) (by assumption) ?_
      simp only [Act.put, List.setIfInBounds_toArray, List.set_cons_zero, List.set_cons_succ]
      refine anyH_take (i := 5) (v := .pointer (some ⟨w.heap.size, 33, none⟩)) (some 22) rfl rfl (by kernel_rfl) (by kernel_rfl) (by kernel_rfl) (fun _ _ _ h => h) (Or.inl ⟨by rfl, fun _ _ => by go_simp⟩) (by assumption) ?_
      simp only [Act.put, List.setIfInBounds_toArray, List.set_cons_zero, List.set_cons_succ]
      refine anyH_take (i := 6) (v := .int .i64 z) (some 23) rfl rfl (by kernel_rfl) (by kernel_rfl) (by kernel_rfl) (fun _ _ _ h => h) (Or.inl ⟨by rfl, fun w' h' => by
        have h2 : w'.cell? ⟨w.heap.size, 33, none⟩ = some (.int .i64 z) := h' 33 _ h33
        go_simp⟩) (by assumption) ?_
      simp only [Act.put, List.setIfInBounds_toArray, List.set_cons_zero, List.set_cons_succ]
      refine anyH_take (i := 7) (v := .int .u64 (y : Nat)) (some 24) rfl rfl (by kernel_rfl) (by kernel_rfl) (by kernel_rfl) (fun _ _ _ h => h) (Or.inl ⟨by rfl, fun _ _ => by go_simp⟩) (by assumption) ?_
      simp only [Act.put, List.setIfInBounds_toArray, List.set_cons_zero, List.set_cons_succ]
      refine wpAnyH_ready (rs := [4]) (by kernel_rfl) (by simp) ?_
      refine AllReadyH.cons rfl (fun K hK => ?_) AllReadyH.nil
      go_simp
      go_at_call 32
      refine Calls.mono (rnumber_any B x hxl _ Y wr.drew hownd hBd (by rw [Hm.out]; omega)) ?_
      rintro e w5 ⟨v5, rfl, hown5, hgr5⟩
      have hR5 : Arr w5 w.heap.size 26 DL := (hgr5.1.block w.heap.size hRd.lt (fun e => hvk _ e.symm rfl)).trans hRd
      have hv5 : ∀ g, v5.ownBlock = some g → g ≠ w.heap.size := fun g hg => by
        rcases hgr5.2 with e | ⟨k, e, hk⟩
        · exact hvk g (by rw [← e]; exact hg)
        · rw [hg] at e
          injection e with e
          have h1 := hRd.lt
          omega
      have hb5 : Below B w w5 := hbd.trans (hgr5.below hBd (fun q hq => (hownd.lt q hq).1))
      have hB5 : B ≤ w5.heap.size := Nat.le_trans hBd hgr5.1.size
      have hl5 : (Y ++ Lib.uvarint x).length ≤ 100042 := by
        have := Lib.uvarint_length64 hxl
        have := Hm.out
        rw [List.length_append]; omega
      clear hgr5 hownd hbd
      dsimp only
      go_wp2_with fail
      refine hK.out _ _ hR5.range (fun hHeld => ?_)
      clear hK K
      try simp only [Act.put, List.setIfInBounds_toArray, List.set_cons_zero, List.set_cons_succ]
      refine wpAnyH_ready (rs := [8]) (by kernel_rfl) (by simp) ?_
      refine AllReadyH.cons rfl (fun K hK => ?_) AllReadyH.nil
      go_simp
      go_at_call 32
      refine Calls.mono (rnumber_any B y hyl v5 (Y ++ Lib.uvarint x) w5 hown5 hB5 (by omega)) ?_
      rintro e w6 ⟨v6, rfl, hown6, hgr6⟩
      have hR6 : Arr w6 w.heap.size 26 DL := (hgr6.1.block w.heap.size hR5.lt (fun e => hv5 _ e.symm rfl)).trans hR5
      have hb6 : Below B w w6 := hb5.trans (hgr6.below hB5 (fun q hq => (hown5.lt q hq).1))
      dsimp only
      go_wp2_with fail
      refine hK.out _ _ hR6.range (fun hHeld => ?_)
      clear hK K
      try simp only [Act.put, List.setIfInBounds_toArray, List.set_cons_zero, List.set_cons_succ]
      refine anyH_take (i := 9) (v := v6) (some 4) rfl rfl (by kernel_rfl) (by kernel_rfl) (by kernel_rfl) (fun _ _ _ h => h) (Or.inl ⟨by rfl, fun _ _ => by rfl⟩) (by assumption) ?_
      simp only [Act.put, List.setIfInBounds_toArray, List.set_cons_zero, List.set_cons_succ]
      refine wpAnyH_done (by kernel_rfl) ?_ _
      go_wp2_with fail
      go_ret
      exact ⟨v6, rfl, by unfold refB; rw [HY.out, Hx.out, Hy.out]; exact hown6, hb6⟩


end Go.Proofs.Ytlfddijmanlneaa

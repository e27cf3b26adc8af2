/-
  The law SlotsTold.
-/
import Derived.Test.YtkepfigoeaheaaaDiskTurn
import Derived.Test.YtkepfigoeaheaaaSlotLib
namespace Go.Proofs.Ytkepfigoeaheaaa
open Go.RowKit
set_option linter.unusedVariables false
set_option linter.unusedSimpArgs false


theorem take_set {α : Type} {P Z : List α} {k : Nat} {v : α} (hk : k < P.length) (hz : k < Z.length) (hv : P[k]? = some v) : (P.take k ++ Z.drop k).set k v = P.take (k + 1) ++ Z.drop (k + 1) := by
  have h1 : (P.take k).length = k := by rw [List.length_take]; omega
  rw [List.set_append_right _ _ (by omega), h1, Nat.sub_self, List.drop_eq_getElem_cons hz, List.set_cons_zero]
  rw [List.take_succ_eq_append_getElem hk, List.append_assoc]
  congr 1
  rw [List.getElem?_eq_getElem hk] at hv
  injection hv with hv
  rw [hv]
  rfl
theorem zero64_at {j : Nat} (h : j < 64) : zero64.getD j 0 = 0 := by
  unfold zero64
  rw [List.getD_eq_getElem?_getD, List.getElem?_replicate, if_pos h]
  rfl
theorem owns_oneS (w : World) (B : Nat) (hB : B ≤ w.heap.size) : Owns (w.alloc (.cells #[.int .u8 1] 5)) B 5 (.slice (some ⟨w.heap.size, 0, none⟩) 1 1) [1] :=
  ⟨by simp [Lib.byteCells], .inr ⟨w.heap.size, 1, #[.int .u8 1], rfl, hB, heap_alloc_new w _, Nat.le_refl _, by unfold maxLen; omega, by simp, by simp [Lib.byteCells]⟩⟩
theorem lay_laid (r : RefF) (h : r.d.length = 32) (ZS : List Value) (hZS : ZS = Lib.byteCells zero64) : (Lib.byteCells (refB [1] r.d r.a r.n)).take (refB [1] r.d r.a r.n).length ++ ZS.drop (refB [1] r.d r.a r.n).length = Lib.byteCells (layR r) := by
  have h1 := lay_splice r h
  unfold splice at h1
  rw [← h1, hZS, ← Lib.byteCells_length (refB [1] r.d r.a r.n), List.take_length]
  simp
set_option maxHeartbeats 16000000 in
set_option maxRecDepth 100000 in
theorem laid_any (r : RefF) (hr : RefW r) (DL LL : List Value) (hDL : DL = rC r) (hLL : LL = Lib.byteCells (layR r)) (w : World) :
    Calls Try.prog 27 #[.agg DL.toArray] w fun e w' => e = .returned (.agg LL.toArray) ∧ Below w.heap.size w w' := by
  obtain ⟨ZS, hZS⟩ : ∃ z, z = Lib.byteCells zero64 := ⟨_, rfl⟩
  obtain ⟨ZT, hZT⟩ : ∃ z, z = Lib.byteCells zero64 := ⟨_, rfl⟩
  obtain ⟨W1, hW1⟩ : ∃ z, z = w.alloc (.cells DL.toArray 26) := ⟨_, rfl⟩
  obtain ⟨W2, hW2⟩ : ∃ z, z = W1.alloc (.cells ZS.toArray 49) := ⟨_, rfl⟩
  have hb1 : Below w.heap.size w W1 := by rw [hW1]; exact (Below.refl _ _).alloc (Nat.le_refl _) _
  have hb2 : Below W1.heap.size W1 W2 := by rw [hW2]; exact (Below.refl _ _).alloc (Nat.le_refl _) _
  have z1 : W1.heap.size = w.heap.size + 1 := by rw [hW1]; simp
  have hR : Arr W2 w.heap.size 26 DL := Arr.up (by rw [hW1]; exact Arr.new w _ _) hb2
  have hA : Arr W2 (w.heap.size + 1) 49 ZS := by rw [← z1, hW2]; exact Arr.new W1 _ _
  have hb : Below w.heap.size w W2 := hb1.trans (hb2.mono (by omega))
  obtain ⟨ga, hga⟩ : ∃ z, z = w.heap.size + 1 := ⟨_, rfl⟩
  rw [← hga] at hA
  have hgal : ga < W2.heap.size := hA.lt
  obtain ⟨B, hB⟩ : ∃ z, z = W2.heap.size := ⟨_, rfl⟩
  have HBW := Lib.hid hB
  have HW := Lib.hid (show W2 = (w.alloc (.cells DL.toArray 26)).alloc (.cells (Lib.byteCells zero64).toArray 49) by rw [hW2, hW1, hZS])
  have Hga := Lib.hid hga
  have HDn := Lib.hid (show (Try.prog.info? 26).map (·.size) = some DL.length by rw [hDL, rC_length hr]; exact refSize)
  have HLl := Lib.hid (show LL.length = 64 by rw [hLL, Lib.byteCells_length]; exact layR_length hr.d)
  have HLi := Lib.hid (show (Try.prog.info? 49).map (·.size) = some LL.toArray.size by rw [List.size_toArray, HLl.out]; exact secInfo)
  have HLz := Lib.hid (show ZS.toArray.size = LL.toArray.size by rw [List.size_toArray, List.size_toArray, HLl.out, hZS]; rfl)
  have HL1 := Lib.hid (show LL.toArray.all (·.oneCell') = true by rw [hLL]; exact sec_one _)
  have HZ0 := Lib.hid (fun w : World => show (zeroValue 49).run Try.prog w = .ok (.agg ZS.toArray) w by rw [hZS]; kernel_rfl)
  have HZb := Lib.hid (show Try.prog.built 49 [] = some ZT.toArray by rw [hZT]; kernel_rfl)
  have HZi := Lib.hid (show (Try.prog.info? 49).map (·.size) = some ZT.toArray.size ∧ ZS.toArray.size = ZT.toArray.size by rw [hZT, hZS]; exact ⟨secInfo, rfl⟩)
  have HZ1 := Lib.hid (show ZT.toArray.all (·.oneCell') = true by rw [hZT]; exact sec_one _)
  have HZT := Lib.hid hZT
  have HDL := Lib.hid hDL
  have Hr := Lib.hid hr
  have HR2 := Lib.hid (show W2.rangeAt w.heap.size 0 DL from hR.range)
  have HA2 := Lib.hid hA
  have Hb2 := Lib.hid hb
  have HLL := Lib.hid hLL
  have Hgw := Lib.hid (show w.heap.size < ga by omega)
  clear hZS hZT hW1 hW2 hb1 hb2 z1 hR hA hb hga hDL hr hB hLL
  go_enter Try.func27, Try.ntmps27
  go_upto_region 1 with fail
  change Code.wp _ _ _ _ ((w.alloc (.cells DL.toArray 26)).alloc (.cells (Lib.byteCells zero64).toArray 49))
  rw [← HW.out, ← Hga.out]
  clear HW
  have hown0 := owns_oneS W2 B (Nat.le_of_eq HBW.out)
  have HR2b := Lib.hid (show (W2.alloc (.cells #[.int .u8 1] 5)).rangeAt w.heap.size 0 DL from fun j v hj => by
    have h1 := HR2.out j v hj
    rw [World.cell?_alloc_lt _ _ _ (World.block_lt_of_cell? _ _ h1)]
    exact h1)
  go_wp2_with (first | ((with_reducible refine wpList_at 7 (by rfl) ?_); refine wpList_load_mid_ifC (by rfl) 26 _ rfl w.heap.size 0 rfl DL _ HR2b.out Try.underlying26 rfl HDn.out ?_))
  refine Calls.mono (rput_any B _ [1] r.d Hr.out.d r.a r.n DL HDL.out _ hown0 (by rw [HBW.out]; simp) (by simp)) ?_
  rintro e w3 ⟨v3, rfl, hO3, hb3⟩
  have hb23 : Below B W2 w3 := ((Below.refl B W2).alloc (Nat.le_of_eq HBW.out) _).trans hb3
  have HA3 := Lib.hid (HA2.out.below hb23 (by rw [HBW.out]; exact hgal))
  have Hb3 := Lib.hid (Hb2.out.trans (hb23.mono (by have := Hb2.out.size; rw [HBW.out]; exact this)))
  obtain ⟨P, hP⟩ : ∃ P, refB [1] r.d r.a r.n = P := ⟨_, rfl⟩
  rw [hP] at hO3
  have hPl : P.length ≤ 53 := by rw [← hP, refB_out]; have := encR_le r Hr.out.d; simp only [List.length_append, List.length_cons, List.length_nil]; exact Nat.le_trans (Nat.add_le_add_left this 1) (by omega)
  obtain ⟨A3, c3, rfl, hc3, hcm3, hbs3⟩ := hO3.slice
  have Hlaid := Lib.hid (show (Lib.byteCells P).take P.length ++ ZT.drop P.length = LL by rw [← hP, lay_laid r Hr.out.d ZT HZT.out, HLL.out])
  obtain ⟨m, hm⟩ : ∃ m, P.length = m := ⟨_, rfl⟩
  rw [hm] at hc3 hPl Hlaid ⊢
  have Hm := Lib.hid hm
  have Hbs3 := Lib.hid hbs3
  obtain ⟨g, hg⟩ : ∃ z, z = w3.heap.size := ⟨_, rfl⟩
  have Hg := Lib.hid hg
  have Hgg := Lib.hid (show ga < g by rw [hg]; exact HA3.out.lt)
  have Hgs := Lib.hid (show w3.heap.size ≤ g by omega)
  have hcm3' : c3 ≤ 9223372036854775807 := by unfold maxLen at hcm3; omega
  clear hO3 hb3 hb23 hbs3 hP hm hown0 HR2 HR2b HA2 Hb2 hg hcm3
  go_upto_region 3 with (first
    | (refine wpList_builtD rfl _ _ rfl [] rfl ZT.toArray HZb.out ?_)
    | (refine wpList_allocZC rfl 49 rfl ZS.toArray (HZ0.out _) ?_) | (change wpList _ _ _ _ _ (w3.alloc (.cells ZS.toArray 49)); refine wpList_store_row rfl _ _ _ rfl w3.heap.size ZT.toArray rfl rfl 49 ZS.toArray (heap_alloc_new w3 _) HZi.out.1 HZi.out.2 HZ1.out ?_; obtain ⟨w4, hw4⟩ : ∃ x, x = (w3.alloc (.cells ZS.toArray 49)).setRow w3.heap.size ZT.toArray := ⟨_, rfl⟩; rw [← hw4]; obtain ⟨hP4, hb4⟩ := alloc_row w3 49 ZS.toArray ZT; rw [← hw4] at hP4 hb4; clear hw4))
  rw [← Hg.out] at hP4 ⊢
  have HA4 := Lib.hid (HA3.out.up hb4)
  have Hb4 := Lib.hid (Hb3.out.trans (hb4.mono Hb3.out.size))
  have Hbs4 := Lib.hid (Hbs3.out.below hb4 (Nat.le_refl _))
  have HG0 := Lib.hid (show Arr w4 g 49 ((Lib.byteCells P).take 0 ++ ZT.drop 0) from by simpa using hP4)
  have Hgl4 := Lib.hid (show g < w4.heap.size from HG0.out.lt)
  have HZTl := Lib.hid (show ZT.length = 64 by rw [HZT.out, Lib.byteCells_length]; rfl)
  clear hb4 HA3 Hb3 Hbs3 hP4
  go_wp2_with fail
  go_loopw [5] (fun i wr => ∃ j : Nat, j ≤ m ∧ i = .int .i64 j ∧ Hid (Arr wr g 49 ((Lib.byteCells P).take j ++ ZT.drop j)) ∧ Hid (Only (fun b => b = g) w4 wr)) (fun i _ => m - (Go.RowKit.intOf i).toNat)
  case atStart => exact ⟨0, by omega, rfl, HG0, Lib.hid (Only.refl _ _)⟩
  case round =>
    clear HG0
    obtain ⟨j, hj, rfl, HG, HO⟩ := hrel
    by_cases hlt : j < m
    · have hd1 : decide ((j : Int) < (m : Int)) = true := by simp; omega
      have hd1n : decide (j < m) = true := decide_eq_true hlt
      have hd2 : decide ((j : Int) < (64 : Int)) = true := by simp; omega
      have hd2n : decide (j < 64) = true := by simp; omega
      obtain ⟨bb, off, rfl, hblk, hcell⟩ := Hbs4.out (by rw [Hm.out]; omega)
      obtain ⟨x, hx⟩ : ∃ x, P.getD j 0 = x := ⟨_, rfl⟩
      obtain ⟨y, hy⟩ : ∃ y, x.toNat = y := ⟨_, rfl⟩
      have hyl : y < 256 := by rw [← hy]; exact UInt8.toNat_lt _
      have hc := hcell j (by rw [Hm.out]; exact hlt)
      rw [hx, hy] at hc
      have hcr : wr.cell? ⟨bb, off + j, none⟩ = some (.int .u8 (y : Nat)) := (World.cell?_of_block (HO.out.block bb (by have := Hgl4.out; have := Hg.out; omega) (by have := Hg.out; omega))).trans hc
      have hPj : (Lib.byteCells P)[j]? = some (.int .u8 (y : Nat)) := by rw [byteCells_get (by rw [Hm.out]; exact hlt), hx, hy]
      have hf := HG.out.frozen j
      have hset := HG.out.set j (.int .u8 (y : Nat))
      rw [take_set (by rw [Lib.byteCells_length, Hm.out]; exact hlt) (by rw [HZTl.out]; omega) hPj] at hset
      have hold : wr.cell? ⟨g, j, none⟩ = some (.int .u8 0) := by
        rw [HG.out.cell, List.getElem?_append_right (by rw [List.length_take, Lib.byteCells_length, Hm.out]; omega), List.length_take, Lib.byteCells_length, Hm.out, Nat.min_eq_left (by omega), Nat.sub_self, List.getElem?_drop, Nat.add_zero, HZT.out, byteCells_get (by show j < 64; omega), zero64_at (by omega)]
        rfl
      have HO2 := Lib.hid (Only.setCell (R := fun b => b = g) HO.out (p := ⟨g, j, none⟩) (.inl rfl) (.int .u8 (y : Nat)))
      have Hset := Lib.hid hset
      have hyw : IntKind.u8.wrap (y : Int) = (y : Int) := IntWalk.u8_in _ (by omega)
      have hjm : (j : Int) < (64 : Int) := by omega
      clear hcell hc hx hy hPj hset HG
      go_wp2_with fail
      go_roundw
      case rel => exact ⟨j + 1, by omega, by go_num, Hset, HO2⟩
      case measure => simp [Go.RowKit.intOf]; omega
    · obtain rfl : j = m := by omega
      have hd1 : decide ((j : Int) < (j : Int)) = false := by simp
      have hd1n : decide (j < j) = false := by simp
      have hGf : Arr wr g 49 LL := by have h := HG.out; rwa [Hlaid.out] at h
      have HGf := Lib.hid hGf
      have HAr := Lib.hid (HA4.out.only HO.out (by have := Hgg.out; omega))
      have Hset := Lib.hid (HAr.out.setRow LL)
      have Hbe := Lib.hid (show Below w.heap.size w (wr.setRow ga LL.toArray) from
        (Hb4.out.trans (HO.out.below Hb4.out.size (by rintro b rfl; have := Hgg.out; have := Hgw.out; omega))).trans (((Only.refl (fun k => k = ga) wr).setRow (.inl rfl) LL.toArray).below (Nat.le_trans Hb4.out.size HO.out.size) (by rintro k rfl; exact Nat.le_of_lt Hgw.out)))
      clear hGf HG
      go_wp2_with (first
        | ((with_reducible refine wpList_at 26 (by rfl) ?_); refine wpList_load_row rfl _ _ rfl g rfl 49 LL.toArray (0, 0) _ HGf.out Try.underlying49 rfl HLi.out ?_)
        | (refine wpList_store_row rfl _ _ _ rfl ga LL.toArray rfl rfl 49 ZS.toArray HAr.out HLi.out HLz.out HL1.out ?_))
      exact bodyPost_ret (v := .agg LL.toArray) (results_cell_row (by rfl) _ _ ga 49 LL.toArray (0, 0) _ (by rfl) Hset.out Try.underlying49 rfl HLi.out) rfl ⟨rfl, Hbe.out⟩

end Go.Proofs.Ytkepfigoeaheaaa

namespace Go.Proofs.Ytkepfigoeaheaaa
open Go.RowKit
set_option linter.unusedVariables false
set_option linter.unusedSimpArgs false


/-- The document's number from a place on, at most so many groups more. -/
def nGo (s : List UInt8) (at' : Nat) : Nat → Nat → Nat → Int × Nat
  | 0, _, _ => (-1, at')
  | f + 1, acc, wt =>
    if (s.getD (at' + (3 - f)) 0).toNat < 128 then
      (if 0 < 3 - f ∧ (s.getD (at' + (3 - f)) 0).toNat = 0 then (-1, at' + (3 - f)) else (((acc + (s.getD (at' + (3 - f)) 0).toNat % 128 * wt : Nat) : Int), at' + (3 - f) + 1))
    else nGo s at' f (acc + (s.getD (at' + (3 - f)) 0).toNat % 128 * wt) (128 * wt)
def numR (s : List UInt8) (at' : Nat) : Int × Nat := nGo s at' 4 0 1
theorem nGo_le (s : List UInt8) (at' : Nat) : ∀ f acc wt, f ≤ 4 → (nGo s at' f acc wt).2 ≤ at' + 4 ∧ at' ≤ (nGo s at' f acc wt).2
  | 0, _, _, _ => by unfold nGo; omega
  | f + 1, acc, wt, hf => by
    unfold nGo
    split
    · split <;> simp only <;> omega
    · exact nGo_le s at' f _ _ (by omega)
theorem secs_one {s : List UInt8} (hs : s.length = 64) {SL : List Value} (hSL : SL = Lib.byteCells s) {i : Nat} (hi : i < 64) {x : Nat} (hx : (s.getD i 0).toNat = x) {w : World} {g : Nat} {T : TypeId} (h : Arr w g T SL) : w.cell? ⟨g, i, none⟩ = some (.int .u8 (x : Nat)) := by
  rw [h.cell, hSL, byteCells_get (by omega), hx]
set_option maxHeartbeats 16000000 in
set_option maxRecDepth 100000 in
theorem number14_any (s : List UInt8) (hs : s.length = 64) (SL : List Value) (hSL : SL = Lib.byteCells s) (at' : Nat) (hat : at' ≤ 40) (v : Int) (e' : Nat) (hR : numR s at' = (v, e')) (w : World) :
    Calls Try.prog 64 #[.agg SL.toArray, .int .i64 (at' : Nat)] w fun e w' => e = .returned (.tuple #[.int .i64 v, .int .i64 (e' : Nat)]) ∧ Below w.heap.size w w' := by
  obtain ⟨W1, hW1⟩ : ∃ z, z = w.alloc (.cells SL.toArray 49) := ⟨_, rfl⟩
  have hb1 : Below w.heap.size w W1 := by rw [hW1]; exact (Below.refl _ _).alloc (Nat.le_refl _) _
  have hA : Arr W1 w.heap.size 49 SL := by rw [hW1]; exact Arr.new w _ _
  have HA := Lib.hid hA
  have Hb := Lib.hid hb1
  have HW := Lib.hid hW1
  have Hs := Lib.hid hs
  have HSL := Lib.hid hSL
  have HR := Lib.hid (show nGo s at' 4 0 1 = (v, e') from hR)
  clear hW1 hb1 hA hs hSL hR
  go_enter Try.func64, Try.ntmps64
  go_upto_region 1 with fail
  rw [← HW.out]
  clear HW
  obtain ⟨ga, hga⟩ : ∃ z, w.heap.size = z := ⟨_, rfl⟩
  rw [hga] at HA ⊢
  have Hga := Lib.hid hga
  clear hga
  go_wp2_with fail
  go_loopw [6, 7, 8] (fun x y i wr => ∃ (f acc wt k : Nat), f ≤ 4 ∧ k = 4 - f ∧ x = .int .i64 acc ∧ y = .int .i64 wt ∧ i = .int .i64 ((at' + k : Nat) : Int) ∧ acc ≤ 40000000000 * k ∧ wt ≤ 268435456 ∧ Hid (wt * 128 ^ f = 268435456) ∧ Hid (nGo s at' f acc wt = (v, e')) ∧ Hid (wr = W1)) (fun _ _ i _ => at' + 4 - (Go.RowKit.intOf i).toNat)
  case atStart => exact ⟨4, 0, 1, 0, Nat.le_refl _, by omega, rfl, rfl, by simp, by omega, by omega, Lib.hid (by decide), HR, Lib.hid rfl⟩
  case round =>
    clear HR
    obtain ⟨f, acc, wt, k, hf, hk, rfl, rfl, rfl, hacc, hwt, Hwt, Hgo, Hwr⟩ := hrel
    have hwr := Hwr.out
    subst hwr
    obtain ⟨p, hp⟩ : ∃ p, at' + k = p := ⟨_, rfl⟩
    rw [hp]
    have Hp := Lib.hid hp
    cases f with
    | zero =>
      have hd1 : decide ((p : Int) < (64 : Int)) = true := by simp; omega
      have hd1n : decide (p < 64) = true := by simp; omega
      have hd2 : decide ((p : Int) < (at' : Int) + 4) = false := by simp; omega
      have hgo := Hgo.out
      unfold nGo at hgo
      injection hgo with g1 g2
      subst g1 g2
      clear hacc hwt hp
      go_wp2_with fail
      go_ret2
      exact ⟨rfl, Hb.out⟩
    | succ f =>
      have hd1 : decide ((p : Int) < (64 : Int)) = true := by simp; omega
      have hd1n : decide (p < 64) = true := by simp; omega
      have hd2 : decide ((p : Int) < (at' : Int) + 4) = true := by simp; omega
      have hpe : p = at' + (3 - f) := by omega
      obtain ⟨x, hx⟩ : ∃ x, (s.getD p 0).toNat = x := ⟨_, rfl⟩
      have hxl : x < 256 := by rw [← hx]; exact UInt8.toNat_lt _
      have hc := secs_one Hs.out HSL.out (show p < 64 by omega) hx HA.out
      have hgo := Hgo.out
      unfold nGo at hgo
      rw [← hpe, hx] at hgo
      obtain ⟨r, hr⟩ : ∃ r, x % 128 = r := ⟨_, rfl⟩
      have hrT : (x : Int).tmod 128 = (r : Int) := by rw [Int.tmod_eq_emod_of_nonneg (by omega)]; omega
      have hrI : (x : Int) % 128 = (r : Int) := by omega
      have hrl : r < 128 := by omega
      have hrw8 : IntKind.u8.wrap (r : Int) = (r : Int) := IntWalk.u8_in _ (by omega)
      have hrw : IntKind.i64.wrap (r : Int) = (r : Int) := IntWalk.i64_in _ (by omega)
      obtain ⟨m1, hm1⟩ : ∃ m, r * wt = m := ⟨_, rfl⟩
      have hm1I : (r : Int) * (wt : Int) = (m1 : Int) := by rw [← hm1]; exact (Int.natCast_mul r wt).symm
      have hm1l : m1 ≤ 34091302912 := by rw [← hm1]; exact Nat.le_trans (Nat.mul_le_mul (show r ≤ 127 by omega) hwt) (by omega)
      have hm1w : IntKind.i64.wrap (m1 : Int) = (m1 : Int) := IntWalk.i64_in _ (by omega)
      obtain ⟨a2, ha2⟩ : ∃ m, acc + m1 = m := ⟨_, rfl⟩
      have ha2I : (acc : Int) + (m1 : Int) = (a2 : Int) := by omega
      have ha2w : IntKind.i64.wrap (a2 : Int) = (a2 : Int) := IntWalk.i64_in _ (by omega)
      obtain ⟨w2, hw2⟩ : ∃ m, 128 * wt = m := ⟨_, rfl⟩
      have hw2I : (128 : Int) * (wt : Int) = (w2 : Int) := by omega
      have hw2w : IntKind.i64.wrap (w2 : Int) = (w2 : Int) := IntWalk.i64_in _ (by omega)
      rw [hr, hm1, ha2, hw2] at hgo
      have Hgo2 := Lib.hid hgo
      have Hk := Lib.hid (show k = 3 - f ∧ f ≤ 3 ∧ at' ≤ p ∧ p = at' + k ∧ a2 ≤ 40000000000 * (k + 1) from ⟨by omega, by omega, by omega, by omega, by omega⟩)
      have Hw2 := Lib.hid (show w2 * 128 ^ f = 268435456 by
        have h := Hwt.out
        rw [Nat.pow_succ, ← Nat.mul_assoc, Nat.mul_right_comm, Nat.mul_comm wt 128, hw2] at h
        exact h)
      have Hw2l := Lib.hid (show w2 ≤ 268435456 by
        have h := Hw2.out
        have h1 : 1 ≤ 128 ^ f := Nat.pow_pos (show 0 < 128 by omega)
        calc w2 = w2 * 1 := (Nat.mul_one _).symm
          _ ≤ w2 * 128 ^ f := Nat.mul_le_mul_left _ h1
          _ = _ := h)
      have hp64 : (p : Int) < (64 : Int) := by omega
      clear hgo Hgo hm1 ha2 hw2 hr hx hp Hwt hk hacc hwt hpe
      by_cases hx1 : x < 128
      · have hd3 : decide ((x : Int) < (128 : Int)) = true := by simp; omega
        have hd3n : decide (x < 128) = true := decide_eq_true hx1
        have hgo := Hgo2.out
        rw [if_pos hx1] at hgo
        by_cases hz : 0 < 3 - f ∧ x = 0
        · rw [if_pos hz] at hgo
          injection hgo with g1 g2
          have hd4 : decide ((at' : Int) < (p : Int)) = true := by simp; have := Hk.out; omega
          have hd4' : decide ((p : Int) > (at' : Int)) = true := hd4
          have hd4n : decide (at' < p) = true := by simp; have := Hk.out; omega
          have hd5 : ((x : Int) == 0) = true := by rw [beq_iff_eq]; omega
          have hd5n : (x == 0) = true := by rw [beq_iff_eq]; exact hz.2
          have Hg := Lib.hid (show v = -1 ∧ e' = p from ⟨g1.symm, g2.symm⟩)
          clear g1 g2 hz hx1
          go_wp2_with fail
          go_ret2
          exact ⟨by rw [Hg.out.1, Hg.out.2]; rfl, Hb.out⟩
        · rw [if_neg hz] at hgo
          injection hgo with g1 g2
          have Hg := Lib.hid (show v = (a2 : Int) ∧ e' = p + 1 from ⟨g1.symm, g2.symm⟩)
          have hpw : IntKind.i64.wrap ((p : Int) + 1) = ((p + 1 : Nat) : Int) := by rw [show (p : Int) + 1 = ((p + 1 : Nat) : Int) by omega]; exact IntWalk.i64_in _ (by omega)
          clear g1 g2
          by_cases hz1 : at' < p
          · have hd4 : decide ((at' : Int) < (p : Int)) = true := by simp; omega
            have hd4' : decide ((p : Int) > (at' : Int)) = true := hd4
            have hd4n : decide (at' < p) = true := by simp; omega
            have hx0 : x ≠ 0 := fun e => hz ⟨by have := Hk.out; omega, e⟩
            have hd5 : ((x : Int) == 0) = false := by rw [beq_eq_false_iff_ne]; omega
            have hd5n : (x == 0) = false := by rw [beq_eq_false_iff_ne]; exact hx0
            clear hz hx1 hz1 hx0
            go_wp2_with fail
            go_ret2
            exact ⟨by rw [Hg.out.1, Hg.out.2]; rfl, Hb.out⟩
          · have hd4 : decide ((at' : Int) < (p : Int)) = false := by simp; omega
            have hd4' : decide ((p : Int) > (at' : Int)) = false := hd4
            have hd4n : decide (at' < p) = false := by simp; omega
            clear hz hx1 hz1
            go_wp2_with fail
            go_ret2
            exact ⟨by rw [Hg.out.1, Hg.out.2]; rfl, Hb.out⟩
      · have hd3 : decide ((x : Int) < (128 : Int)) = false := by simp; omega
        have hd3n : decide (x < 128) = false := decide_eq_false hx1
        have Hgo3 := Lib.hid (show nGo s at' f a2 w2 = (v, e') by have h := Hgo2.out; rwa [if_neg hx1] at h)
        clear hx1
        go_wp2_with fail
        go_roundw
        case rel => exact ⟨f, a2, w2, k + 1, by have := Hk.out; omega, by have := Hk.out; omega, rfl, rfl, by have := Hk.out; go_num, by have := Hk.out; omega, Hw2l.out, Hw2, Hgo3, (by first | exact Lib.hid rfl | exact Lib.hid trivial)⟩
        case measure => have := Hk.out; simp [Go.RowKit.intOf]; omega

end Go.Proofs.Ytkepfigoeaheaaa

namespace Go.Proofs.Ytkepfigoeaheaaa
open Go.RowKit
set_option linter.unusedVariables false
set_option linter.unusedSimpArgs false


theorem drop_at {s : List UInt8} {i : Nat} (h : i < s.length) : s.drop i = s.getD i 0 :: s.drop (i + 1) := by
  rw [List.drop_eq_getElem_cons h]
  congr 1
  simp [List.getD, h]
theorem byte_of {b : UInt8} (h : 128 ≤ b.toNat) : (b.toNat % 128 + 128).toUInt8 = b := by
  have := UInt8.toNat_lt b
  apply UInt8.toNat_inj.1
  rw [Lib.toUInt8_toNat (by omega)]
  omega
theorem mul_split (u wt acc : Nat) : acc + u % 128 * wt + u / 128 * (128 * wt) = acc + u * wt := by
  rw [← Nat.mul_assoc, Nat.add_assoc, ← Nat.add_mul]
  congr 2
  omega
theorem nGo_sound {s : List UInt8} {at' : Nat} (h4 : at' + 4 ≤ s.length) : ∀ (f acc wt : Nat) (v : Int) (e : Nat), f ≤ 4 → nGo s at' f acc wt = (v, e) → 0 ≤ v → ∃ u : Nat, v = ((acc + u * wt : Nat) : Int) ∧ s.drop (at' + (4 - f)) = Lib.uvarint u ++ s.drop e ∧ (0 < 4 - f → 0 < u) ∧ at' + (4 - f) < e ∧ e ≤ at' + 4
  | 0, acc, wt, v, e, _, h, hv => by
    unfold nGo at h
    injection h with h1 _
    omega
  | f + 1, acc, wt, v, e, hf, h, hv => by
    have hi : at' + (3 - f) < s.length := by omega
    have hk : at' + (4 - (f + 1)) = at' + (3 - f) := by omega
    rw [hk, drop_at hi]
    obtain ⟨b, hb⟩ : ∃ b, s.getD (at' + (3 - f)) 0 = b := ⟨_, rfl⟩
    unfold nGo at h
    rw [hb] at h ⊢
    have hbl := UInt8.toNat_lt b
    by_cases h1 : b.toNat < 128
    · rw [if_pos h1] at h
      by_cases h2 : 0 < 3 - f ∧ b.toNat = 0
      · rw [if_pos h2] at h
        injection h with g1 _
        omega
      · rw [if_neg h2] at h
        injection h with g1 g2
        refine ⟨b.toNat, ?_, ?_, fun hp => ?_, by omega, by omega⟩
        · rw [← g1, Nat.mod_eq_of_lt h1]
        · rw [Lib.uvarint_small h1, ← g2]
          simp
        · rcases Nat.eq_zero_or_pos b.toNat with e0 | e0
          · exact absurd ⟨by omega, e0⟩ h2
          · exact e0
    · rw [if_neg h1] at h
      obtain ⟨u, e1, e2, e3, e4, e5⟩ := nGo_sound h4 f _ _ v e (by omega) h hv
      have hu := e3 (by omega)
      refine ⟨b.toNat % 128 + 128 * u, ?_, ?_, fun _ => by omega, by omega, e5⟩
      · rw [e1]
        congr 1
        have := mul_split (b.toNat % 128 + 128 * u) wt acc
        rw [← this, show (b.toNat % 128 + 128 * u) % 128 = b.toNat % 128 by omega, show (b.toNat % 128 + 128 * u) / 128 = u by omega]
      · rw [Lib.uvarint_big (by omega), show (b.toNat % 128 + 128 * u) % 128 = b.toNat % 128 by omega, show (b.toNat % 128 + 128 * u) / 128 = u by omega, byte_of (by omega)]
        rw [show at' + (4 - f) = at' + (3 - f) + 1 by omega] at e2
        rw [e2]
        rfl
theorem nGo_back {s : List UInt8} {at' : Nat} : ∀ (f acc wt u : Nat) (t : List UInt8), f ≤ 4 → s.drop (at' + (4 - f)) = Lib.uvarint u ++ t → u < 128 ^ f → (0 < 4 - f → 0 < u) → nGo s at' f acc wt = (((acc + u * wt : Nat) : Int), at' + (4 - f) + (Lib.uvarint u).length)
  | 0, acc, wt, u, t, _, _, hu, hp => by
    have := hp (by omega)
    simp at hu
    omega
  | f + 1, acc, wt, u, t, hf, hd, hu, hp => by
    have hk : at' + (4 - (f + 1)) = at' + (3 - f) := by omega
    rw [hk] at hd
    have hne : 0 < (s.drop (at' + (3 - f))).length := by rw [hd, List.length_append]; have := Lib.uvarint_pos u; omega
    have hi : at' + (3 - f) < s.length := by rw [List.length_drop] at hne; omega
    rw [drop_at hi] at hd
    obtain ⟨b, hb⟩ : ∃ b, s.getD (at' + (3 - f)) 0 = b := ⟨_, rfl⟩
    unfold nGo
    rw [hb] at hd ⊢
    by_cases h1 : u < 128
    · rw [Lib.uvarint_small h1] at hd ⊢
      injection hd with h2 _
      have hbt : b.toNat = u := by rw [h2]; exact Lib.toUInt8_toNat (by omega)
      rw [hbt, if_pos h1, if_neg (fun h => by have := hp (by omega); omega), Nat.mod_eq_of_lt h1, hk]
      rfl
    · rw [Lib.uvarint_big (by omega)] at hd ⊢
      injection hd with h2 h3
      have hbt : b.toNat = u % 128 + 128 := by rw [h2]; exact Lib.toUInt8_toNat (by omega)
      rw [hbt, if_neg (by omega)]
      have hs : s.drop (at' + (4 - f)) = Lib.uvarint (u / 128) ++ t := by rw [show at' + (4 - f) = at' + (3 - f) + 1 by omega]; exact h3
      rw [nGo_back f _ _ (u / 128) t (by omega) hs (by rw [Nat.pow_succ] at hu; omega) (fun _ => by omega)]
      rw [show (u % 128 + 128) % 128 = u % 128 by omega, mul_split]
      simp only [List.length_cons]
      congr 1
      omega
/-- What the document says that a sector tells. -/
noncomputable def toldF (s : List UInt8) : RefF × Bool :=
  open Classical in
  if s.getD 0 0 = 1 ∧ OkR ⟨(s.drop 1).take 32, (numR s 33).1, (numR s (numR s 33).2).1⟩ ∧ ∀ i, (numR s (numR s 33).2).2 ≤ i → i < 64 → s.getD i 0 = 0 then (⟨(s.drop 1).take 32, (numR s 33).1, (numR s (numR s 33).2).1⟩, true) else (zR, false)
theorem zeros_of {s : List UInt8} {e : Nat} (h : ∀ i, e ≤ i → i < s.length → s.getD i 0 = 0) : s.drop e = List.replicate (s.length - e) 0 := by
  refine List.ext_getElem (by simp) fun i h1 h2 => ?_
  rw [List.length_drop] at h1
  have := h (e + i) (by omega) (by omega)
  simp only [List.getElem_drop, List.getElem_replicate]
  simpa [List.getD, show e + i < s.length by omega] using this
theorem told_lay {s : List UInt8} (hs : s.length = 64) (h0 : s.getD 0 0 = 1) (ok : OkR ⟨(s.drop 1).take 32, (numR s 33).1, (numR s (numR s 33).2).1⟩) (hz : ∀ i, (numR s (numR s 33).2).2 ≤ i → i < 64 → s.getD i 0 = 0) : layR ⟨(s.drop 1).take 32, (numR s 33).1, (numR s (numR s 33).2).1⟩ = s := by
  obtain ⟨n, nx, hn⟩ : ∃ n nx, numR s 33 = (n, nx) := ⟨_, _, rfl⟩
  rw [hn] at ok hz ⊢
  obtain ⟨m, en, hm⟩ : ∃ m en, numR s nx = (m, en) := ⟨_, _, rfl⟩
  simp only at ok hz ⊢
  rw [hm] at ok hz ⊢
  simp only at ok hz ⊢
  obtain ⟨g1, g2, g3, g4⟩ := ok
  simp only at g1 g2 g3 g4
  obtain ⟨u1, e1, d1, _, l1, l1'⟩ := nGo_sound (s := s) (at' := 33) (by omega) 4 0 1 n nx (Nat.le_refl _) hn g1
  obtain ⟨u2, e2, d2, _, l2, l2'⟩ := nGo_sound (s := s) (at' := nx) (by omega) 4 0 1 m en (Nat.le_refl _) hm g3
  simp only [Nat.zero_add, Nat.mul_one, Nat.sub_self, Nat.add_zero] at e1 d1 l1 e2 d2 l2
  have hzz := zeros_of (s := s) (e := en) (fun i h1 h2 => hz i h1 (by omega))
  have hd : s.drop 1 = (s.drop 1).take 32 ++ s.drop 33 := by
    have := List.take_append_drop 32 (s.drop 1)
    rw [List.drop_drop] at this
    exact this.symm
  have hall : s = 1 :: ((s.drop 1).take 32 ++ (Lib.uvarint u1 ++ (Lib.uvarint u2 ++ List.replicate (s.length - en) 0))) := by
    rw [← hzz, ← d2, ← d1, ← hd]
    have := drop_at (s := s) (i := 0) (by omega)
    rw [List.drop_zero, h0] at this
    exact this
  have hlen := congrArg List.length hall
  simp only [List.length_cons, List.length_append, List.length_replicate] at hlen
  have hc : encR ⟨(s.drop 1).take 32, n, m⟩ = (s.drop 1).take 32 ++ (Lib.uvarint u1 ++ Lib.uvarint u2) := by
    unfold encR refB
    simp only [List.nil_append]
    rw [e1, e2, uF_nat (by omega), uF_nat (by omega), List.append_assoc]
  conv => rhs; rw [hall]
  unfold layR
  rw [hc]
  simp only [List.cons_append, List.append_assoc, List.length_append]
  congr 5
  omega
theorem told_back {r : RefF} (h : OkR r) (hd : r.d.length = 32) : toldF (layR r) = (r, true) := by
  obtain ⟨d, a, n⟩ := r
  obtain ⟨g1, g2, g3, g4⟩ := h
  simp only at g1 g2 g3 g4 hd
  obtain ⟨a, rfl⟩ := Int.eq_ofNat_of_zero_le g1
  obtain ⟨n, rfl⟩ := Int.eq_ofNat_of_zero_le g3
  obtain ⟨Z, hZ⟩ : ∃ Z, Z = List.replicate (64 - (1 + (encR ⟨d, (a : Int), (n : Int)⟩).length)) (0 : UInt8) := ⟨_, rfl⟩
  have hs : layR ⟨d, (a : Int), (n : Int)⟩ = 1 :: (d ++ (Lib.uvarint a ++ (Lib.uvarint n ++ Z))) := by
    unfold layR
    rw [← hZ]
    unfold encR refB
    simp only [List.nil_append]
    rw [uF_nat (by omega), uF_nat (by omega)]
    simp
  have hl := layR_length (r := ⟨d, (a : Int), (n : Int)⟩) hd
  obtain ⟨s, hse⟩ : ∃ s, layR ⟨d, (a : Int), (n : Int)⟩ = s := ⟨_, rfl⟩
  rw [hse] at hs hl ⊢
  have t1 : s.drop 1 = d ++ (Lib.uvarint a ++ (Lib.uvarint n ++ Z)) := by rw [hs]; rfl
  have t2 : (s.drop 1).take 32 = d := by rw [t1, ← hd, List.take_left]
  have t3 : s.drop (33 + (4 - 4)) = Lib.uvarint a ++ (Lib.uvarint n ++ Z) := by
    have : s.drop 33 = (s.drop 1).drop 32 := by rw [List.drop_drop]
    rw [Nat.sub_self, Nat.add_zero, this, t1, ← hd, List.drop_left]
  have n1 : numR s 33 = ((a : Int), 33 + (Lib.uvarint a).length) := by
    have := nGo_back (s := s) (at' := 33) 4 0 1 a _ (Nat.le_refl _) t3 (by omega) (fun h => by omega)
    unfold numR
    rw [this]
    simp
  have t4 : s.drop (33 + (Lib.uvarint a).length + (4 - 4)) = Lib.uvarint n ++ Z := by
    have : s.drop (33 + (Lib.uvarint a).length) = (s.drop 33).drop (Lib.uvarint a).length := by rw [List.drop_drop]
    rw [Nat.sub_self, Nat.add_zero] at t3 ⊢
    rw [this, t3, List.drop_left]
  have n2 : numR s (33 + (Lib.uvarint a).length) = ((n : Int), 33 + (Lib.uvarint a).length + (Lib.uvarint n).length) := by
    have := nGo_back (s := s) (at' := 33 + (Lib.uvarint a).length) 4 0 1 n _ (Nat.le_refl _) t4 (by omega) (fun h => by omega)
    unfold numR
    rw [this]
    simp
  have h0 : s.getD 0 0 = 1 := by rw [hs]; rfl
  have hz : ∀ i, 33 + (Lib.uvarint a).length + (Lib.uvarint n).length ≤ i → i < 64 → s.getD i 0 = 0 := fun i h1 h2 => by
    have e : s = (1 :: (d ++ (Lib.uvarint a ++ Lib.uvarint n))) ++ Z := by rw [hs]; simp
    have hle : (1 :: (d ++ (Lib.uvarint a ++ Lib.uvarint n))).length ≤ i := by simp only [List.length_cons, List.length_append]; omega
    rw [List.getD_eq_getElem?_getD, e, List.getElem?_append_right hle, hZ, List.getElem?_replicate]
    split <;> rfl
  unfold toldF
  rw [n1]
  simp only
  rw [n2, t2]
  simp only
  rw [if_pos ⟨h0, ⟨g1, g2, g3, g4⟩, hz⟩]
theorem told_tell {s : List UInt8} (hs : s.length = 64) : toldF s = tellF s := by
  by_cases h : s.getD 0 0 = 1 ∧ OkR ⟨(s.drop 1).take 32, (numR s 33).1, (numR s (numR s 33).2).1⟩ ∧ ∀ i, (numR s (numR s 33).2).2 ≤ i → i < 64 → s.getD i 0 = 0
  · have hl := told_lay hs h.1 h.2.1 h.2.2
    have h1 : toldF s = (⟨(s.drop 1).take 32, (numR s 33).1, (numR s (numR s 33).2).1⟩, true) := by unfold toldF; rw [if_pos h]
    rw [h1]
    conv => rhs; rw [← hl]
    exact (tell_lay h.2.1 (by rw [List.length_take, List.length_drop]; omega)).symm
  · have h1 : toldF s = (zR, false) := by unfold toldF; rw [if_neg h]
    rw [h1]
    obtain ⟨r, b, hb⟩ : ∃ r b, tellF s = (r, b) := ⟨_, _, rfl⟩
    rw [hb]
    cases b with
    | false => rw [tell_no hb]
    | true =>
      obtain ⟨ok, hd, hl⟩ := tell_yes hb
      have h2 := told_back ok hd
      rw [hl, h1] at h2
      injection h2 with _ h3
      cases h3

end Go.Proofs.Ytkepfigoeaheaaa

namespace Go.Proofs.Ytkepfigoeaheaaa
open Go.RowKit
set_option linter.unusedVariables false
set_option linter.unusedSimpArgs false


theorem nGo_i64 (s : List UInt8) (at' : Nat) : ∀ f acc wt, wt * 128 ^ f ≤ 268435456 → (nGo s at' f acc wt).1 ≤ ((acc + f * 34359738368 : Nat) : Int) ∧ -1 ≤ (nGo s at' f acc wt).1
  | 0, acc, wt, _ => by unfold nGo; simp only; omega
  | f + 1, acc, wt, h => by
    have h1 : 1 ≤ 128 ^ f := Nat.pow_pos (by omega)
    have h2 : 128 * wt * 128 ^ f ≤ 268435456 := by rw [Nat.pow_succ, ← Nat.mul_assoc, Nat.mul_right_comm, Nat.mul_comm wt 128] at h; exact h
    have h3 : 128 * wt ≤ 268435456 := Nat.le_trans (Nat.le_mul_of_pos_right _ h1) h2
    obtain ⟨x, hx⟩ : ∃ x, (s.getD (at' + (3 - f)) 0).toNat = x := ⟨_, rfl⟩
    obtain ⟨m, hm⟩ : ∃ m, x % 128 * wt = m := ⟨_, rfl⟩
    have h4 : m ≤ 34359738368 := by rw [← hm]; exact Nat.le_trans (Nat.mul_le_mul (show x % 128 ≤ 128 by omega) (show wt ≤ 268435456 by omega)) (by omega)
    unfold nGo
    rw [hx, hm]
    split
    · split <;> simp only <;> omega
    · have := nGo_i64 s at' f (acc + m) (128 * wt) h2
      omega
theorem numR_i64 {s : List UInt8} {at' e : Nat} {v : Int} (h : numR s at' = (v, e)) : I64 v := by
  have h1 := nGo_i64 s at' 4 0 1 (by omega)
  unfold numR at h
  rw [h] at h1
  unfold I64
  simp only at h1
  omega
theorem refZ_at {j : Nat} (h : j < 32) : refZ[j]? = some (.int .u8 0) := by
  unfold refZ refC
  rw [List.getElem?_append_left (by rw [Lib.byteCells_length, List.length_replicate]; exact h), byteCells_get (by rw [List.length_replicate]; exact h), List.getD_eq_getElem?_getD, List.getElem?_replicate, if_pos h]
  rfl
theorem take_refC {D : List UInt8} (h : D.length = 32) : (Lib.byteCells D).take 32 ++ refZ.drop 32 = refC D 0 0 := by
  rw [List.take_of_length_le (by rw [Lib.byteCells_length, h]; exact Nat.le_refl _)]
  rfl
set_option maxHeartbeats 16000000 in
set_option maxRecDepth 100000 in
theorem told_any (s : List UInt8) (hs : s.length = 64) (SL : List Value) (hSL : SL = Lib.byteCells s) (T : RefF × Bool) (hT : T = toldF s) (w : World) :
    Calls Try.prog 22 #[.agg SL.toArray] w fun e w' => e = .returned (.tuple #[.agg (rC T.1).toArray, .bool T.2]) ∧ Below w.heap.size w w' := by
  obtain ⟨n, nx, hn⟩ : ∃ n nx, numR s 33 = (n, nx) := ⟨_, _, rfl⟩
  obtain ⟨m, en, hm⟩ : ∃ m en, numR s nx = (m, en) := ⟨_, _, rfl⟩
  have hnx : nx ≤ 37 := by have h := nGo_le s 33 4 0 1 (Nat.le_refl _); rw [show nGo s 33 4 0 1 = (n, nx) from hn] at h; exact h.1
  have hen : en ≤ 41 := by have h := nGo_le s nx 4 0 1 (Nat.le_refl _); rw [show nGo s nx 4 0 1 = (m, en) from hm] at h; simp only at h; omega
  obtain ⟨D, hD⟩ : ∃ D, (s.drop 1).take 32 = D := ⟨_, rfl⟩
  have hDl : D.length = 32 := by rw [← hD, List.length_take, List.length_drop]; omega
  have hDj : ∀ j, j < 32 → D.getD j 0 = s.getD (1 + j) 0 := fun j hj => by
    rw [← hD, List.getD_eq_getElem?_getD, List.getElem?_take, if_pos hj, List.getElem?_drop, List.getD_eq_getElem?_getD]
  have hTr : RefW ⟨D, n, m⟩ := ⟨hDl, numR_i64 hn, numR_i64 hm⟩
  have hTy : s.getD 0 0 = 1 → OkR ⟨D, n, m⟩ → (∀ i, en ≤ i → i < 64 → s.getD i 0 = 0) → T = (⟨D, n, m⟩, true) := fun h1 h2 h3 => by
    rw [hT]
    unfold toldF
    rw [hn]
    simp only
    rw [hm, hD]
    simp only
    rw [if_pos ⟨h1, h2, h3⟩]
  have hTn : ¬ (s.getD 0 0 = 1 ∧ OkR ⟨D, n, m⟩ ∧ ∀ i, en ≤ i → i < 64 → s.getD i 0 = 0) → T = (zR, false) := fun h1 => by
    rw [hT]
    unfold toldF
    rw [hn]
    simp only
    rw [hm, hD]
    simp only
    rw [if_neg h1]
  have HTy := Lib.hid hTy
  have HTn := Lib.hid hTn
  have HTr := Lib.hid hTr
  have HDj := Lib.hid hDj
  have HDl := Lib.hid hDl
  have Hn := Lib.hid hn
  have Hm := Lib.hid hm
  clear hT hD hTy hTn hTr hDj hDl hn hm
  obtain ⟨ZL, hZL⟩ : ∃ z, z = refZ := ⟨_, rfl⟩
  obtain ⟨W1, hW1⟩ : ∃ z, z = w.alloc (.cells SL.toArray 49) := ⟨_, rfl⟩
  obtain ⟨W2, hW2⟩ : ∃ z, z = W1.alloc (.cells ZL.toArray 26) := ⟨_, rfl⟩
  have hb1 : Below w.heap.size w W1 := by rw [hW1]; exact (Below.refl _ _).alloc (Nat.le_refl _) _
  have hb2 : Below W1.heap.size W1 W2 := by rw [hW2]; exact (Below.refl _ _).alloc (Nat.le_refl _) _
  have z1 : W1.heap.size = w.heap.size + 1 := by rw [hW1]; simp
  have hA : Arr W2 w.heap.size 49 SL := Arr.up (by rw [hW1]; exact Arr.new w _ _) hb2
  have hZ : Arr W2 (w.heap.size + 1) 26 ZL := by rw [← z1, hW2]; exact Arr.new W1 _ _
  have hb : Below w.heap.size w W2 := hb1.trans (hb2.mono (by omega))
  have z2 : W2.heap.size = w.heap.size + 2 := by rw [hW2]; simp; omega
  obtain ⟨ga, hga⟩ : ∃ z, z = w.heap.size + 1 := ⟨_, rfl⟩
  rw [← hga] at hZ
  obtain ⟨g, hg⟩ : ∃ z, z = W2.heap.size := ⟨_, rfl⟩
  have Hgs := Lib.hid (show w.heap.size < ga ∧ ga < g ∧ w.heap.size < g by omega)
  have Hs := Lib.hid hs
  have HSL := Lib.hid hSL
  have HSl := Lib.hid (show SL.length = 64 by rw [hSL, Lib.byteCells_length]; exact hs)
  have HSn := Lib.hid (show (Try.prog.info? 49).map (·.size) = some SL.toArray.size by rw [List.size_toArray, HSl.out]; exact secInfo)
  have HZL := Lib.hid hZL
  have HW := Lib.hid (show W2 = (w.alloc (.cells SL.toArray 49)).alloc (.cells refZ.toArray 26) by rw [hW2, hW1, hZL])
  have Hga := Lib.hid hga
  have Hg := Lib.hid hg
  have HA := Lib.hid hA
  have HZ := Lib.hid hZ
  have Hb := Lib.hid hb
  have HZb := Lib.hid (show Try.prog.built 26 [] = some ZL.toArray by rw [hZL]; exact ref_built0)
  have HZi := Lib.hid (show (Try.prog.info? 26).map (·.size) = some ZL.toArray.size by rw [hZL]; exact refSize)
  have HZ1 := Lib.hid (show ZL.toArray.all (·.oneCell') = true by rw [hZL]; exact all_oneC (refC_cell _ _ _))
  have HZ0 := Lib.hid (fun w : World => show (zeroValue 26).run Try.prog w = .ok (.agg ZL.toArray) w by rw [hZL]; exact refZero w)
  obtain ⟨x, hx⟩ : ∃ x, (s.getD 0 0).toNat = x := ⟨_, rfl⟩
  have hc0 := secs_one hs hSL (show 0 < 64 by omega) hx hA
  have Hx := Lib.hid hx
  clear hSL hs hZL hW1 hW2 hb1 hb2 z1 z2 hga hA hZ hb hx hg
  go_enter Try.func22, Try.ntmps22
  go_upto_region 1 with fail
  change Code.wp _ _ _ _ ((w.alloc (.cells SL.toArray 49)).alloc (.cells refZ.toArray 26))
  rw [← HW.out, ← Hga.out]
  clear HW
  by_cases hx1 : x = 1
  case neg =>
    have hd0 : ((x : Int) != 1) = true := by simp; omega
    have hd0n : (x != 1) = true := by simp; omega
    have HTe := Lib.hid (HTn.out (fun h => hx1 (by rw [← Hx.out, h.1]; rfl)))
    have Hset := Lib.hid (HZ.out.setRow ZL)
    have Hbe := Lib.hid (show Below w.heap.size w (W2.setRow ga ZL.toArray) from Hb.out.trans (((Only.refl (fun k => k = ga) W2).setRow (.inl rfl) _).below Hb.out.size (by rintro k rfl; exact Nat.le_of_lt Hgs.out.1)))
    clear hx1
    go_wp2_with (first
      | (refine wpList_builtD rfl _ _ rfl [] rfl ZL.toArray HZb.out ?_)
      | (refine wpList_store_row rfl _ _ _ rfl ga ZL.toArray rfl rfl 26 ZL.toArray HZ.out HZi.out rfl HZ1.out ?_))
    (try simp only [Exit.inBlock, Exit.then])
    obtain ⟨V, hV⟩ : ∃ V, V = Value.tuple #[.agg ZL.toArray, .bool false] := ⟨_, rfl⟩
    refine bodyPost_ret (v := V) ?hx1 ?h2 ?h3
    case hx1 => rw [hV]; exact results_cell2 (fn := Try.f22) (by rfl) _ _ ga 26 ZL.toArray (0, 0) _ (by rfl) _ (by rfl) Hset.out Try.underlying26 rfl HZi.out
    case h2 => rfl
    case h3 => exact ⟨by rw [hV, HTe.out, HZL.out, rC_zR], Hbe.out⟩
  have hd0 : ((x : Int) != 1) = false := by rw [hx1]; rfl
  have hd0n : (x != 1) = false := by rw [hx1]; rfl
  have Hx1 := Lib.hid (show s.getD 0 0 = 1 by
    have h := Hx.out
    rw [hx1] at h
    exact UInt8.toNat_inj.1 h)
  clear hx1
  go_upto_region 4 with (first
    | (refine wpList_builtD rfl _ _ rfl [] rfl ZL.toArray HZb.out ?_)
    | (refine wpList_allocZC rfl 26 rfl ZL.toArray (HZ0.out _) ?_) | (change wpList _ _ _ _ _ (W2.alloc (.cells ZL.toArray 26)); refine wpList_store_row rfl _ _ _ rfl W2.heap.size ZL.toArray rfl rfl 26 ZL.toArray (heap_alloc_new W2 _) HZi.out rfl HZ1.out ?_; obtain ⟨w4, hw4⟩ : ∃ x, x = (W2.alloc (.cells ZL.toArray 26)).setRow W2.heap.size ZL.toArray := ⟨_, rfl⟩; rw [← hw4]; obtain ⟨hP4, hb4⟩ := alloc_row W2 26 ZL.toArray ZL; rw [← hw4] at hP4 hb4; clear hw4))
  rw [← Hg.out] at hP4 ⊢
  have HA4 := Lib.hid (HA.out.up hb4)
  have HZ4 := Lib.hid (HZ.out.up hb4)
  have Hb4 := Lib.hid (Hb.out.trans (hb4.mono Hb.out.size))
  have HG4 := Lib.hid (show Arr w4 g 26 ((Lib.byteCells D).take 0 ++ ZL.drop 0) from by simpa using hP4)
  have HZl := Lib.hid (show ZL.length = 34 by rw [HZL.out]; rfl)
  clear hb4 HA HZ Hb hP4 hc0 hd0 hd0n Hx
  go_upto_block 0 with fail
  go_cut [] (fun wx => Hid (Arr wx g 26 (refC D 0 0)) ∧ Hid (Only (fun b => b = g) w4 wx))
  case first =>
    go_wp2_with fail
    go_loopw [5] (fun i wr => ∃ j : Nat, j ≤ 32 ∧ i = .int .i64 j ∧ Hid (Arr wr g 26 ((Lib.byteCells D).take j ++ ZL.drop j)) ∧ Hid (Only (fun b => b = g) w4 wr)) (fun i _ => 32 - (Go.RowKit.intOf i).toNat)
    case atStart => exact ⟨0, by omega, rfl, HG4, Lib.hid (Only.refl _ _)⟩
    case round =>
      clear HG4
      obtain ⟨j, hj, rfl, HG, HO⟩ := hrel
      by_cases hlt : j < 32
      · have hd1 : decide ((j : Int) < (32 : Int)) = true := by simp; omega
        have hd1n : decide (j < 32) = true := decide_eq_true hlt
        obtain ⟨q, hq⟩ : ∃ q, 1 + j = q := ⟨_, rfl⟩
        have hqI : (1 : Int) + (j : Int) = (q : Int) := by omega
        have hqw : IntKind.i64.wrap (q : Int) = (q : Int) := IntWalk.i64_in _ (by omega)
        have hjw : IntKind.i64.wrap ((j : Int) + 1) = ((j + 1 : Nat) : Int) := by rw [show (j : Int) + 1 = ((j + 1 : Nat) : Int) by omega]; exact IntWalk.i64_in _ (by omega)
        have hq64 : (q : Int) < (64 : Int) := by omega
        have hj32 : (j : Int) < (32 : Int) := by omega
        obtain ⟨y, hy⟩ : ∃ y, (s.getD q 0).toNat = y := ⟨_, rfl⟩
        have hyl : y < 256 := by rw [← hy]; exact UInt8.toNat_lt _
        have hAr : Arr wr w.heap.size 49 SL := HA4.out.only HO.out (by have := Hgs.out; omega)
        have hcr := secs_one Hs.out HSL.out (show q < 64 by omega) hy hAr
        have hPj : (Lib.byteCells D)[j]? = some (.int .u8 (y : Nat)) := by rw [byteCells_get (by rw [HDl.out]; exact hlt), HDj.out j hlt, hq, hy]
        have hf := HG.out.frozen j
        have hset := HG.out.set j (.int .u8 (y : Nat))
        rw [take_set (by rw [Lib.byteCells_length, HDl.out]; exact hlt) (by rw [HZl.out]; omega) hPj] at hset
        have hold : wr.cell? ⟨g, j, none⟩ = some (.int .u8 0) := by
          rw [HG.out.cell, List.getElem?_append_right (by rw [List.length_take, Lib.byteCells_length, HDl.out]; omega), List.length_take, Lib.byteCells_length, HDl.out, Nat.min_eq_left (by omega), Nat.sub_self, List.getElem?_drop, Nat.add_zero, HZL.out, refZ_at hlt]
        have HO2 := Lib.hid (Only.setCell (R := fun b => b = g) HO.out (p := ⟨g, j, none⟩) (.inl rfl) (.int .u8 (y : Nat)))
        have Hset := Lib.hid hset
        have hyw : IntKind.u8.wrap (y : Int) = (y : Int) := IntWalk.u8_in _ (by omega)
        clear hPj hset HG hAr hy hq
        go_wp2_with fail
        go_roundw
        case rel => exact ⟨j + 1, by omega, by go_num, Hset, HO2⟩
        case measure => simp [Go.RowKit.intOf]; omega
      · obtain rfl : j = 32 := by omega
        have HGf := Lib.hid (show Arr wr g 26 (refC D 0 0) by have h := HG.out; rwa [HZL.out, take_refC HDl.out] at h)
        clear HG
        go_wp2_with fail
        go_meet
        exact ⟨HGf, HO⟩
  case rest =>
    obtain ⟨HGx, HOx⟩ := hcut
    obtain ⟨w5, hw5⟩ : ∃ z, z = wc := ⟨_, rfl⟩
    rw [← hw5] at HGx HOx ⊢
    clear hw5
    have HA5 := Lib.hid (HA4.out.only HOx.out (by have := Hgs.out; omega))
    have HZ5 := Lib.hid (HZ4.out.only HOx.out (by have := Hgs.out; omega))
    have Hb5 := Lib.hid (Hb4.out.trans (HOx.out.below Hb4.out.size (by rintro k rfl; exact Nat.le_of_lt Hgs.out.2.2)))
    clear HG4 HA4 HZ4 Hb4 HOx
    have Hnum1 := Lib.hid (number14_any s Hs.out SL HSL.out 33 (by omega) n nx Hn.out w5)
    go_wp2_with (first
      | (refine wpList_load_row rfl _ _ rfl w.heap.size rfl 49 SL.toArray (0, 0) _ HA5.out Try.underlying49 rfl HSn.out ?_))
    refine Calls.mono Hnum1.out ?_
    rintro e w6 ⟨rfl, hb6⟩
    have HA6 := Lib.hid (HA5.out.up hb6)
    have HZ6 := Lib.hid (HZ5.out.up hb6)
    have HG6 := Lib.hid (HGx.out.up hb6)
    have Hb6 := Lib.hid (Hb5.out.trans (hb6.mono Hb5.out.size))
    clear hb6 HA5 HZ5 HGx Hb5 Hnum1
    have Hnum2 := Lib.hid (number14_any s Hs.out SL HSL.out nx (by omega) m en Hm.out w6)
    go_wp2_with (first
      | (refine wpList_load_row rfl _ _ rfl w.heap.size rfl 49 SL.toArray (0, 0) _ HA6.out Try.underlying49 rfl HSn.out ?_))
    refine Calls.mono Hnum2.out ?_
    rintro e w7 ⟨rfl, hb7⟩
    have HA7 := Lib.hid (HA6.out.up hb7)
    have HZ7 := Lib.hid (HZ6.out.up hb7)
    have HG7 := Lib.hid (HG6.out.up hb7)
    have Hb7 := Lib.hid (Hb6.out.trans (hb7.mono Hb6.out.size))
    clear hb7 HA6 HZ6 HG6 Hb6 Hnum2
    have hc7 : w7.cell? ⟨g, 32, none⟩ = some (.int .i64 0) := by rw [HG7.out.cell]; exact (refC_at HDl.out 0 0).1
    have hf7 := HG7.out.frozen 32
    go_upto_region 11 with fail
    obtain ⟨w8, hw8⟩ : ∃ x, x = w7.setCell ⟨g, 32, none⟩ (.int .i64 n) := ⟨_, rfl⟩
    have HG8 := Lib.hid (show Arr w8 g 26 (refC D n 0) by rw [hw8, ← refC_set1 HDl.out 0 0 n]; exact HG7.out.set 32 _)
    have HA8 := Lib.hid (show Arr w8 w.heap.size 49 SL by rw [hw8]; exact HA7.out.setOther (Nat.ne_of_lt Hgs.out.2.2) _)
    have HZ8 := Lib.hid (show Arr w8 ga 26 ZL by rw [hw8]; exact HZ7.out.setOther (Nat.ne_of_lt Hgs.out.2.1) _)
    have Hb8 := Lib.hid (show Below w.heap.size w w8 by rw [hw8]; exact Hb7.out.trans (((Only.refl (fun k => k = g) w7).setCell (p := ⟨g, 32, none⟩) (.inl rfl) _).below Hb7.out.size (by rintro k rfl; exact Nat.le_of_lt Hgs.out.2.2)))
    rw [← hw8]
    clear hw8 hc7 hf7 HG7 HA7 HZ7 Hb7
    have hc8 : w8.cell? ⟨g, 33, none⟩ = some (.int .i64 0) := by rw [HG8.out.cell]; exact (refC_at HDl.out n 0).2
    have hf8 := HG8.out.frozen 33
    obtain ⟨TL, hTL⟩ : ∃ z, z = rC ⟨D, n, m⟩ := ⟨_, rfl⟩
    have HTL := Lib.hid hTL
    have HTi := Lib.hid (show (Try.prog.info? 26).map (·.size) = some TL.toArray.size ∧ ZL.toArray.size = TL.toArray.size by rw [List.size_toArray, List.size_toArray, hTL, rC_length HTr.out, HZL.out]; exact ⟨refSize, rfl⟩)
    have HT1 := Lib.hid (show TL.toArray.all (·.oneCell') = true by rw [hTL]; exact all_oneC (rC_one _))
    clear hTL
    go_upto_region 12 with fail
    obtain ⟨w9, hw9⟩ : ∃ x, x = w8.setCell ⟨g, 33, none⟩ (.int .i64 m) := ⟨_, rfl⟩
    have HG9 := Lib.hid (show Arr w9 g 26 TL by rw [hw9, HTL.out]; unfold rC; rw [← refC_set2 HDl.out n 0 m]; exact HG8.out.set 33 _)
    have HA9 := Lib.hid (show Arr w9 w.heap.size 49 SL by rw [hw9]; exact HA8.out.setOther (Nat.ne_of_lt Hgs.out.2.2) _)
    have HZ9 := Lib.hid (show Arr w9 ga 26 ZL by rw [hw9]; exact HZ8.out.setOther (Nat.ne_of_lt Hgs.out.2.1) _)
    have Hb9 := Lib.hid (show Below w.heap.size w w9 by rw [hw9]; exact Hb8.out.trans (((Only.refl (fun k => k = g) w8).setCell (p := ⟨g, 33, none⟩) (.inl rfl) _).below Hb8.out.size (by rintro k rfl; exact Nat.le_of_lt Hgs.out.2.2)))
    rw [← hw9]
    clear hw9 hc8 hf8 HG8 HA8 HZ8 Hb8
    go_wp2_with (first
      | (refine wpList_load_row rfl _ _ rfl g rfl 26 TL.toArray (0, 0) _ HG9.out Try.underlying26 rfl HTi.out.1 ?_))
    refine Calls.mono (may14_any ⟨D, n, m⟩ HTr.out TL HTL.out w9) ?_
    rintro e wa ⟨rfl, hba⟩
    have HAa := Lib.hid (HA9.out.up hba)
    have HZa := Lib.hid (HZ9.out.up hba)
    have HGa := Lib.hid (HG9.out.up hba)
    have Hba := Lib.hid (Hb9.out.trans (hba.mono Hb9.out.size))
    have Hbe := Lib.hid (fun (cs : Array Value) => show Below w.heap.size w (wa.setRow ga cs) from Hba.out.trans (((Only.refl (fun k => k = ga) wa).setRow (.inl rfl) cs).below Hba.out.size (by rintro k rfl; exact Nat.le_of_lt Hgs.out.1)))
    have HsetZ := Lib.hid (HZa.out.setRow ZL)
    have HsetT := Lib.hid (HZa.out.setRow TL)
    clear hba HA9 HZ9 HG9 Hb9
    obtain ⟨ob, hob⟩ : ∃ z, okR ⟨D, n, m⟩ = z := ⟨_, rfl⟩
    rw [hob]
    have Hob := Lib.hid hob
    clear hob
    cases ob with
    | false =>
      have HTe := Lib.hid (HTn.out (fun h => by have h2 := okR_iff.2 h.2.1; rw [Hob.out] at h2; cases h2))
      go_wp2_with (first
        | (refine wpList_builtD rfl _ _ rfl [] rfl ZL.toArray HZb.out ?_)
        | (refine wpList_store_row rfl _ _ _ rfl ga ZL.toArray rfl rfl 26 ZL.toArray HZa.out HZi.out rfl HZ1.out ?_))
      (try simp only [Exit.inBlock, Exit.then])
      obtain ⟨V, hV⟩ : ∃ V, V = Value.tuple #[.agg ZL.toArray, .bool false] := ⟨_, rfl⟩
      refine bodyPost_ret (v := V) ?hx1 ?h2 ?h3
      case hx1 => rw [hV]; exact results_cell2 (fn := Try.f22) (by rfl) _ _ ga 26 ZL.toArray (0, 0) _ (by rfl) _ (by rfl) HsetZ.out Try.underlying26 rfl HZi.out
      case h2 => rfl
      case h3 => exact ⟨by rw [hV, HTe.out, HZL.out, rC_zR], Hbe.out _⟩
    | true =>
      have Hok := Lib.hid (show OkR ⟨D, n, m⟩ from okR_iff.1 Hob.out)
      clear Hob
      go_wp2_with fail
      go_loopw [10] (fun i wr => ∃ p : Nat, en ≤ p ∧ p ≤ 64 ∧ i = .int .i64 p ∧ Hid (∀ k, en ≤ k → k < p → s.getD k 0 = 0) ∧ Hid (wr = wa)) (fun i _ => 64 - (Go.RowKit.intOf i).toNat)
      case atStart => exact ⟨en, Nat.le_refl _, by omega, rfl, Lib.hid (fun k h1 h2 => by omega), Lib.hid (by first | rfl | trivial)⟩
      case round =>
        obtain ⟨p, hp1, hp2, rfl, Hz, Hwr⟩ := hrel
        have hwr := Hwr.out
        subst hwr
        clear Hwr
        by_cases hlt : p < 64
        · have hd1 : decide ((p : Int) < (64 : Int)) = true := by simp; omega
          have hd1n : decide (p < 64) = true := decide_eq_true hlt
          have hp64 : (p : Int) < (64 : Int) := by omega
          have hpw : IntKind.i64.wrap ((p : Int) + 1) = ((p + 1 : Nat) : Int) := by rw [show (p : Int) + 1 = ((p + 1 : Nat) : Int) by omega]; exact IntWalk.i64_in _ (by omega)
          obtain ⟨y, hy⟩ : ∃ y, (s.getD p 0).toNat = y := ⟨_, rfl⟩
          have hcp := secs_one Hs.out HSL.out hlt hy HAa.out
          have Hy := Lib.hid hy
          clear hy
          by_cases hy0 : y = 0
          · have hd2 : ((y : Int) != 0) = false := by rw [hy0]; rfl
            have hd2n : (y != 0) = false := by rw [hy0]; rfl
            have Hz2 := Lib.hid (show ∀ k, en ≤ k → k < p + 1 → s.getD k 0 = 0 from fun k h1 h2 => by
              by_cases hkp : k < p
              · exact Hz.out k h1 hkp
              · obtain rfl : k = p := by omega
                have h := Hy.out
                rw [hy0] at h
                exact UInt8.toNat_inj.1 h)
            clear hy0
            go_wp2_with fail
            go_roundw
            case rel => exact ⟨p + 1, by omega, by omega, by go_num, Hz2, Lib.hid (by trivial)⟩
            case measure => simp [Go.RowKit.intOf]; omega
          · have hd2 : ((y : Int) != 0) = true := by simp; omega
            have hd2n : (y != 0) = true := by simp; omega
            have HTe := Lib.hid (HTn.out (fun h => hy0 (by rw [← Hy.out, h.2.2 p hp1 hlt]; rfl)))
            clear hy0
            go_wp2_with (first
              | (refine wpList_builtD rfl _ _ rfl [] rfl ZL.toArray HZb.out ?_)
              | (refine wpList_store_row rfl _ _ _ rfl ga ZL.toArray rfl rfl 26 ZL.toArray HZa.out HZi.out rfl HZ1.out ?_))
            (try simp only [Exit.inBlock, Exit.then])
            obtain ⟨V, hV⟩ : ∃ V, V = Value.tuple #[.agg ZL.toArray, .bool false] := ⟨_, rfl⟩
            refine bodyPost_ret (v := V) ?hx1 ?h2 ?h3
            case hx1 => rw [hV]; exact results_cell2 (fn := Try.f22) (by rfl) _ _ ga 26 ZL.toArray (0, 0) _ (by rfl) _ (by rfl) HsetZ.out Try.underlying26 rfl HZi.out
            case h2 => rfl
            case h3 => exact ⟨by rw [hV, HTe.out, HZL.out, rC_zR], Hbe.out _⟩
        · obtain rfl : p = 64 := by omega
          have HTe := Lib.hid (HTy.out Hx1.out Hok.out Hz.out)
          have hP := HGa.out
          clear Hz
          go_wp2_with (first
            | (refine wpList_load_row rfl _ _ rfl g rfl 26 TL.toArray (0, 0) _ hP Try.underlying26 rfl HTi.out.1 ?_)
            | (refine wpList_store_row rfl _ _ _ rfl ga TL.toArray rfl rfl 26 ZL.toArray HZa.out HTi.out.1 HTi.out.2 HT1.out ?_))
          (try simp only [Exit.inBlock, Exit.then])
          obtain ⟨V, hV⟩ : ∃ V, V = Value.tuple #[.agg TL.toArray, .bool true] := ⟨_, rfl⟩
          refine bodyPost_ret (v := V) ?hx1 ?h2 ?h3
          case hx1 => rw [hV]; exact results_cell2 (fn := Try.f22) (by rfl) _ _ ga 26 TL.toArray (0, 0) _ (by rfl) _ (by rfl) HsetT.out Try.underlying26 rfl HTi.out.1
          case h2 => rfl
          case h3 => exact ⟨by rw [hV, HTe.out, HTL.out], Hbe.out _⟩

end Go.Proofs.Ytkepfigoeaheaaa

namespace Go.Proofs.Ytkepfigoeaheaaa
open Go.RowKit
set_option linter.unusedVariables false
set_option linter.unusedSimpArgs false


set_option maxHeartbeats 16000000 in
set_option maxRecDepth 100000 in
theorem srd_no (F : Nat → Prop) (k n : Nat) (a : Int) (S : List (List UInt8)) (W : List WrF) (w : World) (h : SDk F w k n S W) (ha : a < 0 ∨ 2 ≤ a) :
    Calls Try.prog 23 #[.pointer (some ⟨k, 0, none⟩), .int .i64 a] w fun e w' => e = .returned (.tuple #[.agg (rC zR).toArray, .bool false]) ∧ Below w.heap.size w w' := by
  obtain ⟨SL, hSL⟩ : ∃ z, z = Lib.byteCells zero64 := ⟨_, rfl⟩
  obtain ⟨ZL, hZL⟩ : ∃ z, z = refZ := ⟨_, rfl⟩
  obtain ⟨ZS, hZS⟩ : ∃ z, z = Lib.byteCells zero64 := ⟨_, rfl⟩
  obtain ⟨W1, hW1⟩ : ∃ z, z = w.alloc (.cells ZL.toArray 26) := ⟨_, rfl⟩
  have hb1 : Below w.heap.size w W1 := by rw [hW1]; exact (Below.refl _ _).alloc (Nat.le_refl _) _
  have hZ : Arr W1 w.heap.size 26 ZL := by rw [hW1]; exact Arr.new w _ _
  have HD1 := Lib.hid (h.up hb1)
  have Hread := Lib.hid (fun h : a < 0 => HD1.out.readNo a (.inl h))
  rw [← hSL] at Hread
  have HZL := Lib.hid hZL
  have HW := Lib.hid (show W1 = w.alloc (.cells refZ.toArray 26) by rw [hW1, hZL])
  have HSL := Lib.hid hSL
  have HSi := Lib.hid (show (Try.prog.info? 49).map (·.size) = some SL.toArray.size ∧ ZS.toArray.size = SL.toArray.size by rw [hSL, hZS]; exact ⟨secInfo, rfl⟩)
  have HS1 := Lib.hid (show SL.toArray.all (·.oneCell') = true by rw [hSL]; exact sec_one _)
  have HZS := Lib.hid (fun w : World => show (zeroValue 49).run Try.prog w = .ok (.agg ZS.toArray) w by rw [hZS]; kernel_rfl)
  have HZb := Lib.hid (show Try.prog.built 26 [] = some ZL.toArray by rw [hZL]; exact ref_built0)
  have HZi := Lib.hid (show (Try.prog.info? 26).map (·.size) = some ZL.toArray.size by rw [hZL]; exact refSize)
  have HZ1 := Lib.hid (show ZL.toArray.all (·.oneCell') = true by rw [hZL]; exact all_oneC (refC_cell _ _ _))
  obtain ⟨V, hV⟩ : ∃ V, V = Value.tuple #[.agg ZL.toArray, .bool false] := ⟨_, rfl⟩
  have HV := Lib.hid hV
  clear hW1 hZL hSL hZS h hV
  go_enter Try.func23, Try.ntmps23
  go_upto_region 1 with fail
  change Code.wp _ _ _ _ (w.alloc (.cells refZ.toArray 26))
  rw [← HW.out]
  clear HW
  by_cases ha2 : 2 ≤ a
  · have hd2 : decide ((2 : Int) ≤ a) = true := decide_eq_true ha2
    have hd2' : decide (a ≥ 2) = true := hd2
    have Hset := Lib.hid (hZ.setRow ZL)
    have Hbe := Lib.hid (show Below w.heap.size w (W1.setRow w.heap.size ZL.toArray) from hb1.trans (((Only.refl (fun k => k = w.heap.size) W1).setRow (.inl rfl) _).below hb1.size (by rintro k rfl; omega)))
    have HZ := Lib.hid hZ
    clear ha hZ hb1 Hread ha2
    go_wp2_with (first
      | (refine wpList_builtD rfl _ _ rfl [] rfl ZL.toArray HZb.out ?_)
      | (refine wpList_store_row rfl _ _ _ rfl w.heap.size ZL.toArray rfl rfl 26 ZL.toArray HZ.out HZi.out rfl HZ1.out ?_))
    (try simp only [Exit.inBlock, Exit.then])
    refine bodyPost_ret (v := V) ?hx1 ?h2 ?h3
    case hx1 => rw [HV.out]; exact results_cell2 (fn := Try.f23) (by rfl) _ _ w.heap.size 26 ZL.toArray (0, 0) _ (by rfl) _ (by rfl) Hset.out Try.underlying26 rfl HZi.out
    case h2 => rfl
    case h3 => exact ⟨by rw [HV.out, HZL.out, rC_zR], Hbe.out⟩
  · have hd2 : decide ((2 : Int) ≤ a) = false := decide_eq_false ha2
    have hd2' : decide (a ≥ 2) = false := hd2
    have Hrd := Lib.hid (Hread.out (by omega))
    clear ha Hread ha2
    go_wp2_with fail
    refine Calls.mono Hrd.out ?_
    rintro e w3 ⟨rfl, hb3⟩
    have HZ3 := Lib.hid (hZ.up hb3)
    have Hb3 := Lib.hid (hb1.trans (hb3.mono hb1.size))
    clear hZ hb1 hb3 Hrd
    obtain ⟨g, hg⟩ : ∃ z, z = w3.heap.size := ⟨_, rfl⟩
    have Hg := Lib.hid hg
    clear hg
    go_upto_region 4 with (first | (refine wpList_allocZC rfl 49 rfl ZS.toArray (HZS.out _) ?_) | (change wpList _ _ _ _ _ (w3.alloc (.cells ZS.toArray 49)); refine wpList_store_row rfl _ _ _ rfl w3.heap.size SL.toArray rfl rfl 49 ZS.toArray (heap_alloc_new w3 _) HSi.out.1 HSi.out.2 HS1.out ?_; obtain ⟨w4, hw4⟩ : ∃ x, x = (w3.alloc (.cells ZS.toArray 49)).setRow w3.heap.size SL.toArray := ⟨_, rfl⟩; rw [← hw4]; obtain ⟨hP4, hb4⟩ := alloc_row w3 49 ZS.toArray SL; rw [← hw4] at hP4 hb4; clear hw4))
    rw [← Hg.out] at hP4 ⊢
    have HZ4 := Lib.hid (HZ3.out.up hb4)
    have Hb4 := Lib.hid (Hb3.out.trans (hb4.mono Hb3.out.size))
    clear hb4 HZ3 Hb3 hP4
    have q1 : ((2 : Int) != 0) = true := by simp
    have Hset := Lib.hid (HZ4.out.setRow ZL)
    have Hbe := Lib.hid (show Below w.heap.size w (w4.setRow w.heap.size ZL.toArray) from Hb4.out.trans (((Only.refl (fun k => k = w.heap.size) w4).setRow (.inl rfl) _).below Hb4.out.size (by rintro k rfl; omega)))
    go_wp2_with (first
      | (refine wpList_builtD rfl _ _ rfl [] rfl ZL.toArray HZb.out ?_)
      | (refine wpList_store_row rfl _ _ _ rfl w.heap.size ZL.toArray rfl rfl 26 ZL.toArray HZ4.out HZi.out rfl HZ1.out ?_))
    (try simp only [Exit.inBlock, Exit.then])
    refine bodyPost_ret (v := V) ?hx1 ?h2 ?h3
    case hx1 => rw [HV.out]; exact results_cell2 (fn := Try.f23) (by rfl) _ _ w.heap.size 26 ZL.toArray (0, 0) _ (by rfl) _ (by rfl) Hset.out Try.underlying26 rfl HZi.out
    case h2 => rfl
    case h3 => exact ⟨by rw [HV.out, HZL.out, rC_zR], Hbe.out⟩

end Go.Proofs.Ytkepfigoeaheaaa

namespace Go.Proofs.Ytkepfigoeaheaaa
open Go.RowKit
set_option linter.unusedVariables false
set_option linter.unusedSimpArgs false

theorem fill_midV (place : Nat → Option (Nat × Nat)) (cells : Array Value) (i off : Nat) (l : List Value) (hp : place i = some (off, l.length)) (h : off + l.length ≤ cells.size) :
    Instr.fill place cells [(i, .agg l.toArray)] = some (cells.toList.take off ++ (l ++ cells.toList.drop (off + l.length))).toArray := by
  simp only [Instr.fill, hp, Value.cells, List.size_toArray]
  rw [if_neg (by simp; omega)]
  congr 1
  obtain ⟨g1, g2⟩ := Great.foldl_set off l 0 cells
  have e : (l.toArray.zipIdx.foldl (fun cs (x : Value × Nat) => cs.setIfInBounds (off + x.2) x.1) cells) = ((l.zipIdx 0).foldl (fun cs (x : Value × Nat) => cs.setIfInBounds (off + x.2) x.1) cells) := by
    rw [← Array.foldl_toList, Array.toList_zipIdx]
  show (l.toArray.zipIdx.foldl (fun cs (x : Value × Nat) => cs.setIfInBounds (off + x.2) x.1) cells) = _
  rw [e]
  apply Array.ext_getElem?
  intro k
  rw [g2 k]
  have hto : (cells.toList.take off).length = off := by simp; omega
  simp only [List.getElem?_toArray, Nat.add_zero]
  by_cases hk : off ≤ k
  · rw [List.getElem?_append_right (by omega), hto]
    by_cases hk2 : k < off + l.length
    · rw [if_pos ⟨hk, hk2, by omega⟩, List.getElem?_append_left (by omega)]
    · rw [if_neg (by omega), List.getElem?_append_right (by omega), List.getElem?_drop]
      rw [show off + l.length + (k - off - l.length) = k by omega]
      simp
  · rw [if_neg (by omega), List.getElem?_append_left (by omega)]
    simp [show k < off from by omega]

theorem fill_consV (place : Nat → Option (Nat × Nat)) (cells : Array Value) (x : Nat × Value) (rest : List (Nat × Value)) (c : Array Value) (h : Instr.fill place cells [x] = some c) : Instr.fill place cells (x :: rest) = Instr.fill place c rest := by
  obtain ⟨i, v⟩ := x
  unfold Instr.fill at h ⊢
  cases hp : place i with
  | none => simp [hp] at h
  | some p =>
    obtain ⟨off, n⟩ := p
    simp only [hp] at h ⊢
    split at h
    · cases h
    · rename_i hc
      rw [if_neg hc]
      simp only [Instr.fill] at h
      injection h with h
      rw [h]
      conv => lhs; unfold Instr.fill

theorem info_partsV {α γ : Type} {P : Program} {t : TypeId} {z : α} {s b : γ} {f : TypeInfo → Option α} {g k : TypeInfo → γ} (h : (P.info? t).map (fun i => (f i, g i, k i)) = some (some z, s, b)) : ∃ i, P.info? t = some i ∧ f i = some z ∧ g i = s ∧ k i = b := by
  cases hi : P.info? t with
  | none => rw [hi] at h; cases h
  | some i =>
    rw [hi] at h
    simp only [Option.map_some, Option.some.injEq, Prod.mk.injEq] at h
    exact ⟨i, rfl, h.1, h.2.1, h.2.2⟩

theorem flat_at {α : Type} {k : Nat} {f : α → List Value} {xs : List α} (h : ∀ x ∈ xs, (f x).length = k) {i : Nat} {x : α} (hi : xs[i]? = some x) (j : Nat) (v : Value) (hj : (f x)[j]? = some v) : (xs.flatMap f)[i * k + j]? = some v := by
  induction xs generalizing i with
  | nil => simp at hi
  | cons y xs ih =>
    have hl := h y List.mem_cons_self
    rw [List.flatMap_cons]
    cases i with
    | zero =>
      simp at hi
      subst hi
      rw [Nat.zero_mul, Nat.zero_add, List.getElem?_append_left (List.getElem?_eq_some_iff.1 hj).1]
      exact hj
    | succ i =>
      have := ih (fun x hx => h x (List.mem_cons_of_mem _ hx)) (i := i) (by simpa using hi)
      rw [List.getElem?_append_right (by rw [hl]; rw [Nat.succ_mul]; omega), hl, show (i + 1) * k + j - k = i * k + j by rw [Nat.succ_mul]; omega]
      exact this

theorem secAll : (Try.prog.info? 49).map (fun i => (i.zero, i.size, i.bytes)) = some (some (.agg (Lib.byteCells zero64).toArray), 64, 64) := by kernel_rfl
theorem fill_two (A B : List Value) (hA : A.length = 64) (hB : B.length = 64) (cells : Array Value) (hc : cells.size = 128) : Instr.fill (fun i => some (i * 64, 64)) cells [(0, .agg A.toArray), (1, .agg B.toArray)] = some (A ++ B).toArray := by
  have h1 := fill_midV (fun i => some (i * 64, 64)) cells 0 0 A (by rw [hA]) (by omega)
  rw [fill_consV _ _ _ _ _ h1]
  obtain ⟨X, hX⟩ : ∃ X, cells.toList.drop (0 + A.length) = X := ⟨_, rfl⟩
  have hXl : X.length = 64 := by rw [← hX, List.length_drop, Array.length_toList]; omega
  rw [hX, List.take_zero, List.nil_append]
  have h2 := fill_midV (fun i => some (i * 64, 64)) (A ++ X).toArray 1 64 B (by rw [hB]) (by rw [List.size_toArray, List.length_append]; omega)
  rw [h2]
  congr 2
  have e1 : (A ++ X).toArray.toList.take 64 = A := by
    show (A ++ X).take 64 = A
    rw [← hA, List.take_left]
  have e2 : (A ++ X).toArray.toList.drop (64 + B.length) = [] := List.drop_eq_nil_of_le (by show (A ++ X).length ≤ _; rw [List.length_append]; omega)
  rw [e1, e2, List.append_nil]
/-- '[]api.Sector{a, b}'. -/
theorem wpList_build_two {ops : Array Oper} {rest : List Oper} {o : Oper} {a : Act} {w : World} {Q : Exit → Act → World → Prop} (hg : o.guard = none) (x y : Operand) (ho : o.op = .buildSlice 53 2 #[(0, x), (1, y)]) (A B : List Value) (hA : A.length = 64) (hB : B.length = 64) (hx : a.eval x = .agg A.toArray) (hy : a.eval y = .agg B.toArray)
    (h : wpList Try.prog ops Q rest (a.put o.dst (.slice (some ⟨w.heap.size, 0, none⟩) 2 2)) (w.alloc (.cells (A ++ B).toArray 49))) : wpList Try.prog ops Q (o :: rest) a w :=
  wpList_plain hg fun _ hK => by
    obtain ⟨i0, hi, hz0, hz1, hz2⟩ := info_partsV secAll
    refine wp_buildSlice 53 49 2 #[(0, x), (1, y)] ho (A ++ B).toArray i0 _ Try.underlying53 hi hz0 (by rw [hz1]; decide) (by rw [hz1]; decide) ?_ (hK _ _ h)
    rw [hz1]
    simp only [List.map_toArray, List.map_cons, List.map_nil, hx, hy]
    exact fill_two A B hA hB _ (by simp)

/-- Sectors, as cells. -/
def wantC (S : List (List UInt8)) : List Value := S.flatMap Lib.byteCells
theorem want_two (a b : List UInt8) : Lib.byteCells a ++ Lib.byteCells b = wantC [a, b] := by simp [wantC]
theorem want_range {w : World} {g : Nat} {S : List (List UInt8)} (h : Arr w g 49 (wantC S)) (h64 : ∀ s ∈ S, s.length = 64) {i : Nat} (hi : i < S.length) {SL : List Value} (hSL : SL = Lib.byteCells (S.getD i [])) : w.rangeAt g (i * 64) SL := fun j v hj => by
  rw [h.cell]
  exact flat_at (k := 64) (f := Lib.byteCells) (fun x hx => by rw [Lib.byteCells_length]; exact h64 x hx) (x := S.getD i []) (by simp [List.getD, hi]) j v (by rw [← hSL]; exact hj)
theorem want_set {x : List UInt8} (hx : x.length = 64) : ∀ (S : List (List UInt8)) (i : Nat), (∀ s ∈ S, s.length = 64) → i < S.length → (wantC S).take (i * 64) ++ (Lib.byteCells x ++ (wantC S).drop (i * 64 + (Lib.byteCells x).length)) = wantC (S.set i x)
  | [], i, _, hi => by simp at hi
  | y :: S, i, h, hi => by
    have hy : (Lib.byteCells y).length = 64 := by rw [Lib.byteCells_length]; exact h y List.mem_cons_self
    have hxl : (Lib.byteCells x).length = 64 := by rw [Lib.byteCells_length]; exact hx
    have hc : wantC (y :: S) = Lib.byteCells y ++ wantC S := by unfold wantC; rw [List.flatMap_cons]
    rw [hc, hxl]
    cases i with
    | zero =>
      rw [Nat.zero_mul, List.take_zero, List.nil_append, Nat.zero_add, ← hy, List.drop_left, List.set_cons_zero]
      unfold wantC
      rw [List.flatMap_cons]
    | succ i =>
      have ih := want_set hx S i (fun s hs => h s (List.mem_cons_of_mem _ hs)) (by simpa using hi)
      rw [hxl] at ih
      rw [List.take_append, List.drop_append, hy, List.take_of_length_le (by rw [hy, Nat.succ_mul]; omega), List.drop_eq_nil_of_le (by rw [hy, Nat.succ_mul]; omega), List.nil_append, show (i + 1) * 64 - 64 = i * 64 by rw [Nat.succ_mul]; omega, show (i + 1) * 64 + 64 - 64 = i * 64 + 64 by rw [Nat.succ_mul]; omega, List.append_assoc, ih, List.set_cons_succ]
      unfold wantC
      rw [List.flatMap_cons]
theorem want_length {S : List (List UInt8)} (h : ∀ s ∈ S, s.length = 64) : (wantC S).length = S.length * 64 := by
  induction S with
  | nil => rfl
  | cons y S ih =>
    unfold wantC at *
    rw [List.flatMap_cons, List.length_append, ih (fun s hs => h s (List.mem_cons_of_mem _ hs)), Lib.byteCells_length, h y List.mem_cons_self, List.length_cons]
    omega
/-- What the law has found in the slots from one on. -/
def fAt (S : List (List UInt8)) (dg : List UInt8) (m : Nat) : RefF × Bool :=
  if m ≤ 0 ∧ (tellF (S.getD 0 [])).2 = true ∧ (tellF (S.getD 0 [])).1.d = dg then ((tellF (S.getD 0 [])).1, true)
  else if m ≤ 1 ∧ (tellF (S.getD 1 [])).2 = true ∧ (tellF (S.getD 1 [])).1.d = dg then ((tellF (S.getD 1 [])).1, true) else (zR, false)
theorem fAt_two (S : List (List UInt8)) (dg : List UInt8) : fAt S dg 2 = (zR, false) := by unfold fAt; rw [if_neg (by omega), if_neg (by omega)]
theorem fAt_step (S : List (List UInt8)) (dg : List UInt8) {m : Nat} (hm : m < 2) : fAt S dg m = if (tellF (S.getD m [])).2 = true ∧ (tellF (S.getD m [])).1.d = dg then ((tellF (S.getD m [])).1, true) else fAt S dg (m + 1) := by
  have h : m = 0 ∨ m = 1 := by omega
  rcases h with rfl | rfl
  · unfold fAt
    simp
  · unfold fAt
    simp
theorem fAt_find (S : List (List UInt8)) (dg : List UInt8) : (fAt S dg 0).1 = (findF S dg).1 ∧ ((fAt S dg 0).2 = true → (findF S dg).2 = 0) ∧ ((fAt S dg 0).2 = false → (findF S dg).2 = 7) := by
  unfold fAt findF
  by_cases h0 : (tellF (S.getD 0 [])).2 = true ∧ (tellF (S.getD 0 [])).1.d = dg
  · rw [if_pos ⟨Nat.le_refl _, h0⟩, if_pos h0]
    exact ⟨rfl, fun _ => rfl, fun h => (by cases h)⟩
  · rw [if_neg (fun h => h0 h.2), if_neg h0]
    by_cases h1 : (tellF (S.getD 1 [])).2 = true ∧ (tellF (S.getD 1 [])).1.d = dg
    · rw [if_pos ⟨by omega, h1⟩, if_pos h1]
      exact ⟨rfl, fun _ => rfl, fun h => (by cases h)⟩
    · rw [if_neg (fun h => h1 h.2), if_neg h1]
      exact ⟨rfl, fun h => (by cases h), fun _ => rfl⟩

end Go.Proofs.Ytkepfigoeaheaaa

namespace Go.Proofs.Ytkepfigoeaheaaa
open Go.RowKit
set_option linter.unusedVariables false
set_option linter.unusedSimpArgs false


theorem SDk.kept {F : Nat → Prop} {w w' : World} {k n : Nat} {S : List (List UInt8)} {W : List WrF} (h : SDk F w k n S W) (hs : w.heap.size ≤ w'.heap.size) (hb : ∀ b, F b → w'.heap[b]? = w.heap[b]?) : SDk F w' k n S W := by
  obtain ⟨L, h⟩ := h
  exact ⟨L, h.kept hs hb⟩
/-- The boxes of the law. -/
structure BX (w : World) (gr gd : Nat) (RL GL : List Value) (wr : World) : Prop where
  b : Below w.heap.size w wr
  r : Arr wr gr 26 RL
  d : Arr wr gd 24 GL
  p : w.heap.size ≤ gr ∧ gr < gd
theorem BX.up {w : World} {gr gd : Nat} {RL GL : List Value} {wr w' : World} (h : BX w gr gd RL GL wr) (hb : Below wr.heap.size wr w') : BX w gr gd RL GL w' := ⟨h.b.trans (hb.mono h.b.size), h.r.up hb, h.d.up hb, h.p⟩
theorem BX.only {w : World} {gr gd : Nat} {RL GL : List Value} {wr w' : World} {R : Nat → Prop} (h : BX w gr gd RL GL wr) (hO : Only R wr w') (hR : ∀ b, R b → gd < b) : BX w gr gd RL GL w' :=
  ⟨h.b.trans (hO.below h.b.size (fun b hb => by have := hR b hb; have := h.p; omega)), h.r.only hO (fun hr => by have := hR _ hr; have := h.p; omega), h.d.only hO (fun hr => by have := hR _ hr; omega), h.p⟩
/-- The law's state between two rounds: what is wanted, and the disk. -/
structure TQ (w : World) (gr gd gw k : Nat) (RL GL : List Value) (Sw Sd : List (List UInt8)) (F : Nat → Prop) (j : Nat) (wr : World) : Prop where
  x : BX w gr gd RL GL wr
  a : Arr wr gw 49 (wantC Sw)
  l : Sw.length = 2 ∧ ∀ s ∈ Sw, s.length = 64
  dk : ∃ W, W.length ≤ 2 + j ∧ SDk F wr k 2 Sd W
  f : ∀ b, F b → gd < b
  g : ¬ F gw
  o : gd < gw
theorem TQ.up {w : World} {gr gd gw k : Nat} {RL GL : List Value} {Sw Sd : List (List UInt8)} {F : Nat → Prop} {j : Nat} {wr w' : World} (h : TQ w gr gd gw k RL GL Sw Sd F j wr) (hb : Below wr.heap.size wr w') : TQ w gr gd gw k RL GL Sw Sd F j w' := by
  obtain ⟨W, hW, hk⟩ := h.dk
  exact ⟨h.x.up hb, h.a.up hb, h.l, ⟨W, hW, hk.up hb⟩, h.f, h.g, h.o⟩
theorem TQ.write {w : World} {gr gd gw k : Nat} {RL GL : List Value} {S : List (List UInt8)} {F : Nat → Prop} {j : Nat} {wr : World} (h : TQ w gr gd gw k RL GL S S F j wr) (hj : j ≤ 2) (ep : Nat) (hep : ep < 18446744073709551616) (r : RefF) (hr : RefW r) (DL : List Value) (hDL : DL = rC r) :
    Calls Try.prog 25 #[.pointer (some ⟨k, 0, none⟩), .int .u64 (ep : Nat), .agg DL.toArray] wr fun e w' => ∃ F', (OkR r ∧ e = .returned (.int .i64 0) ∧ TQ w gr gd gw k RL GL S (S.set (ep % 2) (layR r)) F' (j + 1) w') ∨ (¬ OkR r ∧ e = .returned (.int .i64 1) ∧ TQ w gr gd gw k RL GL S S F' (j + 1) w') := by
  obtain ⟨W, hW, hk⟩ := h.dk
  refine Calls.mono (swr_any F k 2 S W wr hk (by omega) ep hep r hr DL hDL (by omega)) ?_
  rintro e w' ⟨hO, hres⟩
  refine ⟨newF F wr w', ?_⟩
  have hx := h.x.only hO h.f
  have ha := h.a.only hO h.g
  have hf : ∀ b, newF F wr w' b → gd < b := fun b hb => hb.elim (h.f b) (fun hb => Nat.lt_of_lt_of_le h.x.d.lt hb.1)
  have hg : ¬ newF F wr w' gw := fun hb => hb.elim h.g (fun hb => by have := h.a.lt; omega)
  rcases hres with ⟨h1, h2, h3⟩ | ⟨h1, h2, h3⟩
  · exact .inl ⟨h1, h2, hx, ha, h.l, ⟨_, by simp; omega, h3⟩, hf, hg, h.o⟩
  · exact .inr ⟨h1, h2, hx, ha, h.l, ⟨_, by omega, h3⟩, hf, hg, h.o⟩
theorem TQ.set {w : World} {gr gd gw k : Nat} {RL GL : List Value} {Sw Sd : List (List UInt8)} {F : Nat → Prop} {j : Nat} {wr : World} (h : TQ w gr gd gw k RL GL Sw Sd F j wr) {i : Nat} (hi : i < 2) {x : List UInt8} (hx : x.length = 64) {XL : List Value} (hXL : XL = Lib.byteCells x) : TQ w gr gd gw k RL GL (Sw.set i x) Sd F j (wr.setCells gw (i * 64) XL) := by
  subst hXL
  obtain ⟨W, hW, hk⟩ := h.dk
  have hO : Only (fun b => b = gw) wr (wr.setCells gw (i * 64) (Lib.byteCells x)) := Only.setIn (R := fun b => b = gw) rfl _ _ _ (Only.refl _ wr)
  refine ⟨h.x.only hO (by rintro b rfl; exact h.o), ?_, ⟨by rw [List.length_set]; exact h.l.1, fun s hs => (List.mem_or_eq_of_mem_set hs).elim (h.l.2 s) (fun e => e ▸ hx)⟩, ⟨W, hW, hk.kept hO.size (fun b hb => hO.block b (hk.lt b hb) (fun e => h.g (e ▸ hb)))⟩, h.f, h.g, h.o⟩
  rw [← want_set hx Sw i h.l.2 (by rw [h.l.1]; exact hi)]
  exact Arr.setIn _ _ _ _ h.a (by rw [want_length h.l.2, h.l.1, Lib.byteCells_length, hx]; omega)
theorem TQ.there {w : World} {gr gd gw k : Nat} {RL GL : List Value} {Sw Sd : List (List UInt8)} {F : Nat → Prop} {j : Nat} {wr : World} (h : TQ w gr gd gw k RL GL Sw Sd F j wr) {i : Nat} (hi : i < 2) : wr.there gw (i * 64) 64 := fun q hq => by
  refine ⟨?_, h.a.frozen _⟩
  have hl : (wantC Sw).length = 128 := by rw [want_length h.l.2, h.l.1]
  rw [h.a.cell, List.getElem?_eq_getElem (by omega)]
  rfl

end Go.Proofs.Ytkepfigoeaheaaa

namespace Go.Proofs.Ytkepfigoeaheaaa
open Go.RowKit
set_option linter.unusedVariables false
set_option linter.unusedSimpArgs false


theorem TQ.read {w : World} {gr gd gw k : Nat} {RL GL : List Value} {Sw S : List (List UInt8)} {F : Nat → Prop} {j : Nat} {wr : World} (h : TQ w gr gd gw k RL GL Sw S F j wr) {q : Nat} (hq : q < 2) (T : RefF × Bool) (hT : T = tellF (S.getD q [])) (TL : List Value) (hTL : TL = rC T.1) :
    Calls Try.prog 23 #[.pointer (some ⟨k, 0, none⟩), .int .i64 (q : Nat)] wr fun e w' => e = .returned (.tuple #[.agg TL.toArray, .bool T.2]) ∧ Below wr.heap.size wr w' := by
  obtain ⟨W, _, hk⟩ := h.dk
  exact srd_yes F k 2 q S W wr hk hq hq T hT TL hTL
theorem TQ.find {w : World} {gr gd gw k : Nat} {RL GL : List Value} {Sw S : List (List UInt8)} {F : Nat → Prop} {j : Nat} {wr : World} (h : TQ w gr gd gw k RL GL Sw S F j wr) (dg : List UInt8) (hdg : dg.length = 32) (hGL : GL = Lib.byteCells dg) (T : RefF × Int) (hT : T = findF S dg) (TL : List Value) (hTL : TL = rC T.1) :
    Calls Try.prog 24 #[.pointer (some ⟨k, 0, none⟩), .agg GL.toArray] wr fun e w' => e = .returned (.tuple #[.agg TL.toArray, .int .i64 T.2]) ∧ Below wr.heap.size wr w' := by
  obtain ⟨W, _, hk⟩ := h.dk
  exact sfind_any F k 2 S W wr hk (by omega) dg hdg GL hGL T hT TL hTL
/-- What slots.Read answers at any slot. -/
theorem TQ.readAny {w : World} {gr gd gw k : Nat} {RL GL : List Value} {Sw S : List (List UInt8)} {F : Nat → Prop} {j : Nat} {wr : World} (h : TQ w gr gd gw k RL GL Sw S F j wr) (sl : Int) : ∃ T : RefF × Bool, RefW T.1 ∧ (T.2 = true → sl = 0 ∨ sl = 1) ∧
    Calls Try.prog 23 #[.pointer (some ⟨k, 0, none⟩), .int .i64 sl] wr fun e w' => e = .returned (.tuple #[.agg (rC T.1).toArray, .bool T.2]) ∧ Below wr.heap.size wr w' := by
  by_cases h2 : sl < 0 ∨ 2 ≤ sl
  · obtain ⟨W, _, hk⟩ := h.dk
    exact ⟨(zR, false), ⟨rfl, by unfold I64 zR; decide, by unfold I64 zR; decide⟩, fun h => (by cases h), srd_no F k 2 sl S W wr hk h2⟩
  · obtain ⟨q, rfl⟩ := Int.eq_ofNat_of_zero_le (show 0 ≤ sl by omega)
    exact ⟨_, (tell_w _).1, fun _ => by omega, h.read (show q < 2 by omega) _ rfl _ rfl⟩
theorem TQ.sec {w : World} {gr gd gw k : Nat} {RL GL : List Value} {Sw S : List (List UInt8)} {F : Nat → Prop} {j : Nat} {wr : World} (h : TQ w gr gd gw k RL GL Sw S F j wr) {q : Nat} (hq : q < 2) : (Sw.getD q []).length = 64 := h.l.2 _ (by simp [List.getD, show q < Sw.length by rw [h.l.1]; exact hq])

theorem fAt_w (S : List (List UInt8)) (dg : List UInt8) (m : Nat) : RefW (fAt S dg m).1 := by
  unfold fAt
  split
  · exact (tell_w _).1
  · split
    · exact (tell_w _).1
    · exact ⟨rfl, by unfold I64 zR; decide, by unfold I64 zR; decide⟩

set_option maxHeartbeats 16000000 in
set_option maxRecDepth 100000 in
theorem stold_walk (ep : Nat) (hep : ep < 18446744073709551616) (dr : List UInt8) (ra0 rn0 : Int) (hdr : dr.length = 32) (ha1 : -9223372036854775808 ≤ ra0) (ha2 : ra0 ≤ 9223372036854775807) (hn1 : -9223372036854775808 ≤ rn0) (hn2 : rn0 ≤ 9223372036854775807)
    (sa sb : List UInt8) (hsa : sa.length = 64) (hsb : sb.length = 64) (dg : List UInt8) (hdg : dg.length = 32) (sl : Int) (w : World) :
    Calls Try.prog 6 #[.int .u64 (ep : Nat), .agg (refC dr ra0 rn0).toArray, .agg (Lib.byteCells sa).toArray, .agg (Lib.byteCells sb).toArray, .agg (Lib.byteCells dg).toArray, .int .i64 sl] w fun e w' => e = .returned (.bool true) ∧ Below w.heap.size w w' := by
  obtain ⟨r, hr⟩ : ∃ r : RefF, r = ⟨dr, ra0, rn0⟩ := ⟨_, rfl⟩
  have hwr : RefW r := by rw [hr]; exact ⟨hdr, ⟨ha1, ha2⟩, ⟨hn1, hn2⟩⟩
  obtain ⟨RL, hRL⟩ : ∃ z, z = rC r := ⟨_, rfl⟩
  have eR : refC dr ra0 rn0 = RL := by rw [hRL, hr]; rfl
  obtain ⟨AL, hAL⟩ : ∃ z, Lib.byteCells sa = z := ⟨_, rfl⟩
  obtain ⟨BL, hBL⟩ : ∃ z, Lib.byteCells sb = z := ⟨_, rfl⟩
  obtain ⟨GL, hGL⟩ : ∃ z, Lib.byteCells dg = z := ⟨_, rfl⟩
  rw [eR, hAL, hBL, hGL]
  clear eR hr hdr ha1 ha2 hn1 hn2
  obtain ⟨W1, hW1⟩ : ∃ z, z = w.alloc (.cells RL.toArray 26) := ⟨_, rfl⟩
  obtain ⟨W2, hW2⟩ : ∃ z, z = W1.alloc (.cells AL.toArray 49) := ⟨_, rfl⟩
  obtain ⟨W3, hW3⟩ : ∃ z, z = W2.alloc (.cells BL.toArray 49) := ⟨_, rfl⟩
  obtain ⟨W4, hW4⟩ : ∃ z, z = W3.alloc (.cells GL.toArray 24) := ⟨_, rfl⟩
  have hb1 : Below w.heap.size w W1 := by rw [hW1]; exact (Below.refl _ _).alloc (Nat.le_refl _) _
  have hb2 : Below W1.heap.size W1 W2 := by rw [hW2]; exact (Below.refl _ _).alloc (Nat.le_refl _) _
  have hb3 : Below W2.heap.size W2 W3 := by rw [hW3]; exact (Below.refl _ _).alloc (Nat.le_refl _) _
  have hb4 : Below W3.heap.size W3 W4 := by rw [hW4]; exact (Below.refl _ _).alloc (Nat.le_refl _) _
  have z1 : W1.heap.size = w.heap.size + 1 := by rw [hW1]; simp
  have z2 : W2.heap.size = w.heap.size + 2 := by rw [hW2]; simp; omega
  have z3 : W3.heap.size = w.heap.size + 3 := by rw [hW3]; simp; omega
  have hR1 : Arr W1 w.heap.size 26 RL := by rw [hW1]; exact Arr.new w _ _
  have hA2 : Arr W2 W1.heap.size 49 AL := by rw [hW2]; exact Arr.new W1 _ _
  have hB3 : Arr W3 W2.heap.size 49 BL := by rw [hW3]; exact Arr.new W2 _ _
  have hG4 : Arr W4 W3.heap.size 24 GL := by rw [hW4]; exact Arr.new W3 _ _
  have hR4 := ((hR1.up hb2).up hb3).up hb4
  have hA4 := (hA2.up hb3).up hb4
  have hB4 := hB3.up hb4
  have hb : Below w.heap.size w W4 := (hb1.trans (hb2.mono (by omega))).trans ((hb3.mono (by omega)).trans (hb4.mono (by omega)))
  obtain ⟨gr, hgr⟩ : ∃ z, w.heap.size = z := ⟨_, rfl⟩
  obtain ⟨ga, hga⟩ : ∃ z, W1.heap.size = z := ⟨_, rfl⟩
  obtain ⟨gb, hgb⟩ : ∃ z, W2.heap.size = z := ⟨_, rfl⟩
  obtain ⟨gd, hgd⟩ : ∃ z, W3.heap.size = z := ⟨_, rfl⟩
  rw [hga] at hA4
  rw [hgb] at hB4
  rw [hgd] at hG4
  rw [hgr] at hR4
  have HW := Lib.hid (show W4 = (((w.alloc (.cells RL.toArray 26)).alloc (.cells AL.toArray 49)).alloc (.cells BL.toArray 49)).alloc (.cells GL.toArray 24) by rw [hW4, hW3, hW2, hW1])
  have Hg := Lib.hid (show w.heap.size = gr ∧ w.heap.size + 1 = ga ∧ w.heap.size + 1 + 1 = gb ∧ w.heap.size + 1 + 1 + 1 = gd from ⟨hgr, by omega, by omega, by omega⟩)
  have HX4 := Lib.hid (show BX w gr gd RL GL W4 from ⟨hb, hR4, hG4, by omega⟩)
  have HA4 := Lib.hid hA4
  have HB4 := Lib.hid hB4
  have Hgs := Lib.hid (show ga < gd ∧ gb < gd ∧ gr < gd by omega)
  obtain ⟨ZL, hZL⟩ : ∃ z, z = refZ := ⟨_, rfl⟩
  obtain ⟨ZS, hZS⟩ : ∃ z, z = Lib.byteCells zero64 := ⟨_, rfl⟩
  have hAl : AL.length = 64 := by rw [← hAL, Lib.byteCells_length]; exact hsa
  have hBl : BL.length = 64 := by rw [← hBL, Lib.byteCells_length]; exact hsb
  have HAl := Lib.hid hAl
  have HBl := Lib.hid hBl
  have HAn := Lib.hid (show (Try.prog.info? 49).map (·.size) = some AL.length by rw [hAl]; exact secInfo)
  have HBn := Lib.hid (show (Try.prog.info? 49).map (·.size) = some BL.length by rw [hBl]; exact secInfo)
  have HAi := Lib.hid (show (Try.prog.info? 49).map (·.size) = some AL.toArray.size by rw [List.size_toArray, hAl]; exact secInfo)
  have HBi := Lib.hid (show (Try.prog.info? 49).map (·.size) = some BL.toArray.size by rw [List.size_toArray, hBl]; exact secInfo)
  have HRn := Lib.hid (show (Try.prog.info? 26).map (·.size) = some RL.toArray.size by rw [List.size_toArray, hRL, rC_length hwr]; exact refSize)
  have HGn := Lib.hid (show (Try.prog.info? 24).map (·.size) = some GL.length by rw [← hGL, Lib.byteCells_length, hdg]; exact digInfo)
  have HZi := Lib.hid (show (Try.prog.info? 26).map (·.size) = some ZL.toArray.size by rw [hZL]; exact refSize)
  have HZ1 := Lib.hid (show ZL.toArray.all (·.oneCell') = true by rw [hZL]; exact all_oneC (refC_cell _ _ _))
  obtain ⟨YL, hYL⟩ : ∃ z, z = refZ := ⟨_, rfl⟩
  have HYL := Lib.hid hYL
  have HZp := Lib.hid (show (Try.prog.info? 26).map (·.size) = some YL.toArray.size ∧ ZL.toArray.size = YL.toArray.size by rw [hYL, hZL]; exact ⟨refSize, rfl⟩)
  have HY1 := Lib.hid (show YL.toArray.all (·.oneCell') = true by rw [hYL]; exact all_oneC (refC_cell _ _ _))
  have HYb := Lib.hid (show Try.prog.built 26 [] = some YL.toArray by rw [hYL]; exact ref_built0)
  clear hYL
  have HZb := Lib.hid (show Try.prog.built 26 [] = some ZL.toArray by rw [hZL]; exact ref_built0)
  have HZ0 := Lib.hid (fun w : World => show (zeroValue 26).run Try.prog w = .ok (.agg ZL.toArray) w by rw [hZL]; exact refZero w)
  have HZS0 := Lib.hid (fun w : World => show (zeroValue 49).run Try.prog w = .ok (.agg ZS.toArray) w by rw [hZS]; kernel_rfl)
  have HZL := Lib.hid hZL
  have HZS := Lib.hid hZS
  have HRL := Lib.hid hRL
  have HGL := Lib.hid hGL.symm
  have HAL := Lib.hid hAL.symm
  have HBL := Lib.hid hBL.symm
  have Hwr := Lib.hid hwr
  have Hsa := Lib.hid hsa
  have Hsb := Lib.hid hsb
  have Hdg := Lib.hid hdg
  have Hep := Lib.hid hep
  clear hW1 hW2 hW3 hW4 hb1 hb2 hb3 hb4 z1 z2 z3 hR1 hA2 hB3 hG4 hR4 hA4 hB4 hb hgr hga hgb hgd hZL hZS hRL hGL hAL hBL hwr hsa hsb hdg hep hAl hBl
  go_enter Try.func6, Try.ntmps6
  go_wp2_with fail
  rw [← HW.out, Hg.out.2.2.2, Hg.out.2.2.1, Hg.out.2.1, Hg.out.1]
  clear HW
  refine Calls.mono (speaks14_any W4) ?_
  rintro e w5 ⟨rfl, hb5⟩
  have HX5 := Lib.hid (HX4.out.up hb5)
  have HA5 := Lib.hid (HA4.out.up hb5)
  have HB5 := Lib.hid (HB4.out.up hb5)
  clear HX4 HA4 HB4 hb5
  go_wp2_with fail
  refine Calls.mono (show Calls Try.prog 20 #[.int .i64 2] w5 (NewPost 2 w5) from new_yes 2 w5 (by omega) (by omega)) ?_
  rintro e w6 ⟨k, rfl, hD6, hb6⟩
  obtain ⟨F, hF⟩ : ∃ F, F = newF (fun _ => False) w5 w6 := ⟨_, rfl⟩
  have hK6 := sdk_new hD6
  rw [← hF] at hK6
  have HF := Lib.hid (show ∀ b, F b → w5.heap.size ≤ b ∧ b < w6.heap.size from fun b hb => by rw [hF] at hb; exact hb.elim (fun h => h.elim) id)
  have HFd := Lib.hid (show ∀ b, F b → gd < b from fun b hb => Nat.lt_of_lt_of_le HX5.out.d.lt (HF.out b hb).1)
  have HK6 := Lib.hid hK6
  have HX6 := Lib.hid (HX5.out.up hb6)
  have HA6 := Lib.hid (HA5.out.up hb6)
  have HB6 := Lib.hid (HB5.out.up hb6)
  clear hD6 hF hK6 HX5 HA5 HB5 hb6
  obtain ⟨gw, hgw⟩ : ∃ z, z = w6.heap.size := ⟨_, rfl⟩
  have Hgw := Lib.hid hgw
  clear hgw
  have q0 : ((0 : Int) != 0) = false := by simp
  go_upto_region 7 with (first
    | (refine wpList_load_row rfl _ _ rfl ga rfl 49 AL.toArray (0, 0) _ HA6.out Try.underlying49 rfl HAi.out ?_)
    | (refine wpList_load_row rfl _ _ rfl gb rfl 49 BL.toArray (0, 0) _ HB6.out Try.underlying49 rfl HBi.out ?_)
    | (refine wpList_build_two rfl _ _ rfl AL BL HAl.out HBl.out rfl rfl ?_))
  obtain ⟨w7, hw7⟩ : ∃ z, z = w6.alloc (.cells (AL ++ BL).toArray 49) := ⟨_, rfl⟩
  rw [← hw7, ← Hgw.out]
  have hb7 : Below w6.heap.size w6 w7 := by rw [hw7]; exact (Below.refl _ _).alloc (Nat.le_refl _) _
  have HWt7 := Lib.hid (show Arr w7 gw 49 (wantC [sa, sb]) by rw [hw7, Hgw.out, ← want_two, ← HAL.out, ← HBL.out]; exact Arr.new w6 _ _)
  have HK7 := Lib.hid (HK6.out.up hb7)
  have HX7 := Lib.hid (HX6.out.up hb7)
  have HA7 := Lib.hid (HA6.out.up hb7)
  have HB7 := Lib.hid (HB6.out.up hb7)
  have HFw := Lib.hid (show ¬ F gw from fun h => by have := (HF.out gw h).2; have := Hgw.out; omega)
  have Hgdw := Lib.hid (show gd < gw by rw [Hgw.out]; exact HX6.out.d.lt)
  obtain ⟨S0, hS0⟩ : ∃ S0, S0 = List.replicate 2 zero64 := ⟨_, rfl⟩
  rw [← hS0] at HK7
  have HS0 := Lib.hid hS0
  have Hwr1 := Lib.hid (show Calls Try.prog 21 #[.pointer (some ⟨k, 0, none⟩), .int .i64 0, .agg AL.toArray] w7 fun e w' => e = .returned (.int .i64 0) ∧ SDk (newF F w7 w') w' k 2 (S0.set 0 sa) ([] ++ [(0, sa, false)]) ∧ Only F w7 w' from HK7.out.write 0 (by omega) sa Hsa.out AL HAL.out (by simp))
  have HA7r := Lib.hid (show w7.rangeAt ga 0 AL from HA7.out.range)
  clear hw7 hb7 HF HK6 HX6 HA6 HB6 hS0 Hgw
  go_wp2_with (first
    | ((with_reducible refine wpList_at 48 (by rfl) ?_); refine wpList_load_mid_ifC (by rfl) 49 _ rfl ga 0 rfl AL _ HA7r.out Try.underlying49 rfl HAn.out ?_))
  refine Calls.mono Hwr1.out ?_
  rintro e w8 ⟨rfl, hK8, hO8⟩
  have HF8 := Lib.hid (show ∀ b, newF F w7 w8 b → gd < b from fun b hb => hb.elim (HFd.out b) (fun h => Nat.lt_of_lt_of_le HX7.out.d.lt h.1))
  have HF8w := Lib.hid (show ¬ newF F w7 w8 gw from fun hb => hb.elim HFw.out (fun h => by have := HWt7.out.lt; omega))
  have HX8 := Lib.hid (HX7.out.only hO8 HFd.out)
  have HWt8 := Lib.hid (HWt7.out.only hO8 HFw.out)
  have HB8 := Lib.hid (HB7.out.only hO8 (fun h => by have := HFd.out gb h; have := Hgs.out; omega))
  have HK8 := Lib.hid hK8
  have Hwr2 := Lib.hid (show Calls Try.prog 21 #[.pointer (some ⟨k, 0, none⟩), .int .i64 1, .agg BL.toArray] w8 fun e w' => e = .returned (.int .i64 0) ∧ SDk (newF _ w8 w') w' k 2 ((S0.set 0 sa).set 1 sb) (([] ++ [(0, sa, false)]) ++ [(1, sb, false)]) ∧ Only _ w8 w' from HK8.out.write 1 (by omega) sb Hsb.out BL HBL.out (by simp))
  have HB8r := Lib.hid (show w8.rangeAt gb 0 BL from HB8.out.range)
  clear hK8 hO8 HX7 HWt7 HB7 HA7 HA7r HK7 Hwr1
  go_wp2_with (first
    | ((with_reducible refine wpList_at 51 (by rfl) ?_); refine wpList_load_mid_ifC (by rfl) 49 _ rfl gb 0 rfl BL _ HB8r.out Try.underlying49 rfl HBn.out ?_))
  refine Calls.mono Hwr2.out ?_
  rintro e w9 ⟨rfl, hK9, hO9⟩
  have HQ0 := Lib.hid (show TQ w gr gd gw k RL GL [sa, sb] [sa, sb] (newF (newF F w7 w8) w8 w9) 0 w9 from
    ⟨HX8.out.only hO9 HF8.out, HWt8.out.only hO9 HF8w.out, ⟨rfl, fun s hs => by simp at hs; rcases hs with rfl | rfl; exact Hsa.out; exact Hsb.out⟩,
      ⟨([] ++ [(0, sa, false)]) ++ [(1, sb, false)], by simp, by have h := hK9; rw [HS0.out] at h; exact h⟩,
      fun b hb => hb.elim (HF8.out b) (fun h => Nat.lt_of_lt_of_le HX8.out.d.lt h.1),
      fun hb => hb.elim HF8w.out (fun h => by have := HWt8.out.lt; omega), Hgdw.out⟩)
  clear hK9 hO9 HX8 HWt8 HB8 HK8 HF8 HF8w Hwr2 HFd HFw HS0 Hsa Hsb
  go_wp2_with fail
  go_loopw [16] (fun i wr => ∃ (j : Nat) (S : List (List UInt8)) (F : Nat → Prop), j ≤ 2 ∧ i = .int .i64 j ∧ Hid (TQ w gr gd gw k RL GL S S F j wr)) (fun i _ => 2 - (Go.RowKit.intOf i).toNat)
  case atStart => exact ⟨0, _, _, by omega, rfl, HQ0⟩
  case round =>
    clear HQ0
    obtain ⟨j, S, F, hj, rfl, HQ⟩ := hrel
    by_cases hlt : j < 2
    · obtain ⟨wo, hwo⟩ : ∃ z, z = wr := ⟨_, rfl⟩
      rw [← hwo] at HQ ⊢
      clear hwo
      have hd1 : decide ((j : Int) < (2 : Int)) = true := by simp; omega
      have hd1n : decide (j < 2) = true := decide_eq_true hlt
      obtain ⟨g17, hg17⟩ : ∃ z, z = wo.heap.size := ⟨_, rfl⟩
      have Hg17 := Lib.hid hg17
      clear hg17
      go_upto_region 13 with (first
        | (refine wpList_builtD rfl _ _ rfl [] rfl YL.toArray HYb.out ?_)
        | (refine wpList_allocZC rfl 26 rfl ZL.toArray (HZ0.out _) ?_) | (change wpList _ _ _ _ _ (wo.alloc (.cells ZL.toArray 26)); refine wpList_store_row rfl _ _ _ rfl wo.heap.size YL.toArray rfl rfl 26 ZL.toArray (heap_alloc_new wo _) HZp.out.1 HZp.out.2 HY1.out ?_; obtain ⟨w1, hw1⟩ : ∃ x, x = (wo.alloc (.cells ZL.toArray 26)).setRow wo.heap.size YL.toArray := ⟨_, rfl⟩; rw [← hw1]; obtain ⟨hP1, hb1⟩ := alloc_row wo 26 ZL.toArray YL; rw [← hw1] at hP1 hb1; clear hw1))
      rw [← Hg17.out] at hP1 ⊢
      have HB1 := Lib.hid hb1
      have HP1 := Lib.hid (show Arr w1 g17 26 (rC (fAt S dg 2).1) by rw [fAt_two]; show Arr w1 g17 26 (rC zR); rw [rC_zR, ← HYL.out]; exact hP1)
      have HX1 := Lib.hid (show BX w gr gd RL GL w1 from HQ.out.x.up hb1)
      clear hP1 hb1 hd1 hd1n
      go_wp2_with fail
      go_loopw [18, 19] (fun f i wr => ∃ m : Nat, m ≤ 2 ∧ f = .bool (fAt S dg m).2 ∧ i = .int .i64 ((m : Int) - 1) ∧ Hid (Arr wr g17 26 (rC (fAt S dg m).1)) ∧ Hid (Below wo.heap.size wo wr)) (fun _ i _ => (Go.RowKit.intOf i + 1).toNat)
      case atStart => exact ⟨2, Nat.le_refl _, by rw [fAt_two], rfl, HP1, HB1⟩
      case round =>
        clear HP1 HB1 HX1
        obtain ⟨m, hm, rfl, rfl, HP, HB⟩ := hrel
        obtain ⟨fb, hfb⟩ : ∃ z, (fAt S dg m).2 = z := ⟨_, rfl⟩
        rw [hfb]
        have Hfb := Lib.hid hfb
        clear hfb
        have HQx := Lib.hid (HQ.out.up HB.out)
        cases m with
        | zero =>
          have e0 : ((0 : Nat) : Int) - 1 = -1 := rfl
          rw [e0]
          have hff := fAt_find S dg
          obtain ⟨T, hT⟩ : ∃ T, T = findF S dg := ⟨_, rfl⟩
          rw [← hT] at hff
          obtain ⟨TL, hTL⟩ : ∃ z, z = rC T.1 := ⟨_, rfl⟩
          have hTw : RefW T.1 := by rw [← hff.1]; exact fAt_w S dg 0
          have HTw := Lib.hid hTw
          have HPT := Lib.hid (show Arr wr g17 26 TL by rw [hTL, ← hff.1]; exact HP.out)
          have HTi := Lib.hid (show (Try.prog.info? 26).map (·.size) = some TL.toArray.size ∧ ZL.toArray.size = TL.toArray.size by rw [List.size_toArray, List.size_toArray, hTL, rC_length hTw, HZL.out]; exact ⟨refSize, rfl⟩)
          have HTn := Lib.hid (show (Try.prog.info? 26).map (·.size) = some TL.length by rw [hTL, rC_length hTw]; exact refSize)
          have HT1 := Lib.hid (show TL.toArray.all (·.oneCell') = true by rw [hTL]; exact all_oneC (rC_one _))
          have HqT := Lib.hid (ref_eqvS hTw.d hTw.d hTL hTL rfl)
          have HGr := Lib.hid (show wr.rangeAt gd 0 GL from HQx.out.x.d.range)
          have Hf := Lib.hid (HQx.out.find dg Hdg.out HGL.out T hT TL hTL)
          obtain ⟨er, her⟩ : ∃ z, T.2 = z := ⟨_, rfl⟩
          rw [her] at hff Hf
          have Her := Lib.hid (show (fb = true → er = 0) ∧ (fb = false → er = 7) by rw [← Hfb.out]; exact hff.2)
          clear hff hT hTL hTw HP her e0
          go_wp2_with (first | ((with_reducible refine wpList_at 94 (by rfl) ?_); refine wpList_load_mid_ifC (by rfl) 24 _ rfl gd 0 rfl GL _ HGr.out Try.underlying24 rfl HGn.out ?_))
          refine Calls.mono Hf.out ?_
          rintro e w2 ⟨rfl, hb2⟩
          have HB2 := Lib.hid (HB.out.trans (hb2.mono HB.out.size))
          have HP2 := Lib.hid (HPT.out.up hb2)
          obtain ⟨g24, hg24⟩ : ∃ z, z = w2.heap.size := ⟨_, rfl⟩
          have Hg24 := Lib.hid hg24
          clear hb2 hg24 Hf HGr HQx HPT HB
          go_upto_region 23 with (first | (refine wpList_allocZC rfl 26 rfl ZL.toArray (HZ0.out _) ?_) | (change wpList _ _ _ _ _ (w2.alloc (.cells ZL.toArray 26)); refine wpList_store_row rfl _ _ _ rfl w2.heap.size TL.toArray rfl rfl 26 ZL.toArray (heap_alloc_new w2 _) HTi.out.1 HTi.out.2 HT1.out ?_; obtain ⟨w3, hw3⟩ : ∃ x, x = (w2.alloc (.cells ZL.toArray 26)).setRow w2.heap.size TL.toArray := ⟨_, rfl⟩; rw [← hw3]; obtain ⟨hP3, hb3⟩ := alloc_row w2 26 ZL.toArray TL; rw [← hw3] at hP3 hb3; clear hw3))
          rw [← Hg24.out] at hP3 ⊢
          have HB3 := Lib.hid (HB2.out.trans (hb3.mono HB2.out.size))
          have HP3r := Lib.hid (show w3.rangeAt g17 0 TL from (HP2.out.up hb3).range)
          have HY3r := Lib.hid (show w3.rangeAt g24 0 TL from hP3.range)
          have HQ3 := Lib.hid (HQ.out.up HB3.out)
          obtain ⟨T2, hT2w, hT2s, hrd⟩ := HQ3.out.readAny sl
          obtain ⟨UL, hUL⟩ : ∃ z, z = rC T2.1 := ⟨_, rfl⟩
          obtain ⟨tb, htb⟩ : ∃ z, T2.2 = z := ⟨_, rfl⟩
          rw [← hUL, htb] at hrd
          rw [htb] at hT2s
          have Hrd := Lib.hid hrd
          have Hs2 := Lib.hid hT2s
          have HUi := Lib.hid (show (Try.prog.info? 26).map (·.size) = some UL.toArray.size ∧ ZL.toArray.size = UL.toArray.size by rw [List.size_toArray, List.size_toArray, hUL, rC_length hT2w, HZL.out]; exact ⟨refSize, rfl⟩)
          have HU1 := Lib.hid (show UL.toArray.all (·.oneCell') = true by rw [hUL]; exact all_oneC (rC_one _))
          clear hP3 hb3 HB2 HP2 hrd hT2s hUL htb hT2w
          cases fb with
          | true =>
            have he := Her.out.1 rfl
            subst he
            go_upto_region 25 with (first | ((with_reducible refine wpList_at 98 (by rfl) ?_); refine wpList_load_mid_ifC (by rfl) 26 _ rfl g24 0 rfl TL _ HY3r.out Try.underlying26 rfl HTn.out ?_) | ((with_reducible refine wpList_at 99 (by rfl) ?_); refine wpList_load_mid_ifC (by rfl) 26 _ rfl g17 0 rfl TL _ HP3r.out Try.underlying26 rfl HTn.out ?_) | ((with_reducible refine wpList_at 100 (by rfl) ?_); refine wpList_neq_ifC (by rfl) 26 _ _ _ rfl TL TL rfl rfl true HqT.out gtR ?_))
            go_wp2_with fail
            refine Calls.mono Hrd.out ?_
            rintro e w4 ⟨rfl, hb4⟩
            have HB4 := Lib.hid (HB3.out.trans (hb4.mono HB3.out.size))
            obtain ⟨g26, hg26⟩ : ∃ z, z = w4.heap.size := ⟨_, rfl⟩
            have Hg26 := Lib.hid hg26
            clear hb4 hg26 Hrd HP3r HY3r HQ3 HB3
            go_upto_region 26 with (first | (refine wpList_allocZC rfl 26 rfl ZL.toArray (HZ0.out _) ?_) | (change wpList _ _ _ _ _ (w4.alloc (.cells ZL.toArray 26)); refine wpList_store_row rfl _ _ _ rfl w4.heap.size UL.toArray rfl rfl 26 ZL.toArray (heap_alloc_new w4 _) HUi.out.1 HUi.out.2 HU1.out ?_; obtain ⟨w5, hw5⟩ : ∃ x, x = (w4.alloc (.cells ZL.toArray 26)).setRow w4.heap.size UL.toArray := ⟨_, rfl⟩; rw [← hw5]; obtain ⟨hP5, hb5⟩ := alloc_row w4 26 ZL.toArray UL; rw [← hw5] at hP5 hb5; clear hw5))
            rw [← Hg26.out] at hP5 ⊢
            have HB5 := Lib.hid (HB4.out.trans (hb5.mono HB4.out.size))
            have HQ5 := Lib.hid (HQ.out.up HB5.out)
            clear hP5 hb5 HB4
            have Hway := Lib.hid (show tb = false ∨ (tb = true ∧ sl = 0) ∨ (tb = true ∧ sl = 1) by
              cases tb with
              | false => exact .inl rfl
              | true => exact .inr ((Hs2.out rfl).imp (fun h => ⟨rfl, h⟩) (fun h => ⟨rfl, h⟩)))
            rcases Hway.out with h0 | ⟨h0, h1⟩ | ⟨h0, h1⟩
            · subst h0
              go_upto_region 28 with fail
              by_cases hj1 : j = 1
              · have Hbe := Lib.hid HQ5.out.x.b
                have q3 : ((j : Int) == 1) = true := by rw [hj1]; rfl
                have q3n : (j == 1) = true := by rw [hj1]; rfl
                clear hj1
                go_wp2_with fail
                go_ret
                exact ⟨rfl, Hbe.out⟩
              · have q3 : ((j : Int) == 1) = false := by rw [beq_eq_false_iff_ne]; omega
                have q3n : (j == 1) = false := by rw [beq_eq_false_iff_ne]; omega
                have Hj0 := Lib.hid (show j = 0 by omega)
                clear hj1
                go_upto_region 29 with fail
                have HR5r := Lib.hid (show w5.rangeAt gr 0 RL from HQ5.out.x.r.range)
                have HRl := Lib.hid (show (Try.prog.info? 26).map (·.size) = some RL.length from HRn.out)
                have Hw := Lib.hid (HQ5.out.write (by omega) ep Hep.out r Hwr.out RL HRL.out)
                clear q3 q3n HB5
                go_wp2_with (first | ((with_reducible refine wpList_at 134 (by rfl) ?_); refine wpList_load_mid_ifC (by rfl) 26 _ rfl gr 0 rfl RL _ HR5r.out Try.underlying26 rfl HRl.out ?_))
                refine Calls.mono Hw.out ?_
                rintro e w6 ⟨F2, hres⟩
                have Hm6 := Lib.hid (may14_any r Hwr.out RL HRL.out w6)
                obtain ⟨ok, hok⟩ : ∃ z, okR r = z := ⟨_, rfl⟩
                obtain ⟨c, S2, rfl, hQ6, hc⟩ : ∃ (c : Int) (S2 : List (List UInt8)), e = .returned (.int .i64 c) ∧ TQ w gr gd gw k RL GL S S2 F2 (j + 1) w6 ∧ ((ok = true ∧ c = 0 ∧ S2 = S.set (ep % 2) (layR r)) ∨ (ok = false ∧ c = 1 ∧ S2 = S)) := by
                  rcases hres with ⟨h1, h2, h3⟩ | ⟨h1, h2, h3⟩
                  · exact ⟨_, _, h2, h3, .inl ⟨by rw [← hok]; exact okR_iff.2 h1, rfl, rfl⟩⟩
                  · exact ⟨_, _, h2, h3, .inr ⟨by rw [← hok]; cases hz : okR r with | false => rfl | true => exact absurd (okR_iff.1 hz) h1, rfl, rfl⟩⟩
                have HQ6 := Lib.hid hQ6
                have HR6r := Lib.hid (show w6.rangeAt gr 0 RL from hQ6.x.r.range)
                rw [hok] at Hm6
                have Hok := Lib.hid hok
                clear hQ6 hres Hw HR5r hok HQ5
                rcases hc with ⟨rfl, rfl, hS2⟩ | ⟨rfl, rfl, hS2⟩
                · have HS2 := Lib.hid hS2
                  clear hS2
                  go_wp2_with (first | ((with_reducible refine wpList_at 136 (by rfl) ?_); refine wpList_load_mid_ifC (by rfl) 26 _ rfl gr 0 rfl RL _ HR6r.out Try.underlying26 rfl HRl.out ?_))
                  refine Calls.mono Hm6.out ?_
                  rintro e w7 ⟨rfl, hb7⟩
                  have HQ7 := Lib.hid (HQ6.out.up hb7)
                  have HR7r := Lib.hid (show w7.rangeAt gr 0 RL from HQ7.out.x.r.range)
                  have Hm7 := Lib.hid (may14_any r Hwr.out RL HRL.out w7)
                  rw [Hok.out] at Hm7
                  clear hb7 HQ6 HR6r Hm6
                  go_wp2_with (first | ((with_reducible refine wpList_at 142 (by rfl) ?_); refine wpList_load_mid_ifC (by rfl) 26 _ rfl gr 0 rfl RL _ HR7r.out Try.underlying26 rfl HRl.out ?_))
                  refine Calls.mono Hm7.out ?_
                  rintro e w8 ⟨rfl, hb8⟩
                  have HQ8 := Lib.hid (HQ7.out.up hb8)
                  have HR8r := Lib.hid (show w8.rangeAt gr 0 RL from HQ8.out.x.r.range)
                  have Hm8 := Lib.hid (may14_any r Hwr.out RL HRL.out w8)
                  rw [Hok.out] at Hm8
                  clear hb8 HQ7 HR7r Hm7
                  go_upto_region 32 with fail
                  go_wp2_with (first | ((with_reducible refine wpList_at 150 (by rfl) ?_); refine wpList_load_mid_ifC (by rfl) 26 _ rfl gr 0 rfl RL _ HR8r.out Try.underlying26 rfl HRl.out ?_))
                  refine Calls.mono Hm8.out ?_
                  rintro e w9 ⟨rfl, hb9⟩
                  have HQ9 := Lib.hid (HQ8.out.up hb9)
                  have HR9r := Lib.hid (show w9.rangeAt gr 0 RL from HQ9.out.x.r.range)
                  clear hb9 HQ8 HR8r Hm8
                  obtain ⟨p2, hp2⟩ : ∃ a, ep % 2 = a := ⟨_, rfl⟩
                  have hpI : (ep : Int) % 2 = (p2 : Int) := by omega
                  have hpT : (ep : Int).tmod 2 = (p2 : Int) := by rw [Int.tmod_eq_emod_of_nonneg (by omega)]; exact hpI
                  have hpw : IntKind.u64.wrap (p2 : Int) = (p2 : Int) := IntWalk.u64_in _ (by omega)
                  have hpl : p2 < 2 := by omega
                  have hplI : (p2 : Int) < (2 : Int) := by omega
                  rw [hp2] at HS2
                  obtain ⟨LL, hLL⟩ : ∃ z, z = Lib.byteCells (layR r) := ⟨_, rfl⟩
                  have HLL := Lib.hid hLL
                  have HLi := Lib.hid (show (Try.prog.info? 49).map (·.size) = some LL.toArray.size by rw [List.size_toArray, hLL, Lib.byteCells_length, layR_length Hwr.out.d]; exact secInfo)
                  have HL1 := Lib.hid (show LL.toArray.all (·.oneCell') = true by rw [hLL]; exact sec_one _)
                  have HLz := Lib.hid (show LL.toArray.size = 64 by rw [List.size_toArray, hLL, Lib.byteCells_length, layR_length Hwr.out.d])
                  have Hld := Lib.hid (laid_any r Hwr.out RL LL HRL.out hLL w9)
                  clear hLL hp2
                  go_wp2_with (first | ((with_reducible refine wpList_at 155 (by rfl) ?_); refine wpList_load_mid_ifC (by rfl) 26 _ rfl gr 0 rfl RL _ HR9r.out Try.underlying26 rfl HRl.out ?_))
                  refine Calls.mono Hld.out ?_
                  rintro e wa ⟨rfl, hba⟩
                  have HQa := Lib.hid (HQ9.out.up hba)
                  have Hth := Lib.hid (show wa.there gw (p2 * 64) LL.toArray.size by rw [HLz.out]; exact HQa.out.there hpl)
                  clear hba HQ9 HR9r Hld
                  go_upto_region 34 with (first | (refine wpList_store_mid rfl 49 _ _ rfl gw (p2 * 64) LL.toArray rfl rfl Hth.out HLi.out HL1.out ?_))
                  have HQb := Lib.hid (show TQ w gr gd gw k RL GL S2 S2 F2 (j + 1) (wa.setCells gw (p2 * 64) LL) by
                    have h := HQa.out.set hpl (layR_length Hwr.out.d) HLL.out
                    rwa [← HS2.out] at h)
                  obtain ⟨wb, hwb⟩ : ∃ z, z = wa.setCells gw (p2 * 64) LL := ⟨_, rfl⟩
                  rw [← hwb] at HQb
                  try rw [show LL.toArray.toList = LL from rfl]
                  rw [← hwb]
                  clear hwb Hth HQa
                  obtain ⟨wz, hwz⟩ : ∃ z, z = wb := ⟨_, rfl⟩
                  rw [← hwz] at HQb ⊢
                  clear hwz
                  go_wp2_with fail
                  go_loopw [160] (fun x wr => ∃ q : Nat, q ≤ 2 ∧ x = .int .i64 q ∧ Hid (Below wz.heap.size wz wr)) (fun x _ => 2 - (Go.RowKit.intOf x).toNat)
                  case atStart => exact ⟨0, by omega, rfl, Lib.hid (Below.refl _ _)⟩
                  case round =>
                    obtain ⟨q, hq, rfl, HBz⟩ := hrel
                    have HQz := Lib.hid (HQb.out.up HBz.out)
                    by_cases hq2 : q < 2
                    · have hd1 : decide ((q : Int) < (2 : Int)) = true := by simp; omega
                      have hd1n : decide (q < 2) = true := decide_eq_true hq2
                      have hqI : (q : Int) < (2 : Int) := by omega
                      have hqw : IntKind.i64.wrap ((q : Int) + 1) = ((q + 1 : Nat) : Int) := by rw [show (q : Int) + 1 = ((q + 1 : Nat) : Int) by omega]; exact IntWalk.i64_in _ (by omega)
                      obtain ⟨s, hs⟩ : ∃ s, S2.getD q [] = s := ⟨_, rfl⟩
                      have Hsl := Lib.hid (show s.length = 64 by rw [← hs]; exact HQz.out.sec hq2)
                      obtain ⟨QL, hQL⟩ : ∃ z, z = Lib.byteCells s := ⟨_, rfl⟩
                      have HQn := Lib.hid (show (Try.prog.info? 49).map (·.size) = some QL.length by rw [hQL, Lib.byteCells_length, Hsl.out]; exact secInfo)
                      have HQi := Lib.hid (show (Try.prog.info? 49).map (·.size) = some QL.toArray.size ∧ ZS.toArray.size = QL.toArray.size by rw [List.size_toArray, List.size_toArray, hQL, Lib.byteCells_length, Hsl.out, HZS.out]; exact ⟨secInfo, rfl⟩)
                      have HQ1 := Lib.hid (show QL.toArray.all (·.oneCell') = true by rw [hQL]; exact sec_one _)
                      have HqS := Lib.hid (fun w : World => show (Op.equalIn 10000 49 (.agg QL.toArray) (.agg QL.toArray)).run Try.prog w = .ok true w by have h := sec_eqvS Hsl.out Hsl.out hQL hQL w; rwa [decide_eq_true rfl] at h)
                      have Hrd := Lib.hid (show Calls Try.prog 28 #[.pointer (some ⟨k, 0, none⟩), .int .i64 (q : Nat)] wr fun e w' => e = .returned (.tuple #[.agg QL.toArray, .int .i64 0]) ∧ Below wr.heap.size wr w' by
                        obtain ⟨W, _, hk⟩ := HQz.out.dk
                        exact hk.read q hq2 QL (by rw [hs]; exact hQL))
                      have Hwant := Lib.hid (fun (w' : World) (h : TQ w gr gd gw k RL GL S2 S2 F2 (j + 1) w') => show w'.rangeAt gw (q * 64) QL from want_range h.a h.l.2 (by rw [h.l.1]; exact hq2) (by rw [hs]; exact hQL))
                      clear hs hQL
                      go_wp2_with fail
                      refine Calls.mono Hrd.out ?_
                      rintro e wd ⟨rfl, hbd⟩
                      have HBd := Lib.hid (HBz.out.trans (hbd.mono HBz.out.size))
                      obtain ⟨g30, hg30⟩ : ∃ z, z = wd.heap.size := ⟨_, rfl⟩
                      have Hg30 := Lib.hid hg30
                      clear hbd hg30 Hrd HQz HBz
                      go_upto_region 38 with (first | (refine wpList_allocZC rfl 49 rfl ZS.toArray (HZS0.out _) ?_) | (change wpList _ _ _ _ _ (wd.alloc (.cells ZS.toArray 49)); refine wpList_store_row rfl _ _ _ rfl wd.heap.size QL.toArray rfl rfl 49 ZS.toArray (heap_alloc_new wd _) HQi.out.1 HQi.out.2 HQ1.out ?_; obtain ⟨we, hwe⟩ : ∃ x, x = (wd.alloc (.cells ZS.toArray 49)).setRow wd.heap.size QL.toArray := ⟨_, rfl⟩; rw [← hwe]; obtain ⟨hPe, hbe⟩ := alloc_row wd 49 ZS.toArray QL; rw [← hwe] at hPe hbe; clear hwe))
                      rw [← Hg30.out] at hPe ⊢
                      have HBe := Lib.hid (HBd.out.trans (hbe.mono HBd.out.size))
                      have HWr := Lib.hid (Hwant.out we (HQb.out.up HBe.out))
                      have HBf := Lib.hid (Below.dN HBe.out 1)
                      clear hbe HBd Hwant
                      refine wp_region_held_drew (S := fun w' => Arr w' g30 49 QL ∧ w'.rangeAt gw (q * 64) QL) (by kernel_rfl) ⟨Arr.drewN hPe 1, fun j v hj => HWr.out j v hj⟩ (fun hHeld => ?_)
                      refine anyH_take (i := 0) (v := .agg QL.toArray) (some 169) rfl rfl (by kernel_rfl) (by kernel_rfl) (by kernel_rfl) (fun _ _ _ h => h) (yieldsIf_load_mid (by rfl) 49 (.tmp 30) rfl g30 0 rfl QL _ (fun w' h => Arr.range h.1) Try.underlying49 rfl HQn.out) (by assumption) ?_
                      simp only [Act.put, List.setIfInBounds_toArray, List.set_cons_zero, List.set_cons_succ]
                      refine anyH_take (i := 1) (v := .slice (some ⟨gw, 0, none⟩) 2 2) (some 170) rfl rfl (by kernel_rfl) (by kernel_rfl) (by kernel_rfl) (fun _ _ _ h => h) (Or.inl ⟨by rfl, fun _ hw => by rfl⟩) (by assumption) ?_
                      simp only [Act.put, List.setIfInBounds_toArray, List.set_cons_zero, List.set_cons_succ]
                      refine anyH_take (i := 2) (v := .int .i64 (q : Nat)) (some 171) rfl rfl (by kernel_rfl) (by kernel_rfl) (by kernel_rfl) (fun _ _ _ h => h) (Or.inl ⟨by rfl, fun _ hw => by rfl⟩) (by assumption) ?_
                      simp only [Act.put, List.setIfInBounds_toArray, List.set_cons_zero, List.set_cons_succ]
                      refine anyH_take (i := 3) (v := .pointer (some ⟨gw, q * 64, none⟩)) (some 172) rfl rfl (by kernel_rfl) (by kernel_rfl) (by kernel_rfl) (fun _ _ _ h => h) (Or.inl ⟨by rfl, fun _ hw => by go_simp⟩) (by assumption) ?_
                      simp only [Act.put, List.setIfInBounds_toArray, List.set_cons_zero, List.set_cons_succ]
                      refine anyH_take (i := 4) (v := .agg QL.toArray) (some 173) rfl rfl (by kernel_rfl) (by kernel_rfl) (by kernel_rfl) (fun _ _ _ h => h) (yieldsIf_load_mid (by rfl) 49 (.tmp 172) rfl gw (q * 64) rfl QL _ (fun w' h => h.2) Try.underlying49 rfl HQn.out) (by assumption) ?_
                      simp only [Act.put, List.setIfInBounds_toArray, List.set_cons_zero, List.set_cons_succ]
                      refine anyH_take (i := 5) (v := .bool (!true)) (some 174) rfl rfl (by kernel_rfl) (by kernel_rfl) (by kernel_rfl) (fun _ _ _ h => h) (yieldsIf_neqC (by rfl) 49 _ _ _ rfl QL QL rfl rfl true HqS.out gtSec) (by assumption) ?_
                      simp only [Act.put, List.setIfInBounds_toArray, List.set_cons_zero, List.set_cons_succ]
                      refine wpAnyH_done (by kernel_rfl) ?_ _
                      clear hHeld
                      go_wp2_with fail
                      go_roundw
                      case rel => exact ⟨q + 1, by omega, by go_num, HBf⟩
                      case measure => (simp [Go.RowKit.intOf]; try omega)
                    · obtain rfl : q = 2 := by omega
                      have hjw : IntKind.i64.wrap ((j : Int) + 1) = ((j + 1 : Nat) : Int) := by rw [show (j : Int) + 1 = ((j + 1 : Nat) : Int) by omega]; exact IntWalk.i64_in _ (by omega)
                      clear hq2
                      go_wp2_with fail
                      go_roundw
                      case rel => exact ⟨j + 1, S2, F2, by omega, by go_num, HQz⟩
                      case measure => (simp [Go.RowKit.intOf]; try omega)
                · have HS2 := Lib.hid hS2
                  clear hS2
                  go_wp2_with (first | ((with_reducible refine wpList_at 136 (by rfl) ?_); refine wpList_load_mid_ifC (by rfl) 26 _ rfl gr 0 rfl RL _ HR6r.out Try.underlying26 rfl HRl.out ?_))
                  refine Calls.mono Hm6.out ?_
                  rintro e w7 ⟨rfl, hb7⟩
                  have HQ7 := Lib.hid (HQ6.out.up hb7)
                  have HR7r := Lib.hid (show w7.rangeAt gr 0 RL from HQ7.out.x.r.range)
                  have Hm7 := Lib.hid (may14_any r Hwr.out RL HRL.out w7)
                  rw [Hok.out] at Hm7
                  clear hb7 HQ6 HR6r Hm6
                  go_wp2_with (first | ((with_reducible refine wpList_at 142 (by rfl) ?_); refine wpList_load_mid_ifC (by rfl) 26 _ rfl gr 0 rfl RL _ HR7r.out Try.underlying26 rfl HRl.out ?_))
                  refine Calls.mono Hm7.out ?_
                  rintro e w8 ⟨rfl, hb8⟩
                  have HQ8 := Lib.hid (HQ7.out.up hb8)
                  have HR8r := Lib.hid (show w8.rangeAt gr 0 RL from HQ8.out.x.r.range)
                  have Hm8 := Lib.hid (may14_any r Hwr.out RL HRL.out w8)
                  rw [Hok.out] at Hm8
                  clear hb8 HQ7 HR7r Hm7
                  go_upto_region 32 with fail
                  go_wp2_with (first | ((with_reducible refine wpList_at 150 (by rfl) ?_); refine wpList_load_mid_ifC (by rfl) 26 _ rfl gr 0 rfl RL _ HR8r.out Try.underlying26 rfl HRl.out ?_))
                  refine Calls.mono Hm8.out ?_
                  rintro e w9 ⟨rfl, hb9⟩
                  have HQ9 := Lib.hid (HQ8.out.up hb9)
                  have HR9r := Lib.hid (show w9.rangeAt gr 0 RL from HQ9.out.x.r.range)
                  clear hb9 HQ8 HR8r Hm8
                  have HQb := Lib.hid (show TQ w gr gd gw k RL GL S2 S2 F2 (j + 1) w9 by
                    have h := HQ9.out
                    rwa [← HS2.out] at h)
                  clear HQ9 HR9r
                  go_upto_region 34 with fail
                  obtain ⟨wz, hwz⟩ : ∃ z, z = w9 := ⟨_, rfl⟩
                  rw [← hwz] at HQb ⊢
                  clear hwz
                  go_wp2_with fail
                  go_loopw [160] (fun x wr => ∃ q : Nat, q ≤ 2 ∧ x = .int .i64 q ∧ Hid (Below wz.heap.size wz wr)) (fun x _ => 2 - (Go.RowKit.intOf x).toNat)
                  case atStart => exact ⟨0, by omega, rfl, Lib.hid (Below.refl _ _)⟩
                  case round =>
                    obtain ⟨q, hq, rfl, HBz⟩ := hrel
                    have HQz := Lib.hid (HQb.out.up HBz.out)
                    by_cases hq2 : q < 2
                    · have hd1 : decide ((q : Int) < (2 : Int)) = true := by simp; omega
                      have hd1n : decide (q < 2) = true := decide_eq_true hq2
                      have hqI : (q : Int) < (2 : Int) := by omega
                      have hqw : IntKind.i64.wrap ((q : Int) + 1) = ((q + 1 : Nat) : Int) := by rw [show (q : Int) + 1 = ((q + 1 : Nat) : Int) by omega]; exact IntWalk.i64_in _ (by omega)
                      obtain ⟨s, hs⟩ : ∃ s, S2.getD q [] = s := ⟨_, rfl⟩
                      have Hsl := Lib.hid (show s.length = 64 by rw [← hs]; exact HQz.out.sec hq2)
                      obtain ⟨QL, hQL⟩ : ∃ z, z = Lib.byteCells s := ⟨_, rfl⟩
                      have HQn := Lib.hid (show (Try.prog.info? 49).map (·.size) = some QL.length by rw [hQL, Lib.byteCells_length, Hsl.out]; exact secInfo)
                      have HQi := Lib.hid (show (Try.prog.info? 49).map (·.size) = some QL.toArray.size ∧ ZS.toArray.size = QL.toArray.size by rw [List.size_toArray, List.size_toArray, hQL, Lib.byteCells_length, Hsl.out, HZS.out]; exact ⟨secInfo, rfl⟩)
                      have HQ1 := Lib.hid (show QL.toArray.all (·.oneCell') = true by rw [hQL]; exact sec_one _)
                      have HqS := Lib.hid (fun w : World => show (Op.equalIn 10000 49 (.agg QL.toArray) (.agg QL.toArray)).run Try.prog w = .ok true w by have h := sec_eqvS Hsl.out Hsl.out hQL hQL w; rwa [decide_eq_true rfl] at h)
                      have Hrd := Lib.hid (show Calls Try.prog 28 #[.pointer (some ⟨k, 0, none⟩), .int .i64 (q : Nat)] wr fun e w' => e = .returned (.tuple #[.agg QL.toArray, .int .i64 0]) ∧ Below wr.heap.size wr w' by
                        obtain ⟨W, _, hk⟩ := HQz.out.dk
                        exact hk.read q hq2 QL (by rw [hs]; exact hQL))
                      have Hwant := Lib.hid (fun (w' : World) (h : TQ w gr gd gw k RL GL S2 S2 F2 (j + 1) w') => show w'.rangeAt gw (q * 64) QL from want_range h.a h.l.2 (by rw [h.l.1]; exact hq2) (by rw [hs]; exact hQL))
                      clear hs hQL
                      go_wp2_with fail
                      refine Calls.mono Hrd.out ?_
                      rintro e wd ⟨rfl, hbd⟩
                      have HBd := Lib.hid (HBz.out.trans (hbd.mono HBz.out.size))
                      obtain ⟨g30, hg30⟩ : ∃ z, z = wd.heap.size := ⟨_, rfl⟩
                      have Hg30 := Lib.hid hg30
                      clear hbd hg30 Hrd HQz HBz
                      go_upto_region 38 with (first | (refine wpList_allocZC rfl 49 rfl ZS.toArray (HZS0.out _) ?_) | (change wpList _ _ _ _ _ (wd.alloc (.cells ZS.toArray 49)); refine wpList_store_row rfl _ _ _ rfl wd.heap.size QL.toArray rfl rfl 49 ZS.toArray (heap_alloc_new wd _) HQi.out.1 HQi.out.2 HQ1.out ?_; obtain ⟨we, hwe⟩ : ∃ x, x = (wd.alloc (.cells ZS.toArray 49)).setRow wd.heap.size QL.toArray := ⟨_, rfl⟩; rw [← hwe]; obtain ⟨hPe, hbe⟩ := alloc_row wd 49 ZS.toArray QL; rw [← hwe] at hPe hbe; clear hwe))
                      rw [← Hg30.out] at hPe ⊢
                      have HBe := Lib.hid (HBd.out.trans (hbe.mono HBd.out.size))
                      have HWr := Lib.hid (Hwant.out we (HQb.out.up HBe.out))
                      have HBf := Lib.hid (Below.dN HBe.out 1)
                      clear hbe HBd Hwant
                      refine wp_region_held_drew (S := fun w' => Arr w' g30 49 QL ∧ w'.rangeAt gw (q * 64) QL) (by kernel_rfl) ⟨Arr.drewN hPe 1, fun j v hj => HWr.out j v hj⟩ (fun hHeld => ?_)
                      refine anyH_take (i := 0) (v := .agg QL.toArray) (some 169) rfl rfl (by kernel_rfl) (by kernel_rfl) (by kernel_rfl) (fun _ _ _ h => h) (yieldsIf_load_mid (by rfl) 49 (.tmp 30) rfl g30 0 rfl QL _ (fun w' h => Arr.range h.1) Try.underlying49 rfl HQn.out) (by assumption) ?_
                      simp only [Act.put, List.setIfInBounds_toArray, List.set_cons_zero, List.set_cons_succ]
                      refine anyH_take (i := 1) (v := .slice (some ⟨gw, 0, none⟩) 2 2) (some 170) rfl rfl (by kernel_rfl) (by kernel_rfl) (by kernel_rfl) (fun _ _ _ h => h) (Or.inl ⟨by rfl, fun _ hw => by rfl⟩) (by assumption) ?_
                      simp only [Act.put, List.setIfInBounds_toArray, List.set_cons_zero, List.set_cons_succ]
                      refine anyH_take (i := 2) (v := .int .i64 (q : Nat)) (some 171) rfl rfl (by kernel_rfl) (by kernel_rfl) (by kernel_rfl) (fun _ _ _ h => h) (Or.inl ⟨by rfl, fun _ hw => by rfl⟩) (by assumption) ?_
                      simp only [Act.put, List.setIfInBounds_toArray, List.set_cons_zero, List.set_cons_succ]
                      refine anyH_take (i := 3) (v := .pointer (some ⟨gw, q * 64, none⟩)) (some 172) rfl rfl (by kernel_rfl) (by kernel_rfl) (by kernel_rfl) (fun _ _ _ h => h) (Or.inl ⟨by rfl, fun _ hw => by go_simp⟩) (by assumption) ?_
                      simp only [Act.put, List.setIfInBounds_toArray, List.set_cons_zero, List.set_cons_succ]
                      refine anyH_take (i := 4) (v := .agg QL.toArray) (some 173) rfl rfl (by kernel_rfl) (by kernel_rfl) (by kernel_rfl) (fun _ _ _ h => h) (yieldsIf_load_mid (by rfl) 49 (.tmp 172) rfl gw (q * 64) rfl QL _ (fun w' h => h.2) Try.underlying49 rfl HQn.out) (by assumption) ?_
                      simp only [Act.put, List.setIfInBounds_toArray, List.set_cons_zero, List.set_cons_succ]
                      refine anyH_take (i := 5) (v := .bool (!true)) (some 174) rfl rfl (by kernel_rfl) (by kernel_rfl) (by kernel_rfl) (fun _ _ _ h => h) (yieldsIf_neqC (by rfl) 49 _ _ _ rfl QL QL rfl rfl true HqS.out gtSec) (by assumption) ?_
                      simp only [Act.put, List.setIfInBounds_toArray, List.set_cons_zero, List.set_cons_succ]
                      refine wpAnyH_done (by kernel_rfl) ?_ _
                      clear hHeld
                      go_wp2_with fail
                      go_roundw
                      case rel => exact ⟨q + 1, by omega, by go_num, HBf⟩
                      case measure => (simp [Go.RowKit.intOf]; try omega)
                    · obtain rfl : q = 2 := by omega
                      have hjw : IntKind.i64.wrap ((j : Int) + 1) = ((j + 1 : Nat) : Int) := by rw [show (j : Int) + 1 = ((j + 1 : Nat) : Int) by omega]; exact IntWalk.i64_in _ (by omega)
                      clear hq2
                      go_wp2_with fail
                      go_roundw
                      case rel => exact ⟨j + 1, S2, F2, by omega, by go_num, HQz⟩
                      case measure => (simp [Go.RowKit.intOf]; try omega)
            · subst h0
              have q1 : (sl != 0) = false := by rw [h1]; rfl
              clear h1
              go_upto_region 28 with fail
              by_cases hj1 : j = 1
              · have Hbe := Lib.hid HQ5.out.x.b
                have q3 : ((j : Int) == 1) = true := by rw [hj1]; rfl
                have q3n : (j == 1) = true := by rw [hj1]; rfl
                clear hj1
                go_wp2_with fail
                go_ret
                exact ⟨rfl, Hbe.out⟩
              · have q3 : ((j : Int) == 1) = false := by rw [beq_eq_false_iff_ne]; omega
                have q3n : (j == 1) = false := by rw [beq_eq_false_iff_ne]; omega
                have Hj0 := Lib.hid (show j = 0 by omega)
                clear hj1
                go_upto_region 29 with fail
                have HR5r := Lib.hid (show w5.rangeAt gr 0 RL from HQ5.out.x.r.range)
                have HRl := Lib.hid (show (Try.prog.info? 26).map (·.size) = some RL.length from HRn.out)
                have Hw := Lib.hid (HQ5.out.write (by omega) ep Hep.out r Hwr.out RL HRL.out)
                clear q3 q3n HB5
                go_wp2_with (first | ((with_reducible refine wpList_at 134 (by rfl) ?_); refine wpList_load_mid_ifC (by rfl) 26 _ rfl gr 0 rfl RL _ HR5r.out Try.underlying26 rfl HRl.out ?_))
                refine Calls.mono Hw.out ?_
                rintro e w6 ⟨F2, hres⟩
                have Hm6 := Lib.hid (may14_any r Hwr.out RL HRL.out w6)
                obtain ⟨ok, hok⟩ : ∃ z, okR r = z := ⟨_, rfl⟩
                obtain ⟨c, S2, rfl, hQ6, hc⟩ : ∃ (c : Int) (S2 : List (List UInt8)), e = .returned (.int .i64 c) ∧ TQ w gr gd gw k RL GL S S2 F2 (j + 1) w6 ∧ ((ok = true ∧ c = 0 ∧ S2 = S.set (ep % 2) (layR r)) ∨ (ok = false ∧ c = 1 ∧ S2 = S)) := by
                  rcases hres with ⟨h1, h2, h3⟩ | ⟨h1, h2, h3⟩
                  · exact ⟨_, _, h2, h3, .inl ⟨by rw [← hok]; exact okR_iff.2 h1, rfl, rfl⟩⟩
                  · exact ⟨_, _, h2, h3, .inr ⟨by rw [← hok]; cases hz : okR r with | false => rfl | true => exact absurd (okR_iff.1 hz) h1, rfl, rfl⟩⟩
                have HQ6 := Lib.hid hQ6
                have HR6r := Lib.hid (show w6.rangeAt gr 0 RL from hQ6.x.r.range)
                rw [hok] at Hm6
                have Hok := Lib.hid hok
                clear hQ6 hres Hw HR5r hok HQ5
                rcases hc with ⟨rfl, rfl, hS2⟩ | ⟨rfl, rfl, hS2⟩
                · have HS2 := Lib.hid hS2
                  clear hS2
                  go_wp2_with (first | ((with_reducible refine wpList_at 136 (by rfl) ?_); refine wpList_load_mid_ifC (by rfl) 26 _ rfl gr 0 rfl RL _ HR6r.out Try.underlying26 rfl HRl.out ?_))
                  refine Calls.mono Hm6.out ?_
                  rintro e w7 ⟨rfl, hb7⟩
                  have HQ7 := Lib.hid (HQ6.out.up hb7)
                  have HR7r := Lib.hid (show w7.rangeAt gr 0 RL from HQ7.out.x.r.range)
                  have Hm7 := Lib.hid (may14_any r Hwr.out RL HRL.out w7)
                  rw [Hok.out] at Hm7
                  clear hb7 HQ6 HR6r Hm6
                  go_wp2_with (first | ((with_reducible refine wpList_at 142 (by rfl) ?_); refine wpList_load_mid_ifC (by rfl) 26 _ rfl gr 0 rfl RL _ HR7r.out Try.underlying26 rfl HRl.out ?_))
                  refine Calls.mono Hm7.out ?_
                  rintro e w8 ⟨rfl, hb8⟩
                  have HQ8 := Lib.hid (HQ7.out.up hb8)
                  have HR8r := Lib.hid (show w8.rangeAt gr 0 RL from HQ8.out.x.r.range)
                  have Hm8 := Lib.hid (may14_any r Hwr.out RL HRL.out w8)
                  rw [Hok.out] at Hm8
                  clear hb8 HQ7 HR7r Hm7
                  go_upto_region 32 with fail
                  go_wp2_with (first | ((with_reducible refine wpList_at 150 (by rfl) ?_); refine wpList_load_mid_ifC (by rfl) 26 _ rfl gr 0 rfl RL _ HR8r.out Try.underlying26 rfl HRl.out ?_))
                  refine Calls.mono Hm8.out ?_
                  rintro e w9 ⟨rfl, hb9⟩
                  have HQ9 := Lib.hid (HQ8.out.up hb9)
                  have HR9r := Lib.hid (show w9.rangeAt gr 0 RL from HQ9.out.x.r.range)
                  clear hb9 HQ8 HR8r Hm8
                  obtain ⟨p2, hp2⟩ : ∃ a, ep % 2 = a := ⟨_, rfl⟩
                  have hpI : (ep : Int) % 2 = (p2 : Int) := by omega
                  have hpT : (ep : Int).tmod 2 = (p2 : Int) := by rw [Int.tmod_eq_emod_of_nonneg (by omega)]; exact hpI
                  have hpw : IntKind.u64.wrap (p2 : Int) = (p2 : Int) := IntWalk.u64_in _ (by omega)
                  have hpl : p2 < 2 := by omega
                  have hplI : (p2 : Int) < (2 : Int) := by omega
                  rw [hp2] at HS2
                  obtain ⟨LL, hLL⟩ : ∃ z, z = Lib.byteCells (layR r) := ⟨_, rfl⟩
                  have HLL := Lib.hid hLL
                  have HLi := Lib.hid (show (Try.prog.info? 49).map (·.size) = some LL.toArray.size by rw [List.size_toArray, hLL, Lib.byteCells_length, layR_length Hwr.out.d]; exact secInfo)
                  have HL1 := Lib.hid (show LL.toArray.all (·.oneCell') = true by rw [hLL]; exact sec_one _)
                  have HLz := Lib.hid (show LL.toArray.size = 64 by rw [List.size_toArray, hLL, Lib.byteCells_length, layR_length Hwr.out.d])
                  have Hld := Lib.hid (laid_any r Hwr.out RL LL HRL.out hLL w9)
                  clear hLL hp2
                  go_wp2_with (first | ((with_reducible refine wpList_at 155 (by rfl) ?_); refine wpList_load_mid_ifC (by rfl) 26 _ rfl gr 0 rfl RL _ HR9r.out Try.underlying26 rfl HRl.out ?_))
                  refine Calls.mono Hld.out ?_
                  rintro e wa ⟨rfl, hba⟩
                  have HQa := Lib.hid (HQ9.out.up hba)
                  have Hth := Lib.hid (show wa.there gw (p2 * 64) LL.toArray.size by rw [HLz.out]; exact HQa.out.there hpl)
                  clear hba HQ9 HR9r Hld
                  go_upto_region 34 with (first | (refine wpList_store_mid rfl 49 _ _ rfl gw (p2 * 64) LL.toArray rfl rfl Hth.out HLi.out HL1.out ?_))
                  have HQb := Lib.hid (show TQ w gr gd gw k RL GL S2 S2 F2 (j + 1) (wa.setCells gw (p2 * 64) LL) by
                    have h := HQa.out.set hpl (layR_length Hwr.out.d) HLL.out
                    rwa [← HS2.out] at h)
                  obtain ⟨wb, hwb⟩ : ∃ z, z = wa.setCells gw (p2 * 64) LL := ⟨_, rfl⟩
                  rw [← hwb] at HQb
                  try rw [show LL.toArray.toList = LL from rfl]
                  rw [← hwb]
                  clear hwb Hth HQa
                  obtain ⟨wz, hwz⟩ : ∃ z, z = wb := ⟨_, rfl⟩
                  rw [← hwz] at HQb ⊢
                  clear hwz
                  go_wp2_with fail
                  go_loopw [160] (fun x wr => ∃ q : Nat, q ≤ 2 ∧ x = .int .i64 q ∧ Hid (Below wz.heap.size wz wr)) (fun x _ => 2 - (Go.RowKit.intOf x).toNat)
                  case atStart => exact ⟨0, by omega, rfl, Lib.hid (Below.refl _ _)⟩
                  case round =>
                    obtain ⟨q, hq, rfl, HBz⟩ := hrel
                    have HQz := Lib.hid (HQb.out.up HBz.out)
                    by_cases hq2 : q < 2
                    · have hd1 : decide ((q : Int) < (2 : Int)) = true := by simp; omega
                      have hd1n : decide (q < 2) = true := decide_eq_true hq2
                      have hqI : (q : Int) < (2 : Int) := by omega
                      have hqw : IntKind.i64.wrap ((q : Int) + 1) = ((q + 1 : Nat) : Int) := by rw [show (q : Int) + 1 = ((q + 1 : Nat) : Int) by omega]; exact IntWalk.i64_in _ (by omega)
                      obtain ⟨s, hs⟩ : ∃ s, S2.getD q [] = s := ⟨_, rfl⟩
                      have Hsl := Lib.hid (show s.length = 64 by rw [← hs]; exact HQz.out.sec hq2)
                      obtain ⟨QL, hQL⟩ : ∃ z, z = Lib.byteCells s := ⟨_, rfl⟩
                      have HQn := Lib.hid (show (Try.prog.info? 49).map (·.size) = some QL.length by rw [hQL, Lib.byteCells_length, Hsl.out]; exact secInfo)
                      have HQi := Lib.hid (show (Try.prog.info? 49).map (·.size) = some QL.toArray.size ∧ ZS.toArray.size = QL.toArray.size by rw [List.size_toArray, List.size_toArray, hQL, Lib.byteCells_length, Hsl.out, HZS.out]; exact ⟨secInfo, rfl⟩)
                      have HQ1 := Lib.hid (show QL.toArray.all (·.oneCell') = true by rw [hQL]; exact sec_one _)
                      have HqS := Lib.hid (fun w : World => show (Op.equalIn 10000 49 (.agg QL.toArray) (.agg QL.toArray)).run Try.prog w = .ok true w by have h := sec_eqvS Hsl.out Hsl.out hQL hQL w; rwa [decide_eq_true rfl] at h)
                      have Hrd := Lib.hid (show Calls Try.prog 28 #[.pointer (some ⟨k, 0, none⟩), .int .i64 (q : Nat)] wr fun e w' => e = .returned (.tuple #[.agg QL.toArray, .int .i64 0]) ∧ Below wr.heap.size wr w' by
                        obtain ⟨W, _, hk⟩ := HQz.out.dk
                        exact hk.read q hq2 QL (by rw [hs]; exact hQL))
                      have Hwant := Lib.hid (fun (w' : World) (h : TQ w gr gd gw k RL GL S2 S2 F2 (j + 1) w') => show w'.rangeAt gw (q * 64) QL from want_range h.a h.l.2 (by rw [h.l.1]; exact hq2) (by rw [hs]; exact hQL))
                      clear hs hQL
                      go_wp2_with fail
                      refine Calls.mono Hrd.out ?_
                      rintro e wd ⟨rfl, hbd⟩
                      have HBd := Lib.hid (HBz.out.trans (hbd.mono HBz.out.size))
                      obtain ⟨g30, hg30⟩ : ∃ z, z = wd.heap.size := ⟨_, rfl⟩
                      have Hg30 := Lib.hid hg30
                      clear hbd hg30 Hrd HQz HBz
                      go_upto_region 38 with (first | (refine wpList_allocZC rfl 49 rfl ZS.toArray (HZS0.out _) ?_) | (change wpList _ _ _ _ _ (wd.alloc (.cells ZS.toArray 49)); refine wpList_store_row rfl _ _ _ rfl wd.heap.size QL.toArray rfl rfl 49 ZS.toArray (heap_alloc_new wd _) HQi.out.1 HQi.out.2 HQ1.out ?_; obtain ⟨we, hwe⟩ : ∃ x, x = (wd.alloc (.cells ZS.toArray 49)).setRow wd.heap.size QL.toArray := ⟨_, rfl⟩; rw [← hwe]; obtain ⟨hPe, hbe⟩ := alloc_row wd 49 ZS.toArray QL; rw [← hwe] at hPe hbe; clear hwe))
                      rw [← Hg30.out] at hPe ⊢
                      have HBe := Lib.hid (HBd.out.trans (hbe.mono HBd.out.size))
                      have HWr := Lib.hid (Hwant.out we (HQb.out.up HBe.out))
                      have HBf := Lib.hid (Below.dN HBe.out 1)
                      clear hbe HBd Hwant
                      refine wp_region_held_drew (S := fun w' => Arr w' g30 49 QL ∧ w'.rangeAt gw (q * 64) QL) (by kernel_rfl) ⟨Arr.drewN hPe 1, fun j v hj => HWr.out j v hj⟩ (fun hHeld => ?_)
                      refine anyH_take (i := 0) (v := .agg QL.toArray) (some 169) rfl rfl (by kernel_rfl) (by kernel_rfl) (by kernel_rfl) (fun _ _ _ h => h) (yieldsIf_load_mid (by rfl) 49 (.tmp 30) rfl g30 0 rfl QL _ (fun w' h => Arr.range h.1) Try.underlying49 rfl HQn.out) (by assumption) ?_
                      simp only [Act.put, List.setIfInBounds_toArray, List.set_cons_zero, List.set_cons_succ]
                      refine anyH_take (i := 1) (v := .slice (some ⟨gw, 0, none⟩) 2 2) (some 170) rfl rfl (by kernel_rfl) (by kernel_rfl) (by kernel_rfl) (fun _ _ _ h => h) (Or.inl ⟨by rfl, fun _ hw => by rfl⟩) (by assumption) ?_
                      simp only [Act.put, List.setIfInBounds_toArray, List.set_cons_zero, List.set_cons_succ]
                      refine anyH_take (i := 2) (v := .int .i64 (q : Nat)) (some 171) rfl rfl (by kernel_rfl) (by kernel_rfl) (by kernel_rfl) (fun _ _ _ h => h) (Or.inl ⟨by rfl, fun _ hw => by rfl⟩) (by assumption) ?_
                      simp only [Act.put, List.setIfInBounds_toArray, List.set_cons_zero, List.set_cons_succ]
                      refine anyH_take (i := 3) (v := .pointer (some ⟨gw, q * 64, none⟩)) (some 172) rfl rfl (by kernel_rfl) (by kernel_rfl) (by kernel_rfl) (fun _ _ _ h => h) (Or.inl ⟨by rfl, fun _ hw => by go_simp⟩) (by assumption) ?_
                      simp only [Act.put, List.setIfInBounds_toArray, List.set_cons_zero, List.set_cons_succ]
                      refine anyH_take (i := 4) (v := .agg QL.toArray) (some 173) rfl rfl (by kernel_rfl) (by kernel_rfl) (by kernel_rfl) (fun _ _ _ h => h) (yieldsIf_load_mid (by rfl) 49 (.tmp 172) rfl gw (q * 64) rfl QL _ (fun w' h => h.2) Try.underlying49 rfl HQn.out) (by assumption) ?_
                      simp only [Act.put, List.setIfInBounds_toArray, List.set_cons_zero, List.set_cons_succ]
                      refine anyH_take (i := 5) (v := .bool (!true)) (some 174) rfl rfl (by kernel_rfl) (by kernel_rfl) (by kernel_rfl) (fun _ _ _ h => h) (yieldsIf_neqC (by rfl) 49 _ _ _ rfl QL QL rfl rfl true HqS.out gtSec) (by assumption) ?_
                      simp only [Act.put, List.setIfInBounds_toArray, List.set_cons_zero, List.set_cons_succ]
                      refine wpAnyH_done (by kernel_rfl) ?_ _
                      clear hHeld
                      go_wp2_with fail
                      go_roundw
                      case rel => exact ⟨q + 1, by omega, by go_num, HBf⟩
                      case measure => (simp [Go.RowKit.intOf]; try omega)
                    · obtain rfl : q = 2 := by omega
                      have hjw : IntKind.i64.wrap ((j : Int) + 1) = ((j + 1 : Nat) : Int) := by rw [show (j : Int) + 1 = ((j + 1 : Nat) : Int) by omega]; exact IntWalk.i64_in _ (by omega)
                      clear hq2
                      go_wp2_with fail
                      go_roundw
                      case rel => exact ⟨j + 1, S2, F2, by omega, by go_num, HQz⟩
                      case measure => (simp [Go.RowKit.intOf]; try omega)
                · have HS2 := Lib.hid hS2
                  clear hS2
                  go_wp2_with (first | ((with_reducible refine wpList_at 136 (by rfl) ?_); refine wpList_load_mid_ifC (by rfl) 26 _ rfl gr 0 rfl RL _ HR6r.out Try.underlying26 rfl HRl.out ?_))
                  refine Calls.mono Hm6.out ?_
                  rintro e w7 ⟨rfl, hb7⟩
                  have HQ7 := Lib.hid (HQ6.out.up hb7)
                  have HR7r := Lib.hid (show w7.rangeAt gr 0 RL from HQ7.out.x.r.range)
                  have Hm7 := Lib.hid (may14_any r Hwr.out RL HRL.out w7)
                  rw [Hok.out] at Hm7
                  clear hb7 HQ6 HR6r Hm6
                  go_wp2_with (first | ((with_reducible refine wpList_at 142 (by rfl) ?_); refine wpList_load_mid_ifC (by rfl) 26 _ rfl gr 0 rfl RL _ HR7r.out Try.underlying26 rfl HRl.out ?_))
                  refine Calls.mono Hm7.out ?_
                  rintro e w8 ⟨rfl, hb8⟩
                  have HQ8 := Lib.hid (HQ7.out.up hb8)
                  have HR8r := Lib.hid (show w8.rangeAt gr 0 RL from HQ8.out.x.r.range)
                  have Hm8 := Lib.hid (may14_any r Hwr.out RL HRL.out w8)
                  rw [Hok.out] at Hm8
                  clear hb8 HQ7 HR7r Hm7
                  go_upto_region 32 with fail
                  go_wp2_with (first | ((with_reducible refine wpList_at 150 (by rfl) ?_); refine wpList_load_mid_ifC (by rfl) 26 _ rfl gr 0 rfl RL _ HR8r.out Try.underlying26 rfl HRl.out ?_))
                  refine Calls.mono Hm8.out ?_
                  rintro e w9 ⟨rfl, hb9⟩
                  have HQ9 := Lib.hid (HQ8.out.up hb9)
                  have HR9r := Lib.hid (show w9.rangeAt gr 0 RL from HQ9.out.x.r.range)
                  clear hb9 HQ8 HR8r Hm8
                  have HQb := Lib.hid (show TQ w gr gd gw k RL GL S2 S2 F2 (j + 1) w9 by
                    have h := HQ9.out
                    rwa [← HS2.out] at h)
                  clear HQ9 HR9r
                  go_upto_region 34 with fail
                  obtain ⟨wz, hwz⟩ : ∃ z, z = w9 := ⟨_, rfl⟩
                  rw [← hwz] at HQb ⊢
                  clear hwz
                  go_wp2_with fail
                  go_loopw [160] (fun x wr => ∃ q : Nat, q ≤ 2 ∧ x = .int .i64 q ∧ Hid (Below wz.heap.size wz wr)) (fun x _ => 2 - (Go.RowKit.intOf x).toNat)
                  case atStart => exact ⟨0, by omega, rfl, Lib.hid (Below.refl _ _)⟩
                  case round =>
                    obtain ⟨q, hq, rfl, HBz⟩ := hrel
                    have HQz := Lib.hid (HQb.out.up HBz.out)
                    by_cases hq2 : q < 2
                    · have hd1 : decide ((q : Int) < (2 : Int)) = true := by simp; omega
                      have hd1n : decide (q < 2) = true := decide_eq_true hq2
                      have hqI : (q : Int) < (2 : Int) := by omega
                      have hqw : IntKind.i64.wrap ((q : Int) + 1) = ((q + 1 : Nat) : Int) := by rw [show (q : Int) + 1 = ((q + 1 : Nat) : Int) by omega]; exact IntWalk.i64_in _ (by omega)
                      obtain ⟨s, hs⟩ : ∃ s, S2.getD q [] = s := ⟨_, rfl⟩
                      have Hsl := Lib.hid (show s.length = 64 by rw [← hs]; exact HQz.out.sec hq2)
                      obtain ⟨QL, hQL⟩ : ∃ z, z = Lib.byteCells s := ⟨_, rfl⟩
                      have HQn := Lib.hid (show (Try.prog.info? 49).map (·.size) = some QL.length by rw [hQL, Lib.byteCells_length, Hsl.out]; exact secInfo)
                      have HQi := Lib.hid (show (Try.prog.info? 49).map (·.size) = some QL.toArray.size ∧ ZS.toArray.size = QL.toArray.size by rw [List.size_toArray, List.size_toArray, hQL, Lib.byteCells_length, Hsl.out, HZS.out]; exact ⟨secInfo, rfl⟩)
                      have HQ1 := Lib.hid (show QL.toArray.all (·.oneCell') = true by rw [hQL]; exact sec_one _)
                      have HqS := Lib.hid (fun w : World => show (Op.equalIn 10000 49 (.agg QL.toArray) (.agg QL.toArray)).run Try.prog w = .ok true w by have h := sec_eqvS Hsl.out Hsl.out hQL hQL w; rwa [decide_eq_true rfl] at h)
                      have Hrd := Lib.hid (show Calls Try.prog 28 #[.pointer (some ⟨k, 0, none⟩), .int .i64 (q : Nat)] wr fun e w' => e = .returned (.tuple #[.agg QL.toArray, .int .i64 0]) ∧ Below wr.heap.size wr w' by
                        obtain ⟨W, _, hk⟩ := HQz.out.dk
                        exact hk.read q hq2 QL (by rw [hs]; exact hQL))
                      have Hwant := Lib.hid (fun (w' : World) (h : TQ w gr gd gw k RL GL S2 S2 F2 (j + 1) w') => show w'.rangeAt gw (q * 64) QL from want_range h.a h.l.2 (by rw [h.l.1]; exact hq2) (by rw [hs]; exact hQL))
                      clear hs hQL
                      go_wp2_with fail
                      refine Calls.mono Hrd.out ?_
                      rintro e wd ⟨rfl, hbd⟩
                      have HBd := Lib.hid (HBz.out.trans (hbd.mono HBz.out.size))
                      obtain ⟨g30, hg30⟩ : ∃ z, z = wd.heap.size := ⟨_, rfl⟩
                      have Hg30 := Lib.hid hg30
                      clear hbd hg30 Hrd HQz HBz
                      go_upto_region 38 with (first | (refine wpList_allocZC rfl 49 rfl ZS.toArray (HZS0.out _) ?_) | (change wpList _ _ _ _ _ (wd.alloc (.cells ZS.toArray 49)); refine wpList_store_row rfl _ _ _ rfl wd.heap.size QL.toArray rfl rfl 49 ZS.toArray (heap_alloc_new wd _) HQi.out.1 HQi.out.2 HQ1.out ?_; obtain ⟨we, hwe⟩ : ∃ x, x = (wd.alloc (.cells ZS.toArray 49)).setRow wd.heap.size QL.toArray := ⟨_, rfl⟩; rw [← hwe]; obtain ⟨hPe, hbe⟩ := alloc_row wd 49 ZS.toArray QL; rw [← hwe] at hPe hbe; clear hwe))
                      rw [← Hg30.out] at hPe ⊢
                      have HBe := Lib.hid (HBd.out.trans (hbe.mono HBd.out.size))
                      have HWr := Lib.hid (Hwant.out we (HQb.out.up HBe.out))
                      have HBf := Lib.hid (Below.dN HBe.out 1)
                      clear hbe HBd Hwant
                      refine wp_region_held_drew (S := fun w' => Arr w' g30 49 QL ∧ w'.rangeAt gw (q * 64) QL) (by kernel_rfl) ⟨Arr.drewN hPe 1, fun j v hj => HWr.out j v hj⟩ (fun hHeld => ?_)
                      refine anyH_take (i := 0) (v := .agg QL.toArray) (some 169) rfl rfl (by kernel_rfl) (by kernel_rfl) (by kernel_rfl) (fun _ _ _ h => h) (yieldsIf_load_mid (by rfl) 49 (.tmp 30) rfl g30 0 rfl QL _ (fun w' h => Arr.range h.1) Try.underlying49 rfl HQn.out) (by assumption) ?_
                      simp only [Act.put, List.setIfInBounds_toArray, List.set_cons_zero, List.set_cons_succ]
                      refine anyH_take (i := 1) (v := .slice (some ⟨gw, 0, none⟩) 2 2) (some 170) rfl rfl (by kernel_rfl) (by kernel_rfl) (by kernel_rfl) (fun _ _ _ h => h) (Or.inl ⟨by rfl, fun _ hw => by rfl⟩) (by assumption) ?_
                      simp only [Act.put, List.setIfInBounds_toArray, List.set_cons_zero, List.set_cons_succ]
                      refine anyH_take (i := 2) (v := .int .i64 (q : Nat)) (some 171) rfl rfl (by kernel_rfl) (by kernel_rfl) (by kernel_rfl) (fun _ _ _ h => h) (Or.inl ⟨by rfl, fun _ hw => by rfl⟩) (by assumption) ?_
                      simp only [Act.put, List.setIfInBounds_toArray, List.set_cons_zero, List.set_cons_succ]
                      refine anyH_take (i := 3) (v := .pointer (some ⟨gw, q * 64, none⟩)) (some 172) rfl rfl (by kernel_rfl) (by kernel_rfl) (by kernel_rfl) (fun _ _ _ h => h) (Or.inl ⟨by rfl, fun _ hw => by go_simp⟩) (by assumption) ?_
                      simp only [Act.put, List.setIfInBounds_toArray, List.set_cons_zero, List.set_cons_succ]
                      refine anyH_take (i := 4) (v := .agg QL.toArray) (some 173) rfl rfl (by kernel_rfl) (by kernel_rfl) (by kernel_rfl) (fun _ _ _ h => h) (yieldsIf_load_mid (by rfl) 49 (.tmp 172) rfl gw (q * 64) rfl QL _ (fun w' h => h.2) Try.underlying49 rfl HQn.out) (by assumption) ?_
                      simp only [Act.put, List.setIfInBounds_toArray, List.set_cons_zero, List.set_cons_succ]
                      refine anyH_take (i := 5) (v := .bool (!true)) (some 174) rfl rfl (by kernel_rfl) (by kernel_rfl) (by kernel_rfl) (fun _ _ _ h => h) (yieldsIf_neqC (by rfl) 49 _ _ _ rfl QL QL rfl rfl true HqS.out gtSec) (by assumption) ?_
                      simp only [Act.put, List.setIfInBounds_toArray, List.set_cons_zero, List.set_cons_succ]
                      refine wpAnyH_done (by kernel_rfl) ?_ _
                      clear hHeld
                      go_wp2_with fail
                      go_roundw
                      case rel => exact ⟨q + 1, by omega, by go_num, HBf⟩
                      case measure => (simp [Go.RowKit.intOf]; try omega)
                    · obtain rfl : q = 2 := by omega
                      have hjw : IntKind.i64.wrap ((j : Int) + 1) = ((j + 1 : Nat) : Int) := by rw [show (j : Int) + 1 = ((j + 1 : Nat) : Int) by omega]; exact IntWalk.i64_in _ (by omega)
                      clear hq2
                      go_wp2_with fail
                      go_roundw
                      case rel => exact ⟨j + 1, S2, F2, by omega, by go_num, HQz⟩
                      case measure => (simp [Go.RowKit.intOf]; try omega)
            · subst h0
              have q1 : (sl != 0) = true := by rw [h1]; rfl
              have q2 : (sl != 1) = false := by rw [h1]; rfl
              clear h1
              go_upto_region 28 with fail
              by_cases hj1 : j = 1
              · have Hbe := Lib.hid HQ5.out.x.b
                have q3 : ((j : Int) == 1) = true := by rw [hj1]; rfl
                have q3n : (j == 1) = true := by rw [hj1]; rfl
                clear hj1
                go_wp2_with fail
                go_ret
                exact ⟨rfl, Hbe.out⟩
              · have q3 : ((j : Int) == 1) = false := by rw [beq_eq_false_iff_ne]; omega
                have q3n : (j == 1) = false := by rw [beq_eq_false_iff_ne]; omega
                have Hj0 := Lib.hid (show j = 0 by omega)
                clear hj1
                go_upto_region 29 with fail
                have HR5r := Lib.hid (show w5.rangeAt gr 0 RL from HQ5.out.x.r.range)
                have HRl := Lib.hid (show (Try.prog.info? 26).map (·.size) = some RL.length from HRn.out)
                have Hw := Lib.hid (HQ5.out.write (by omega) ep Hep.out r Hwr.out RL HRL.out)
                clear q3 q3n HB5
                go_wp2_with (first | ((with_reducible refine wpList_at 134 (by rfl) ?_); refine wpList_load_mid_ifC (by rfl) 26 _ rfl gr 0 rfl RL _ HR5r.out Try.underlying26 rfl HRl.out ?_))
                refine Calls.mono Hw.out ?_
                rintro e w6 ⟨F2, hres⟩
                have Hm6 := Lib.hid (may14_any r Hwr.out RL HRL.out w6)
                obtain ⟨ok, hok⟩ : ∃ z, okR r = z := ⟨_, rfl⟩
                obtain ⟨c, S2, rfl, hQ6, hc⟩ : ∃ (c : Int) (S2 : List (List UInt8)), e = .returned (.int .i64 c) ∧ TQ w gr gd gw k RL GL S S2 F2 (j + 1) w6 ∧ ((ok = true ∧ c = 0 ∧ S2 = S.set (ep % 2) (layR r)) ∨ (ok = false ∧ c = 1 ∧ S2 = S)) := by
                  rcases hres with ⟨h1, h2, h3⟩ | ⟨h1, h2, h3⟩
                  · exact ⟨_, _, h2, h3, .inl ⟨by rw [← hok]; exact okR_iff.2 h1, rfl, rfl⟩⟩
                  · exact ⟨_, _, h2, h3, .inr ⟨by rw [← hok]; cases hz : okR r with | false => rfl | true => exact absurd (okR_iff.1 hz) h1, rfl, rfl⟩⟩
                have HQ6 := Lib.hid hQ6
                have HR6r := Lib.hid (show w6.rangeAt gr 0 RL from hQ6.x.r.range)
                rw [hok] at Hm6
                have Hok := Lib.hid hok
                clear hQ6 hres Hw HR5r hok HQ5
                rcases hc with ⟨rfl, rfl, hS2⟩ | ⟨rfl, rfl, hS2⟩
                · have HS2 := Lib.hid hS2
                  clear hS2
                  go_wp2_with (first | ((with_reducible refine wpList_at 136 (by rfl) ?_); refine wpList_load_mid_ifC (by rfl) 26 _ rfl gr 0 rfl RL _ HR6r.out Try.underlying26 rfl HRl.out ?_))
                  refine Calls.mono Hm6.out ?_
                  rintro e w7 ⟨rfl, hb7⟩
                  have HQ7 := Lib.hid (HQ6.out.up hb7)
                  have HR7r := Lib.hid (show w7.rangeAt gr 0 RL from HQ7.out.x.r.range)
                  have Hm7 := Lib.hid (may14_any r Hwr.out RL HRL.out w7)
                  rw [Hok.out] at Hm7
                  clear hb7 HQ6 HR6r Hm6
                  go_wp2_with (first | ((with_reducible refine wpList_at 142 (by rfl) ?_); refine wpList_load_mid_ifC (by rfl) 26 _ rfl gr 0 rfl RL _ HR7r.out Try.underlying26 rfl HRl.out ?_))
                  refine Calls.mono Hm7.out ?_
                  rintro e w8 ⟨rfl, hb8⟩
                  have HQ8 := Lib.hid (HQ7.out.up hb8)
                  have HR8r := Lib.hid (show w8.rangeAt gr 0 RL from HQ8.out.x.r.range)
                  have Hm8 := Lib.hid (may14_any r Hwr.out RL HRL.out w8)
                  rw [Hok.out] at Hm8
                  clear hb8 HQ7 HR7r Hm7
                  go_upto_region 32 with fail
                  go_wp2_with (first | ((with_reducible refine wpList_at 150 (by rfl) ?_); refine wpList_load_mid_ifC (by rfl) 26 _ rfl gr 0 rfl RL _ HR8r.out Try.underlying26 rfl HRl.out ?_))
                  refine Calls.mono Hm8.out ?_
                  rintro e w9 ⟨rfl, hb9⟩
                  have HQ9 := Lib.hid (HQ8.out.up hb9)
                  have HR9r := Lib.hid (show w9.rangeAt gr 0 RL from HQ9.out.x.r.range)
                  clear hb9 HQ8 HR8r Hm8
                  obtain ⟨p2, hp2⟩ : ∃ a, ep % 2 = a := ⟨_, rfl⟩
                  have hpI : (ep : Int) % 2 = (p2 : Int) := by omega
                  have hpT : (ep : Int).tmod 2 = (p2 : Int) := by rw [Int.tmod_eq_emod_of_nonneg (by omega)]; exact hpI
                  have hpw : IntKind.u64.wrap (p2 : Int) = (p2 : Int) := IntWalk.u64_in _ (by omega)
                  have hpl : p2 < 2 := by omega
                  have hplI : (p2 : Int) < (2 : Int) := by omega
                  rw [hp2] at HS2
                  obtain ⟨LL, hLL⟩ : ∃ z, z = Lib.byteCells (layR r) := ⟨_, rfl⟩
                  have HLL := Lib.hid hLL
                  have HLi := Lib.hid (show (Try.prog.info? 49).map (·.size) = some LL.toArray.size by rw [List.size_toArray, hLL, Lib.byteCells_length, layR_length Hwr.out.d]; exact secInfo)
                  have HL1 := Lib.hid (show LL.toArray.all (·.oneCell') = true by rw [hLL]; exact sec_one _)
                  have HLz := Lib.hid (show LL.toArray.size = 64 by rw [List.size_toArray, hLL, Lib.byteCells_length, layR_length Hwr.out.d])
                  have Hld := Lib.hid (laid_any r Hwr.out RL LL HRL.out hLL w9)
                  clear hLL hp2
                  go_wp2_with (first | ((with_reducible refine wpList_at 155 (by rfl) ?_); refine wpList_load_mid_ifC (by rfl) 26 _ rfl gr 0 rfl RL _ HR9r.out Try.underlying26 rfl HRl.out ?_))
                  refine Calls.mono Hld.out ?_
                  rintro e wa ⟨rfl, hba⟩
                  have HQa := Lib.hid (HQ9.out.up hba)
                  have Hth := Lib.hid (show wa.there gw (p2 * 64) LL.toArray.size by rw [HLz.out]; exact HQa.out.there hpl)
                  clear hba HQ9 HR9r Hld
                  go_upto_region 34 with (first | (refine wpList_store_mid rfl 49 _ _ rfl gw (p2 * 64) LL.toArray rfl rfl Hth.out HLi.out HL1.out ?_))
                  have HQb := Lib.hid (show TQ w gr gd gw k RL GL S2 S2 F2 (j + 1) (wa.setCells gw (p2 * 64) LL) by
                    have h := HQa.out.set hpl (layR_length Hwr.out.d) HLL.out
                    rwa [← HS2.out] at h)
                  obtain ⟨wb, hwb⟩ : ∃ z, z = wa.setCells gw (p2 * 64) LL := ⟨_, rfl⟩
                  rw [← hwb] at HQb
                  try rw [show LL.toArray.toList = LL from rfl]
                  rw [← hwb]
                  clear hwb Hth HQa
                  obtain ⟨wz, hwz⟩ : ∃ z, z = wb := ⟨_, rfl⟩
                  rw [← hwz] at HQb ⊢
                  clear hwz
                  go_wp2_with fail
                  go_loopw [160] (fun x wr => ∃ q : Nat, q ≤ 2 ∧ x = .int .i64 q ∧ Hid (Below wz.heap.size wz wr)) (fun x _ => 2 - (Go.RowKit.intOf x).toNat)
                  case atStart => exact ⟨0, by omega, rfl, Lib.hid (Below.refl _ _)⟩
                  case round =>
                    obtain ⟨q, hq, rfl, HBz⟩ := hrel
                    have HQz := Lib.hid (HQb.out.up HBz.out)
                    by_cases hq2 : q < 2
                    · have hd1 : decide ((q : Int) < (2 : Int)) = true := by simp; omega
                      have hd1n : decide (q < 2) = true := decide_eq_true hq2
                      have hqI : (q : Int) < (2 : Int) := by omega
                      have hqw : IntKind.i64.wrap ((q : Int) + 1) = ((q + 1 : Nat) : Int) := by rw [show (q : Int) + 1 = ((q + 1 : Nat) : Int) by omega]; exact IntWalk.i64_in _ (by omega)
                      obtain ⟨s, hs⟩ : ∃ s, S2.getD q [] = s := ⟨_, rfl⟩
                      have Hsl := Lib.hid (show s.length = 64 by rw [← hs]; exact HQz.out.sec hq2)
                      obtain ⟨QL, hQL⟩ : ∃ z, z = Lib.byteCells s := ⟨_, rfl⟩
                      have HQn := Lib.hid (show (Try.prog.info? 49).map (·.size) = some QL.length by rw [hQL, Lib.byteCells_length, Hsl.out]; exact secInfo)
                      have HQi := Lib.hid (show (Try.prog.info? 49).map (·.size) = some QL.toArray.size ∧ ZS.toArray.size = QL.toArray.size by rw [List.size_toArray, List.size_toArray, hQL, Lib.byteCells_length, Hsl.out, HZS.out]; exact ⟨secInfo, rfl⟩)
                      have HQ1 := Lib.hid (show QL.toArray.all (·.oneCell') = true by rw [hQL]; exact sec_one _)
                      have HqS := Lib.hid (fun w : World => show (Op.equalIn 10000 49 (.agg QL.toArray) (.agg QL.toArray)).run Try.prog w = .ok true w by have h := sec_eqvS Hsl.out Hsl.out hQL hQL w; rwa [decide_eq_true rfl] at h)
                      have Hrd := Lib.hid (show Calls Try.prog 28 #[.pointer (some ⟨k, 0, none⟩), .int .i64 (q : Nat)] wr fun e w' => e = .returned (.tuple #[.agg QL.toArray, .int .i64 0]) ∧ Below wr.heap.size wr w' by
                        obtain ⟨W, _, hk⟩ := HQz.out.dk
                        exact hk.read q hq2 QL (by rw [hs]; exact hQL))
                      have Hwant := Lib.hid (fun (w' : World) (h : TQ w gr gd gw k RL GL S2 S2 F2 (j + 1) w') => show w'.rangeAt gw (q * 64) QL from want_range h.a h.l.2 (by rw [h.l.1]; exact hq2) (by rw [hs]; exact hQL))
                      clear hs hQL
                      go_wp2_with fail
                      refine Calls.mono Hrd.out ?_
                      rintro e wd ⟨rfl, hbd⟩
                      have HBd := Lib.hid (HBz.out.trans (hbd.mono HBz.out.size))
                      obtain ⟨g30, hg30⟩ : ∃ z, z = wd.heap.size := ⟨_, rfl⟩
                      have Hg30 := Lib.hid hg30
                      clear hbd hg30 Hrd HQz HBz
                      go_upto_region 38 with (first | (refine wpList_allocZC rfl 49 rfl ZS.toArray (HZS0.out _) ?_) | (change wpList _ _ _ _ _ (wd.alloc (.cells ZS.toArray 49)); refine wpList_store_row rfl _ _ _ rfl wd.heap.size QL.toArray rfl rfl 49 ZS.toArray (heap_alloc_new wd _) HQi.out.1 HQi.out.2 HQ1.out ?_; obtain ⟨we, hwe⟩ : ∃ x, x = (wd.alloc (.cells ZS.toArray 49)).setRow wd.heap.size QL.toArray := ⟨_, rfl⟩; rw [← hwe]; obtain ⟨hPe, hbe⟩ := alloc_row wd 49 ZS.toArray QL; rw [← hwe] at hPe hbe; clear hwe))
                      rw [← Hg30.out] at hPe ⊢
                      have HBe := Lib.hid (HBd.out.trans (hbe.mono HBd.out.size))
                      have HWr := Lib.hid (Hwant.out we (HQb.out.up HBe.out))
                      have HBf := Lib.hid (Below.dN HBe.out 1)
                      clear hbe HBd Hwant
                      refine wp_region_held_drew (S := fun w' => Arr w' g30 49 QL ∧ w'.rangeAt gw (q * 64) QL) (by kernel_rfl) ⟨Arr.drewN hPe 1, fun j v hj => HWr.out j v hj⟩ (fun hHeld => ?_)
                      refine anyH_take (i := 0) (v := .agg QL.toArray) (some 169) rfl rfl (by kernel_rfl) (by kernel_rfl) (by kernel_rfl) (fun _ _ _ h => h) (yieldsIf_load_mid (by rfl) 49 (.tmp 30) rfl g30 0 rfl QL _ (fun w' h => Arr.range h.1) Try.underlying49 rfl HQn.out) (by assumption) ?_
                      simp only [Act.put, List.setIfInBounds_toArray, List.set_cons_zero, List.set_cons_succ]
                      refine anyH_take (i := 1) (v := .slice (some ⟨gw, 0, none⟩) 2 2) (some 170) rfl rfl (by kernel_rfl) (by kernel_rfl) (by kernel_rfl) (fun _ _ _ h => h) (Or.inl ⟨by rfl, fun _ hw => by rfl⟩) (by assumption) ?_
                      simp only [Act.put, List.setIfInBounds_toArray, List.set_cons_zero, List.set_cons_succ]
                      refine anyH_take (i := 2) (v := .int .i64 (q : Nat)) (some 171) rfl rfl (by kernel_rfl) (by kernel_rfl) (by kernel_rfl) (fun _ _ _ h => h) (Or.inl ⟨by rfl, fun _ hw => by rfl⟩) (by assumption) ?_
                      simp only [Act.put, List.setIfInBounds_toArray, List.set_cons_zero, List.set_cons_succ]
                      refine anyH_take (i := 3) (v := .pointer (some ⟨gw, q * 64, none⟩)) (some 172) rfl rfl (by kernel_rfl) (by kernel_rfl) (by kernel_rfl) (fun _ _ _ h => h) (Or.inl ⟨by rfl, fun _ hw => by go_simp⟩) (by assumption) ?_
                      simp only [Act.put, List.setIfInBounds_toArray, List.set_cons_zero, List.set_cons_succ]
                      refine anyH_take (i := 4) (v := .agg QL.toArray) (some 173) rfl rfl (by kernel_rfl) (by kernel_rfl) (by kernel_rfl) (fun _ _ _ h => h) (yieldsIf_load_mid (by rfl) 49 (.tmp 172) rfl gw (q * 64) rfl QL _ (fun w' h => h.2) Try.underlying49 rfl HQn.out) (by assumption) ?_
                      simp only [Act.put, List.setIfInBounds_toArray, List.set_cons_zero, List.set_cons_succ]
                      refine anyH_take (i := 5) (v := .bool (!true)) (some 174) rfl rfl (by kernel_rfl) (by kernel_rfl) (by kernel_rfl) (fun _ _ _ h => h) (yieldsIf_neqC (by rfl) 49 _ _ _ rfl QL QL rfl rfl true HqS.out gtSec) (by assumption) ?_
                      simp only [Act.put, List.setIfInBounds_toArray, List.set_cons_zero, List.set_cons_succ]
                      refine wpAnyH_done (by kernel_rfl) ?_ _
                      clear hHeld
                      go_wp2_with fail
                      go_roundw
                      case rel => exact ⟨q + 1, by omega, by go_num, HBf⟩
                      case measure => (simp [Go.RowKit.intOf]; try omega)
                    · obtain rfl : q = 2 := by omega
                      have hjw : IntKind.i64.wrap ((j : Int) + 1) = ((j + 1 : Nat) : Int) := by rw [show (j : Int) + 1 = ((j + 1 : Nat) : Int) by omega]; exact IntWalk.i64_in _ (by omega)
                      clear hq2
                      go_wp2_with fail
                      go_roundw
                      case rel => exact ⟨j + 1, S2, F2, by omega, by go_num, HQz⟩
                      case measure => (simp [Go.RowKit.intOf]; try omega)
                · have HS2 := Lib.hid hS2
                  clear hS2
                  go_wp2_with (first | ((with_reducible refine wpList_at 136 (by rfl) ?_); refine wpList_load_mid_ifC (by rfl) 26 _ rfl gr 0 rfl RL _ HR6r.out Try.underlying26 rfl HRl.out ?_))
                  refine Calls.mono Hm6.out ?_
                  rintro e w7 ⟨rfl, hb7⟩
                  have HQ7 := Lib.hid (HQ6.out.up hb7)
                  have HR7r := Lib.hid (show w7.rangeAt gr 0 RL from HQ7.out.x.r.range)
                  have Hm7 := Lib.hid (may14_any r Hwr.out RL HRL.out w7)
                  rw [Hok.out] at Hm7
                  clear hb7 HQ6 HR6r Hm6
                  go_wp2_with (first | ((with_reducible refine wpList_at 142 (by rfl) ?_); refine wpList_load_mid_ifC (by rfl) 26 _ rfl gr 0 rfl RL _ HR7r.out Try.underlying26 rfl HRl.out ?_))
                  refine Calls.mono Hm7.out ?_
                  rintro e w8 ⟨rfl, hb8⟩
                  have HQ8 := Lib.hid (HQ7.out.up hb8)
                  have HR8r := Lib.hid (show w8.rangeAt gr 0 RL from HQ8.out.x.r.range)
                  have Hm8 := Lib.hid (may14_any r Hwr.out RL HRL.out w8)
                  rw [Hok.out] at Hm8
                  clear hb8 HQ7 HR7r Hm7
                  go_upto_region 32 with fail
                  go_wp2_with (first | ((with_reducible refine wpList_at 150 (by rfl) ?_); refine wpList_load_mid_ifC (by rfl) 26 _ rfl gr 0 rfl RL _ HR8r.out Try.underlying26 rfl HRl.out ?_))
                  refine Calls.mono Hm8.out ?_
                  rintro e w9 ⟨rfl, hb9⟩
                  have HQ9 := Lib.hid (HQ8.out.up hb9)
                  have HR9r := Lib.hid (show w9.rangeAt gr 0 RL from HQ9.out.x.r.range)
                  clear hb9 HQ8 HR8r Hm8
                  have HQb := Lib.hid (show TQ w gr gd gw k RL GL S2 S2 F2 (j + 1) w9 by
                    have h := HQ9.out
                    rwa [← HS2.out] at h)
                  clear HQ9 HR9r
                  go_upto_region 34 with fail
                  obtain ⟨wz, hwz⟩ : ∃ z, z = w9 := ⟨_, rfl⟩
                  rw [← hwz] at HQb ⊢
                  clear hwz
                  go_wp2_with fail
                  go_loopw [160] (fun x wr => ∃ q : Nat, q ≤ 2 ∧ x = .int .i64 q ∧ Hid (Below wz.heap.size wz wr)) (fun x _ => 2 - (Go.RowKit.intOf x).toNat)
                  case atStart => exact ⟨0, by omega, rfl, Lib.hid (Below.refl _ _)⟩
                  case round =>
                    obtain ⟨q, hq, rfl, HBz⟩ := hrel
                    have HQz := Lib.hid (HQb.out.up HBz.out)
                    by_cases hq2 : q < 2
                    · have hd1 : decide ((q : Int) < (2 : Int)) = true := by simp; omega
                      have hd1n : decide (q < 2) = true := decide_eq_true hq2
                      have hqI : (q : Int) < (2 : Int) := by omega
                      have hqw : IntKind.i64.wrap ((q : Int) + 1) = ((q + 1 : Nat) : Int) := by rw [show (q : Int) + 1 = ((q + 1 : Nat) : Int) by omega]; exact IntWalk.i64_in _ (by omega)
                      obtain ⟨s, hs⟩ : ∃ s, S2.getD q [] = s := ⟨_, rfl⟩
                      have Hsl := Lib.hid (show s.length = 64 by rw [← hs]; exact HQz.out.sec hq2)
                      obtain ⟨QL, hQL⟩ : ∃ z, z = Lib.byteCells s := ⟨_, rfl⟩
                      have HQn := Lib.hid (show (Try.prog.info? 49).map (·.size) = some QL.length by rw [hQL, Lib.byteCells_length, Hsl.out]; exact secInfo)
                      have HQi := Lib.hid (show (Try.prog.info? 49).map (·.size) = some QL.toArray.size ∧ ZS.toArray.size = QL.toArray.size by rw [List.size_toArray, List.size_toArray, hQL, Lib.byteCells_length, Hsl.out, HZS.out]; exact ⟨secInfo, rfl⟩)
                      have HQ1 := Lib.hid (show QL.toArray.all (·.oneCell') = true by rw [hQL]; exact sec_one _)
                      have HqS := Lib.hid (fun w : World => show (Op.equalIn 10000 49 (.agg QL.toArray) (.agg QL.toArray)).run Try.prog w = .ok true w by have h := sec_eqvS Hsl.out Hsl.out hQL hQL w; rwa [decide_eq_true rfl] at h)
                      have Hrd := Lib.hid (show Calls Try.prog 28 #[.pointer (some ⟨k, 0, none⟩), .int .i64 (q : Nat)] wr fun e w' => e = .returned (.tuple #[.agg QL.toArray, .int .i64 0]) ∧ Below wr.heap.size wr w' by
                        obtain ⟨W, _, hk⟩ := HQz.out.dk
                        exact hk.read q hq2 QL (by rw [hs]; exact hQL))
                      have Hwant := Lib.hid (fun (w' : World) (h : TQ w gr gd gw k RL GL S2 S2 F2 (j + 1) w') => show w'.rangeAt gw (q * 64) QL from want_range h.a h.l.2 (by rw [h.l.1]; exact hq2) (by rw [hs]; exact hQL))
                      clear hs hQL
                      go_wp2_with fail
                      refine Calls.mono Hrd.out ?_
                      rintro e wd ⟨rfl, hbd⟩
                      have HBd := Lib.hid (HBz.out.trans (hbd.mono HBz.out.size))
                      obtain ⟨g30, hg30⟩ : ∃ z, z = wd.heap.size := ⟨_, rfl⟩
                      have Hg30 := Lib.hid hg30
                      clear hbd hg30 Hrd HQz HBz
                      go_upto_region 38 with (first | (refine wpList_allocZC rfl 49 rfl ZS.toArray (HZS0.out _) ?_) | (change wpList _ _ _ _ _ (wd.alloc (.cells ZS.toArray 49)); refine wpList_store_row rfl _ _ _ rfl wd.heap.size QL.toArray rfl rfl 49 ZS.toArray (heap_alloc_new wd _) HQi.out.1 HQi.out.2 HQ1.out ?_; obtain ⟨we, hwe⟩ : ∃ x, x = (wd.alloc (.cells ZS.toArray 49)).setRow wd.heap.size QL.toArray := ⟨_, rfl⟩; rw [← hwe]; obtain ⟨hPe, hbe⟩ := alloc_row wd 49 ZS.toArray QL; rw [← hwe] at hPe hbe; clear hwe))
                      rw [← Hg30.out] at hPe ⊢
                      have HBe := Lib.hid (HBd.out.trans (hbe.mono HBd.out.size))
                      have HWr := Lib.hid (Hwant.out we (HQb.out.up HBe.out))
                      have HBf := Lib.hid (Below.dN HBe.out 1)
                      clear hbe HBd Hwant
                      refine wp_region_held_drew (S := fun w' => Arr w' g30 49 QL ∧ w'.rangeAt gw (q * 64) QL) (by kernel_rfl) ⟨Arr.drewN hPe 1, fun j v hj => HWr.out j v hj⟩ (fun hHeld => ?_)
                      refine anyH_take (i := 0) (v := .agg QL.toArray) (some 169) rfl rfl (by kernel_rfl) (by kernel_rfl) (by kernel_rfl) (fun _ _ _ h => h) (yieldsIf_load_mid (by rfl) 49 (.tmp 30) rfl g30 0 rfl QL _ (fun w' h => Arr.range h.1) Try.underlying49 rfl HQn.out) (by assumption) ?_
                      simp only [Act.put, List.setIfInBounds_toArray, List.set_cons_zero, List.set_cons_succ]
                      refine anyH_take (i := 1) (v := .slice (some ⟨gw, 0, none⟩) 2 2) (some 170) rfl rfl (by kernel_rfl) (by kernel_rfl) (by kernel_rfl) (fun _ _ _ h => h) (Or.inl ⟨by rfl, fun _ hw => by rfl⟩) (by assumption) ?_
                      simp only [Act.put, List.setIfInBounds_toArray, List.set_cons_zero, List.set_cons_succ]
                      refine anyH_take (i := 2) (v := .int .i64 (q : Nat)) (some 171) rfl rfl (by kernel_rfl) (by kernel_rfl) (by kernel_rfl) (fun _ _ _ h => h) (Or.inl ⟨by rfl, fun _ hw => by rfl⟩) (by assumption) ?_
                      simp only [Act.put, List.setIfInBounds_toArray, List.set_cons_zero, List.set_cons_succ]
                      refine anyH_take (i := 3) (v := .pointer (some ⟨gw, q * 64, none⟩)) (some 172) rfl rfl (by kernel_rfl) (by kernel_rfl) (by kernel_rfl) (fun _ _ _ h => h) (Or.inl ⟨by rfl, fun _ hw => by go_simp⟩) (by assumption) ?_
                      simp only [Act.put, List.setIfInBounds_toArray, List.set_cons_zero, List.set_cons_succ]
                      refine anyH_take (i := 4) (v := .agg QL.toArray) (some 173) rfl rfl (by kernel_rfl) (by kernel_rfl) (by kernel_rfl) (fun _ _ _ h => h) (yieldsIf_load_mid (by rfl) 49 (.tmp 172) rfl gw (q * 64) rfl QL _ (fun w' h => h.2) Try.underlying49 rfl HQn.out) (by assumption) ?_
                      simp only [Act.put, List.setIfInBounds_toArray, List.set_cons_zero, List.set_cons_succ]
                      refine anyH_take (i := 5) (v := .bool (!true)) (some 174) rfl rfl (by kernel_rfl) (by kernel_rfl) (by kernel_rfl) (fun _ _ _ h => h) (yieldsIf_neqC (by rfl) 49 _ _ _ rfl QL QL rfl rfl true HqS.out gtSec) (by assumption) ?_
                      simp only [Act.put, List.setIfInBounds_toArray, List.set_cons_zero, List.set_cons_succ]
                      refine wpAnyH_done (by kernel_rfl) ?_ _
                      clear hHeld
                      go_wp2_with fail
                      go_roundw
                      case rel => exact ⟨q + 1, by omega, by go_num, HBf⟩
                      case measure => (simp [Go.RowKit.intOf]; try omega)
                    · obtain rfl : q = 2 := by omega
                      have hjw : IntKind.i64.wrap ((j : Int) + 1) = ((j + 1 : Nat) : Int) := by rw [show (j : Int) + 1 = ((j + 1 : Nat) : Int) by omega]; exact IntWalk.i64_in _ (by omega)
                      clear hq2
                      go_wp2_with fail
                      go_roundw
                      case rel => exact ⟨j + 1, S2, F2, by omega, by go_num, HQz⟩
                      case measure => (simp [Go.RowKit.intOf]; try omega)
          | false =>
            have he := Her.out.2 rfl
            subst he
            go_upto_region 25 with (first | ((with_reducible refine wpList_at 98 (by rfl) ?_); refine wpList_load_mid_ifC (by rfl) 26 _ rfl g24 0 rfl TL _ HY3r.out Try.underlying26 rfl HTn.out ?_) | ((with_reducible refine wpList_at 99 (by rfl) ?_); refine wpList_load_mid_ifC (by rfl) 26 _ rfl g17 0 rfl TL _ HP3r.out Try.underlying26 rfl HTn.out ?_) | ((with_reducible refine wpList_at 100 (by rfl) ?_); refine wpList_neq_ifC (by rfl) 26 _ _ _ rfl TL TL rfl rfl true HqT.out gtR ?_))
            go_wp2_with fail
            refine Calls.mono Hrd.out ?_
            rintro e w4 ⟨rfl, hb4⟩
            have HB4 := Lib.hid (HB3.out.trans (hb4.mono HB3.out.size))
            obtain ⟨g26, hg26⟩ : ∃ z, z = w4.heap.size := ⟨_, rfl⟩
            have Hg26 := Lib.hid hg26
            clear hb4 hg26 Hrd HP3r HY3r HQ3 HB3
            go_upto_region 26 with (first | (refine wpList_allocZC rfl 26 rfl ZL.toArray (HZ0.out _) ?_) | (change wpList _ _ _ _ _ (w4.alloc (.cells ZL.toArray 26)); refine wpList_store_row rfl _ _ _ rfl w4.heap.size UL.toArray rfl rfl 26 ZL.toArray (heap_alloc_new w4 _) HUi.out.1 HUi.out.2 HU1.out ?_; obtain ⟨w5, hw5⟩ : ∃ x, x = (w4.alloc (.cells ZL.toArray 26)).setRow w4.heap.size UL.toArray := ⟨_, rfl⟩; rw [← hw5]; obtain ⟨hP5, hb5⟩ := alloc_row w4 26 ZL.toArray UL; rw [← hw5] at hP5 hb5; clear hw5))
            rw [← Hg26.out] at hP5 ⊢
            have HB5 := Lib.hid (HB4.out.trans (hb5.mono HB4.out.size))
            have HQ5 := Lib.hid (HQ.out.up HB5.out)
            clear hP5 hb5 HB4
            have Hway := Lib.hid (show tb = false ∨ (tb = true ∧ sl = 0) ∨ (tb = true ∧ sl = 1) by
              cases tb with
              | false => exact .inl rfl
              | true => exact .inr ((Hs2.out rfl).imp (fun h => ⟨rfl, h⟩) (fun h => ⟨rfl, h⟩)))
            rcases Hway.out with h0 | ⟨h0, h1⟩ | ⟨h0, h1⟩
            · subst h0
              go_upto_region 28 with fail
              by_cases hj1 : j = 1
              · have Hbe := Lib.hid HQ5.out.x.b
                have q3 : ((j : Int) == 1) = true := by rw [hj1]; rfl
                have q3n : (j == 1) = true := by rw [hj1]; rfl
                clear hj1
                go_wp2_with fail
                go_ret
                exact ⟨rfl, Hbe.out⟩
              · have q3 : ((j : Int) == 1) = false := by rw [beq_eq_false_iff_ne]; omega
                have q3n : (j == 1) = false := by rw [beq_eq_false_iff_ne]; omega
                have Hj0 := Lib.hid (show j = 0 by omega)
                clear hj1
                go_upto_region 29 with fail
                have HR5r := Lib.hid (show w5.rangeAt gr 0 RL from HQ5.out.x.r.range)
                have HRl := Lib.hid (show (Try.prog.info? 26).map (·.size) = some RL.length from HRn.out)
                have Hw := Lib.hid (HQ5.out.write (by omega) ep Hep.out r Hwr.out RL HRL.out)
                clear q3 q3n HB5
                go_wp2_with (first | ((with_reducible refine wpList_at 134 (by rfl) ?_); refine wpList_load_mid_ifC (by rfl) 26 _ rfl gr 0 rfl RL _ HR5r.out Try.underlying26 rfl HRl.out ?_))
                refine Calls.mono Hw.out ?_
                rintro e w6 ⟨F2, hres⟩
                have Hm6 := Lib.hid (may14_any r Hwr.out RL HRL.out w6)
                obtain ⟨ok, hok⟩ : ∃ z, okR r = z := ⟨_, rfl⟩
                obtain ⟨c, S2, rfl, hQ6, hc⟩ : ∃ (c : Int) (S2 : List (List UInt8)), e = .returned (.int .i64 c) ∧ TQ w gr gd gw k RL GL S S2 F2 (j + 1) w6 ∧ ((ok = true ∧ c = 0 ∧ S2 = S.set (ep % 2) (layR r)) ∨ (ok = false ∧ c = 1 ∧ S2 = S)) := by
                  rcases hres with ⟨h1, h2, h3⟩ | ⟨h1, h2, h3⟩
                  · exact ⟨_, _, h2, h3, .inl ⟨by rw [← hok]; exact okR_iff.2 h1, rfl, rfl⟩⟩
                  · exact ⟨_, _, h2, h3, .inr ⟨by rw [← hok]; cases hz : okR r with | false => rfl | true => exact absurd (okR_iff.1 hz) h1, rfl, rfl⟩⟩
                have HQ6 := Lib.hid hQ6
                have HR6r := Lib.hid (show w6.rangeAt gr 0 RL from hQ6.x.r.range)
                rw [hok] at Hm6
                have Hok := Lib.hid hok
                clear hQ6 hres Hw HR5r hok HQ5
                rcases hc with ⟨rfl, rfl, hS2⟩ | ⟨rfl, rfl, hS2⟩
                · have HS2 := Lib.hid hS2
                  clear hS2
                  go_wp2_with (first | ((with_reducible refine wpList_at 136 (by rfl) ?_); refine wpList_load_mid_ifC (by rfl) 26 _ rfl gr 0 rfl RL _ HR6r.out Try.underlying26 rfl HRl.out ?_))
                  refine Calls.mono Hm6.out ?_
                  rintro e w7 ⟨rfl, hb7⟩
                  have HQ7 := Lib.hid (HQ6.out.up hb7)
                  have HR7r := Lib.hid (show w7.rangeAt gr 0 RL from HQ7.out.x.r.range)
                  have Hm7 := Lib.hid (may14_any r Hwr.out RL HRL.out w7)
                  rw [Hok.out] at Hm7
                  clear hb7 HQ6 HR6r Hm6
                  go_wp2_with (first | ((with_reducible refine wpList_at 142 (by rfl) ?_); refine wpList_load_mid_ifC (by rfl) 26 _ rfl gr 0 rfl RL _ HR7r.out Try.underlying26 rfl HRl.out ?_))
                  refine Calls.mono Hm7.out ?_
                  rintro e w8 ⟨rfl, hb8⟩
                  have HQ8 := Lib.hid (HQ7.out.up hb8)
                  have HR8r := Lib.hid (show w8.rangeAt gr 0 RL from HQ8.out.x.r.range)
                  have Hm8 := Lib.hid (may14_any r Hwr.out RL HRL.out w8)
                  rw [Hok.out] at Hm8
                  clear hb8 HQ7 HR7r Hm7
                  go_upto_region 32 with fail
                  go_wp2_with (first | ((with_reducible refine wpList_at 150 (by rfl) ?_); refine wpList_load_mid_ifC (by rfl) 26 _ rfl gr 0 rfl RL _ HR8r.out Try.underlying26 rfl HRl.out ?_))
                  refine Calls.mono Hm8.out ?_
                  rintro e w9 ⟨rfl, hb9⟩
                  have HQ9 := Lib.hid (HQ8.out.up hb9)
                  have HR9r := Lib.hid (show w9.rangeAt gr 0 RL from HQ9.out.x.r.range)
                  clear hb9 HQ8 HR8r Hm8
                  obtain ⟨p2, hp2⟩ : ∃ a, ep % 2 = a := ⟨_, rfl⟩
                  have hpI : (ep : Int) % 2 = (p2 : Int) := by omega
                  have hpT : (ep : Int).tmod 2 = (p2 : Int) := by rw [Int.tmod_eq_emod_of_nonneg (by omega)]; exact hpI
                  have hpw : IntKind.u64.wrap (p2 : Int) = (p2 : Int) := IntWalk.u64_in _ (by omega)
                  have hpl : p2 < 2 := by omega
                  have hplI : (p2 : Int) < (2 : Int) := by omega
                  rw [hp2] at HS2
                  obtain ⟨LL, hLL⟩ : ∃ z, z = Lib.byteCells (layR r) := ⟨_, rfl⟩
                  have HLL := Lib.hid hLL
                  have HLi := Lib.hid (show (Try.prog.info? 49).map (·.size) = some LL.toArray.size by rw [List.size_toArray, hLL, Lib.byteCells_length, layR_length Hwr.out.d]; exact secInfo)
                  have HL1 := Lib.hid (show LL.toArray.all (·.oneCell') = true by rw [hLL]; exact sec_one _)
                  have HLz := Lib.hid (show LL.toArray.size = 64 by rw [List.size_toArray, hLL, Lib.byteCells_length, layR_length Hwr.out.d])
                  have Hld := Lib.hid (laid_any r Hwr.out RL LL HRL.out hLL w9)
                  clear hLL hp2
                  go_wp2_with (first | ((with_reducible refine wpList_at 155 (by rfl) ?_); refine wpList_load_mid_ifC (by rfl) 26 _ rfl gr 0 rfl RL _ HR9r.out Try.underlying26 rfl HRl.out ?_))
                  refine Calls.mono Hld.out ?_
                  rintro e wa ⟨rfl, hba⟩
                  have HQa := Lib.hid (HQ9.out.up hba)
                  have Hth := Lib.hid (show wa.there gw (p2 * 64) LL.toArray.size by rw [HLz.out]; exact HQa.out.there hpl)
                  clear hba HQ9 HR9r Hld
                  go_upto_region 34 with (first | (refine wpList_store_mid rfl 49 _ _ rfl gw (p2 * 64) LL.toArray rfl rfl Hth.out HLi.out HL1.out ?_))
                  have HQb := Lib.hid (show TQ w gr gd gw k RL GL S2 S2 F2 (j + 1) (wa.setCells gw (p2 * 64) LL) by
                    have h := HQa.out.set hpl (layR_length Hwr.out.d) HLL.out
                    rwa [← HS2.out] at h)
                  obtain ⟨wb, hwb⟩ : ∃ z, z = wa.setCells gw (p2 * 64) LL := ⟨_, rfl⟩
                  rw [← hwb] at HQb
                  try rw [show LL.toArray.toList = LL from rfl]
                  rw [← hwb]
                  clear hwb Hth HQa
                  obtain ⟨wz, hwz⟩ : ∃ z, z = wb := ⟨_, rfl⟩
                  rw [← hwz] at HQb ⊢
                  clear hwz
                  go_wp2_with fail
                  go_loopw [160] (fun x wr => ∃ q : Nat, q ≤ 2 ∧ x = .int .i64 q ∧ Hid (Below wz.heap.size wz wr)) (fun x _ => 2 - (Go.RowKit.intOf x).toNat)
                  case atStart => exact ⟨0, by omega, rfl, Lib.hid (Below.refl _ _)⟩
                  case round =>
                    obtain ⟨q, hq, rfl, HBz⟩ := hrel
                    have HQz := Lib.hid (HQb.out.up HBz.out)
                    by_cases hq2 : q < 2
                    · have hd1 : decide ((q : Int) < (2 : Int)) = true := by simp; omega
                      have hd1n : decide (q < 2) = true := decide_eq_true hq2
                      have hqI : (q : Int) < (2 : Int) := by omega
                      have hqw : IntKind.i64.wrap ((q : Int) + 1) = ((q + 1 : Nat) : Int) := by rw [show (q : Int) + 1 = ((q + 1 : Nat) : Int) by omega]; exact IntWalk.i64_in _ (by omega)
                      obtain ⟨s, hs⟩ : ∃ s, S2.getD q [] = s := ⟨_, rfl⟩
                      have Hsl := Lib.hid (show s.length = 64 by rw [← hs]; exact HQz.out.sec hq2)
                      obtain ⟨QL, hQL⟩ : ∃ z, z = Lib.byteCells s := ⟨_, rfl⟩
                      have HQn := Lib.hid (show (Try.prog.info? 49).map (·.size) = some QL.length by rw [hQL, Lib.byteCells_length, Hsl.out]; exact secInfo)
                      have HQi := Lib.hid (show (Try.prog.info? 49).map (·.size) = some QL.toArray.size ∧ ZS.toArray.size = QL.toArray.size by rw [List.size_toArray, List.size_toArray, hQL, Lib.byteCells_length, Hsl.out, HZS.out]; exact ⟨secInfo, rfl⟩)
                      have HQ1 := Lib.hid (show QL.toArray.all (·.oneCell') = true by rw [hQL]; exact sec_one _)
                      have HqS := Lib.hid (fun w : World => show (Op.equalIn 10000 49 (.agg QL.toArray) (.agg QL.toArray)).run Try.prog w = .ok true w by have h := sec_eqvS Hsl.out Hsl.out hQL hQL w; rwa [decide_eq_true rfl] at h)
                      have Hrd := Lib.hid (show Calls Try.prog 28 #[.pointer (some ⟨k, 0, none⟩), .int .i64 (q : Nat)] wr fun e w' => e = .returned (.tuple #[.agg QL.toArray, .int .i64 0]) ∧ Below wr.heap.size wr w' by
                        obtain ⟨W, _, hk⟩ := HQz.out.dk
                        exact hk.read q hq2 QL (by rw [hs]; exact hQL))
                      have Hwant := Lib.hid (fun (w' : World) (h : TQ w gr gd gw k RL GL S2 S2 F2 (j + 1) w') => show w'.rangeAt gw (q * 64) QL from want_range h.a h.l.2 (by rw [h.l.1]; exact hq2) (by rw [hs]; exact hQL))
                      clear hs hQL
                      go_wp2_with fail
                      refine Calls.mono Hrd.out ?_
                      rintro e wd ⟨rfl, hbd⟩
                      have HBd := Lib.hid (HBz.out.trans (hbd.mono HBz.out.size))
                      obtain ⟨g30, hg30⟩ : ∃ z, z = wd.heap.size := ⟨_, rfl⟩
                      have Hg30 := Lib.hid hg30
                      clear hbd hg30 Hrd HQz HBz
                      go_upto_region 38 with (first | (refine wpList_allocZC rfl 49 rfl ZS.toArray (HZS0.out _) ?_) | (change wpList _ _ _ _ _ (wd.alloc (.cells ZS.toArray 49)); refine wpList_store_row rfl _ _ _ rfl wd.heap.size QL.toArray rfl rfl 49 ZS.toArray (heap_alloc_new wd _) HQi.out.1 HQi.out.2 HQ1.out ?_; obtain ⟨we, hwe⟩ : ∃ x, x = (wd.alloc (.cells ZS.toArray 49)).setRow wd.heap.size QL.toArray := ⟨_, rfl⟩; rw [← hwe]; obtain ⟨hPe, hbe⟩ := alloc_row wd 49 ZS.toArray QL; rw [← hwe] at hPe hbe; clear hwe))
                      rw [← Hg30.out] at hPe ⊢
                      have HBe := Lib.hid (HBd.out.trans (hbe.mono HBd.out.size))
                      have HWr := Lib.hid (Hwant.out we (HQb.out.up HBe.out))
                      have HBf := Lib.hid (Below.dN HBe.out 1)
                      clear hbe HBd Hwant
                      refine wp_region_held_drew (S := fun w' => Arr w' g30 49 QL ∧ w'.rangeAt gw (q * 64) QL) (by kernel_rfl) ⟨Arr.drewN hPe 1, fun j v hj => HWr.out j v hj⟩ (fun hHeld => ?_)
                      refine anyH_take (i := 0) (v := .agg QL.toArray) (some 169) rfl rfl (by kernel_rfl) (by kernel_rfl) (by kernel_rfl) (fun _ _ _ h => h) (yieldsIf_load_mid (by rfl) 49 (.tmp 30) rfl g30 0 rfl QL _ (fun w' h => Arr.range h.1) Try.underlying49 rfl HQn.out) (by assumption) ?_
                      simp only [Act.put, List.setIfInBounds_toArray, List.set_cons_zero, List.set_cons_succ]
                      refine anyH_take (i := 1) (v := .slice (some ⟨gw, 0, none⟩) 2 2) (some 170) rfl rfl (by kernel_rfl) (by kernel_rfl) (by kernel_rfl) (fun _ _ _ h => h) (Or.inl ⟨by rfl, fun _ hw => by rfl⟩) (by assumption) ?_
                      simp only [Act.put, List.setIfInBounds_toArray, List.set_cons_zero, List.set_cons_succ]
                      refine anyH_take (i := 2) (v := .int .i64 (q : Nat)) (some 171) rfl rfl (by kernel_rfl) (by kernel_rfl) (by kernel_rfl) (fun _ _ _ h => h) (Or.inl ⟨by rfl, fun _ hw => by rfl⟩) (by assumption) ?_
                      simp only [Act.put, List.setIfInBounds_toArray, List.set_cons_zero, List.set_cons_succ]
                      refine anyH_take (i := 3) (v := .pointer (some ⟨gw, q * 64, none⟩)) (some 172) rfl rfl (by kernel_rfl) (by kernel_rfl) (by kernel_rfl) (fun _ _ _ h => h) (Or.inl ⟨by rfl, fun _ hw => by go_simp⟩) (by assumption) ?_
                      simp only [Act.put, List.setIfInBounds_toArray, List.set_cons_zero, List.set_cons_succ]
                      refine anyH_take (i := 4) (v := .agg QL.toArray) (some 173) rfl rfl (by kernel_rfl) (by kernel_rfl) (by kernel_rfl) (fun _ _ _ h => h) (yieldsIf_load_mid (by rfl) 49 (.tmp 172) rfl gw (q * 64) rfl QL _ (fun w' h => h.2) Try.underlying49 rfl HQn.out) (by assumption) ?_
                      simp only [Act.put, List.setIfInBounds_toArray, List.set_cons_zero, List.set_cons_succ]
                      refine anyH_take (i := 5) (v := .bool (!true)) (some 174) rfl rfl (by kernel_rfl) (by kernel_rfl) (by kernel_rfl) (fun _ _ _ h => h) (yieldsIf_neqC (by rfl) 49 _ _ _ rfl QL QL rfl rfl true HqS.out gtSec) (by assumption) ?_
                      simp only [Act.put, List.setIfInBounds_toArray, List.set_cons_zero, List.set_cons_succ]
                      refine wpAnyH_done (by kernel_rfl) ?_ _
                      clear hHeld
                      go_wp2_with fail
                      go_roundw
                      case rel => exact ⟨q + 1, by omega, by go_num, HBf⟩
                      case measure => (simp [Go.RowKit.intOf]; try omega)
                    · obtain rfl : q = 2 := by omega
                      have hjw : IntKind.i64.wrap ((j : Int) + 1) = ((j + 1 : Nat) : Int) := by rw [show (j : Int) + 1 = ((j + 1 : Nat) : Int) by omega]; exact IntWalk.i64_in _ (by omega)
                      clear hq2
                      go_wp2_with fail
                      go_roundw
                      case rel => exact ⟨j + 1, S2, F2, by omega, by go_num, HQz⟩
                      case measure => (simp [Go.RowKit.intOf]; try omega)
                · have HS2 := Lib.hid hS2
                  clear hS2
                  go_wp2_with (first | ((with_reducible refine wpList_at 136 (by rfl) ?_); refine wpList_load_mid_ifC (by rfl) 26 _ rfl gr 0 rfl RL _ HR6r.out Try.underlying26 rfl HRl.out ?_))
                  refine Calls.mono Hm6.out ?_
                  rintro e w7 ⟨rfl, hb7⟩
                  have HQ7 := Lib.hid (HQ6.out.up hb7)
                  have HR7r := Lib.hid (show w7.rangeAt gr 0 RL from HQ7.out.x.r.range)
                  have Hm7 := Lib.hid (may14_any r Hwr.out RL HRL.out w7)
                  rw [Hok.out] at Hm7
                  clear hb7 HQ6 HR6r Hm6
                  go_wp2_with (first | ((with_reducible refine wpList_at 142 (by rfl) ?_); refine wpList_load_mid_ifC (by rfl) 26 _ rfl gr 0 rfl RL _ HR7r.out Try.underlying26 rfl HRl.out ?_))
                  refine Calls.mono Hm7.out ?_
                  rintro e w8 ⟨rfl, hb8⟩
                  have HQ8 := Lib.hid (HQ7.out.up hb8)
                  have HR8r := Lib.hid (show w8.rangeAt gr 0 RL from HQ8.out.x.r.range)
                  have Hm8 := Lib.hid (may14_any r Hwr.out RL HRL.out w8)
                  rw [Hok.out] at Hm8
                  clear hb8 HQ7 HR7r Hm7
                  go_upto_region 32 with fail
                  go_wp2_with (first | ((with_reducible refine wpList_at 150 (by rfl) ?_); refine wpList_load_mid_ifC (by rfl) 26 _ rfl gr 0 rfl RL _ HR8r.out Try.underlying26 rfl HRl.out ?_))
                  refine Calls.mono Hm8.out ?_
                  rintro e w9 ⟨rfl, hb9⟩
                  have HQ9 := Lib.hid (HQ8.out.up hb9)
                  have HR9r := Lib.hid (show w9.rangeAt gr 0 RL from HQ9.out.x.r.range)
                  clear hb9 HQ8 HR8r Hm8
                  have HQb := Lib.hid (show TQ w gr gd gw k RL GL S2 S2 F2 (j + 1) w9 by
                    have h := HQ9.out
                    rwa [← HS2.out] at h)
                  clear HQ9 HR9r
                  go_upto_region 34 with fail
                  obtain ⟨wz, hwz⟩ : ∃ z, z = w9 := ⟨_, rfl⟩
                  rw [← hwz] at HQb ⊢
                  clear hwz
                  go_wp2_with fail
                  go_loopw [160] (fun x wr => ∃ q : Nat, q ≤ 2 ∧ x = .int .i64 q ∧ Hid (Below wz.heap.size wz wr)) (fun x _ => 2 - (Go.RowKit.intOf x).toNat)
                  case atStart => exact ⟨0, by omega, rfl, Lib.hid (Below.refl _ _)⟩
                  case round =>
                    obtain ⟨q, hq, rfl, HBz⟩ := hrel
                    have HQz := Lib.hid (HQb.out.up HBz.out)
                    by_cases hq2 : q < 2
                    · have hd1 : decide ((q : Int) < (2 : Int)) = true := by simp; omega
                      have hd1n : decide (q < 2) = true := decide_eq_true hq2
                      have hqI : (q : Int) < (2 : Int) := by omega
                      have hqw : IntKind.i64.wrap ((q : Int) + 1) = ((q + 1 : Nat) : Int) := by rw [show (q : Int) + 1 = ((q + 1 : Nat) : Int) by omega]; exact IntWalk.i64_in _ (by omega)
                      obtain ⟨s, hs⟩ : ∃ s, S2.getD q [] = s := ⟨_, rfl⟩
                      have Hsl := Lib.hid (show s.length = 64 by rw [← hs]; exact HQz.out.sec hq2)
                      obtain ⟨QL, hQL⟩ : ∃ z, z = Lib.byteCells s := ⟨_, rfl⟩
                      have HQn := Lib.hid (show (Try.prog.info? 49).map (·.size) = some QL.length by rw [hQL, Lib.byteCells_length, Hsl.out]; exact secInfo)
                      have HQi := Lib.hid (show (Try.prog.info? 49).map (·.size) = some QL.toArray.size ∧ ZS.toArray.size = QL.toArray.size by rw [List.size_toArray, List.size_toArray, hQL, Lib.byteCells_length, Hsl.out, HZS.out]; exact ⟨secInfo, rfl⟩)
                      have HQ1 := Lib.hid (show QL.toArray.all (·.oneCell') = true by rw [hQL]; exact sec_one _)
                      have HqS := Lib.hid (fun w : World => show (Op.equalIn 10000 49 (.agg QL.toArray) (.agg QL.toArray)).run Try.prog w = .ok true w by have h := sec_eqvS Hsl.out Hsl.out hQL hQL w; rwa [decide_eq_true rfl] at h)
                      have Hrd := Lib.hid (show Calls Try.prog 28 #[.pointer (some ⟨k, 0, none⟩), .int .i64 (q : Nat)] wr fun e w' => e = .returned (.tuple #[.agg QL.toArray, .int .i64 0]) ∧ Below wr.heap.size wr w' by
                        obtain ⟨W, _, hk⟩ := HQz.out.dk
                        exact hk.read q hq2 QL (by rw [hs]; exact hQL))
                      have Hwant := Lib.hid (fun (w' : World) (h : TQ w gr gd gw k RL GL S2 S2 F2 (j + 1) w') => show w'.rangeAt gw (q * 64) QL from want_range h.a h.l.2 (by rw [h.l.1]; exact hq2) (by rw [hs]; exact hQL))
                      clear hs hQL
                      go_wp2_with fail
                      refine Calls.mono Hrd.out ?_
                      rintro e wd ⟨rfl, hbd⟩
                      have HBd := Lib.hid (HBz.out.trans (hbd.mono HBz.out.size))
                      obtain ⟨g30, hg30⟩ : ∃ z, z = wd.heap.size := ⟨_, rfl⟩
                      have Hg30 := Lib.hid hg30
                      clear hbd hg30 Hrd HQz HBz
                      go_upto_region 38 with (first | (refine wpList_allocZC rfl 49 rfl ZS.toArray (HZS0.out _) ?_) | (change wpList _ _ _ _ _ (wd.alloc (.cells ZS.toArray 49)); refine wpList_store_row rfl _ _ _ rfl wd.heap.size QL.toArray rfl rfl 49 ZS.toArray (heap_alloc_new wd _) HQi.out.1 HQi.out.2 HQ1.out ?_; obtain ⟨we, hwe⟩ : ∃ x, x = (wd.alloc (.cells ZS.toArray 49)).setRow wd.heap.size QL.toArray := ⟨_, rfl⟩; rw [← hwe]; obtain ⟨hPe, hbe⟩ := alloc_row wd 49 ZS.toArray QL; rw [← hwe] at hPe hbe; clear hwe))
                      rw [← Hg30.out] at hPe ⊢
                      have HBe := Lib.hid (HBd.out.trans (hbe.mono HBd.out.size))
                      have HWr := Lib.hid (Hwant.out we (HQb.out.up HBe.out))
                      have HBf := Lib.hid (Below.dN HBe.out 1)
                      clear hbe HBd Hwant
                      refine wp_region_held_drew (S := fun w' => Arr w' g30 49 QL ∧ w'.rangeAt gw (q * 64) QL) (by kernel_rfl) ⟨Arr.drewN hPe 1, fun j v hj => HWr.out j v hj⟩ (fun hHeld => ?_)
                      refine anyH_take (i := 0) (v := .agg QL.toArray) (some 169) rfl rfl (by kernel_rfl) (by kernel_rfl) (by kernel_rfl) (fun _ _ _ h => h) (yieldsIf_load_mid (by rfl) 49 (.tmp 30) rfl g30 0 rfl QL _ (fun w' h => Arr.range h.1) Try.underlying49 rfl HQn.out) (by assumption) ?_
                      simp only [Act.put, List.setIfInBounds_toArray, List.set_cons_zero, List.set_cons_succ]
                      refine anyH_take (i := 1) (v := .slice (some ⟨gw, 0, none⟩) 2 2) (some 170) rfl rfl (by kernel_rfl) (by kernel_rfl) (by kernel_rfl) (fun _ _ _ h => h) (Or.inl ⟨by rfl, fun _ hw => by rfl⟩) (by assumption) ?_
                      simp only [Act.put, List.setIfInBounds_toArray, List.set_cons_zero, List.set_cons_succ]
                      refine anyH_take (i := 2) (v := .int .i64 (q : Nat)) (some 171) rfl rfl (by kernel_rfl) (by kernel_rfl) (by kernel_rfl) (fun _ _ _ h => h) (Or.inl ⟨by rfl, fun _ hw => by rfl⟩) (by assumption) ?_
                      simp only [Act.put, List.setIfInBounds_toArray, List.set_cons_zero, List.set_cons_succ]
                      refine anyH_take (i := 3) (v := .pointer (some ⟨gw, q * 64, none⟩)) (some 172) rfl rfl (by kernel_rfl) (by kernel_rfl) (by kernel_rfl) (fun _ _ _ h => h) (Or.inl ⟨by rfl, fun _ hw => by go_simp⟩) (by assumption) ?_
                      simp only [Act.put, List.setIfInBounds_toArray, List.set_cons_zero, List.set_cons_succ]
                      refine anyH_take (i := 4) (v := .agg QL.toArray) (some 173) rfl rfl (by kernel_rfl) (by kernel_rfl) (by kernel_rfl) (fun _ _ _ h => h) (yieldsIf_load_mid (by rfl) 49 (.tmp 172) rfl gw (q * 64) rfl QL _ (fun w' h => h.2) Try.underlying49 rfl HQn.out) (by assumption) ?_
                      simp only [Act.put, List.setIfInBounds_toArray, List.set_cons_zero, List.set_cons_succ]
                      refine anyH_take (i := 5) (v := .bool (!true)) (some 174) rfl rfl (by kernel_rfl) (by kernel_rfl) (by kernel_rfl) (fun _ _ _ h => h) (yieldsIf_neqC (by rfl) 49 _ _ _ rfl QL QL rfl rfl true HqS.out gtSec) (by assumption) ?_
                      simp only [Act.put, List.setIfInBounds_toArray, List.set_cons_zero, List.set_cons_succ]
                      refine wpAnyH_done (by kernel_rfl) ?_ _
                      clear hHeld
                      go_wp2_with fail
                      go_roundw
                      case rel => exact ⟨q + 1, by omega, by go_num, HBf⟩
                      case measure => (simp [Go.RowKit.intOf]; try omega)
                    · obtain rfl : q = 2 := by omega
                      have hjw : IntKind.i64.wrap ((j : Int) + 1) = ((j + 1 : Nat) : Int) := by rw [show (j : Int) + 1 = ((j + 1 : Nat) : Int) by omega]; exact IntWalk.i64_in _ (by omega)
                      clear hq2
                      go_wp2_with fail
                      go_roundw
                      case rel => exact ⟨j + 1, S2, F2, by omega, by go_num, HQz⟩
                      case measure => (simp [Go.RowKit.intOf]; try omega)
            · subst h0
              have q1 : (sl != 0) = false := by rw [h1]; rfl
              clear h1
              go_upto_region 28 with fail
              by_cases hj1 : j = 1
              · have Hbe := Lib.hid HQ5.out.x.b
                have q3 : ((j : Int) == 1) = true := by rw [hj1]; rfl
                have q3n : (j == 1) = true := by rw [hj1]; rfl
                clear hj1
                go_wp2_with fail
                go_ret
                exact ⟨rfl, Hbe.out⟩
              · have q3 : ((j : Int) == 1) = false := by rw [beq_eq_false_iff_ne]; omega
                have q3n : (j == 1) = false := by rw [beq_eq_false_iff_ne]; omega
                have Hj0 := Lib.hid (show j = 0 by omega)
                clear hj1
                go_upto_region 29 with fail
                have HR5r := Lib.hid (show w5.rangeAt gr 0 RL from HQ5.out.x.r.range)
                have HRl := Lib.hid (show (Try.prog.info? 26).map (·.size) = some RL.length from HRn.out)
                have Hw := Lib.hid (HQ5.out.write (by omega) ep Hep.out r Hwr.out RL HRL.out)
                clear q3 q3n HB5
                go_wp2_with (first | ((with_reducible refine wpList_at 134 (by rfl) ?_); refine wpList_load_mid_ifC (by rfl) 26 _ rfl gr 0 rfl RL _ HR5r.out Try.underlying26 rfl HRl.out ?_))
                refine Calls.mono Hw.out ?_
                rintro e w6 ⟨F2, hres⟩
                have Hm6 := Lib.hid (may14_any r Hwr.out RL HRL.out w6)
                obtain ⟨ok, hok⟩ : ∃ z, okR r = z := ⟨_, rfl⟩
                obtain ⟨c, S2, rfl, hQ6, hc⟩ : ∃ (c : Int) (S2 : List (List UInt8)), e = .returned (.int .i64 c) ∧ TQ w gr gd gw k RL GL S S2 F2 (j + 1) w6 ∧ ((ok = true ∧ c = 0 ∧ S2 = S.set (ep % 2) (layR r)) ∨ (ok = false ∧ c = 1 ∧ S2 = S)) := by
                  rcases hres with ⟨h1, h2, h3⟩ | ⟨h1, h2, h3⟩
                  · exact ⟨_, _, h2, h3, .inl ⟨by rw [← hok]; exact okR_iff.2 h1, rfl, rfl⟩⟩
                  · exact ⟨_, _, h2, h3, .inr ⟨by rw [← hok]; cases hz : okR r with | false => rfl | true => exact absurd (okR_iff.1 hz) h1, rfl, rfl⟩⟩
                have HQ6 := Lib.hid hQ6
                have HR6r := Lib.hid (show w6.rangeAt gr 0 RL from hQ6.x.r.range)
                rw [hok] at Hm6
                have Hok := Lib.hid hok
                clear hQ6 hres Hw HR5r hok HQ5
                rcases hc with ⟨rfl, rfl, hS2⟩ | ⟨rfl, rfl, hS2⟩
                · have HS2 := Lib.hid hS2
                  clear hS2
                  go_wp2_with (first | ((with_reducible refine wpList_at 136 (by rfl) ?_); refine wpList_load_mid_ifC (by rfl) 26 _ rfl gr 0 rfl RL _ HR6r.out Try.underlying26 rfl HRl.out ?_))
                  refine Calls.mono Hm6.out ?_
                  rintro e w7 ⟨rfl, hb7⟩
                  have HQ7 := Lib.hid (HQ6.out.up hb7)
                  have HR7r := Lib.hid (show w7.rangeAt gr 0 RL from HQ7.out.x.r.range)
                  have Hm7 := Lib.hid (may14_any r Hwr.out RL HRL.out w7)
                  rw [Hok.out] at Hm7
                  clear hb7 HQ6 HR6r Hm6
                  go_wp2_with (first | ((with_reducible refine wpList_at 142 (by rfl) ?_); refine wpList_load_mid_ifC (by rfl) 26 _ rfl gr 0 rfl RL _ HR7r.out Try.underlying26 rfl HRl.out ?_))
                  refine Calls.mono Hm7.out ?_
                  rintro e w8 ⟨rfl, hb8⟩
                  have HQ8 := Lib.hid (HQ7.out.up hb8)
                  have HR8r := Lib.hid (show w8.rangeAt gr 0 RL from HQ8.out.x.r.range)
                  have Hm8 := Lib.hid (may14_any r Hwr.out RL HRL.out w8)
                  rw [Hok.out] at Hm8
                  clear hb8 HQ7 HR7r Hm7
                  go_upto_region 32 with fail
                  go_wp2_with (first | ((with_reducible refine wpList_at 150 (by rfl) ?_); refine wpList_load_mid_ifC (by rfl) 26 _ rfl gr 0 rfl RL _ HR8r.out Try.underlying26 rfl HRl.out ?_))
                  refine Calls.mono Hm8.out ?_
                  rintro e w9 ⟨rfl, hb9⟩
                  have HQ9 := Lib.hid (HQ8.out.up hb9)
                  have HR9r := Lib.hid (show w9.rangeAt gr 0 RL from HQ9.out.x.r.range)
                  clear hb9 HQ8 HR8r Hm8
                  obtain ⟨p2, hp2⟩ : ∃ a, ep % 2 = a := ⟨_, rfl⟩
                  have hpI : (ep : Int) % 2 = (p2 : Int) := by omega
                  have hpT : (ep : Int).tmod 2 = (p2 : Int) := by rw [Int.tmod_eq_emod_of_nonneg (by omega)]; exact hpI
                  have hpw : IntKind.u64.wrap (p2 : Int) = (p2 : Int) := IntWalk.u64_in _ (by omega)
                  have hpl : p2 < 2 := by omega
                  have hplI : (p2 : Int) < (2 : Int) := by omega
                  rw [hp2] at HS2
                  obtain ⟨LL, hLL⟩ : ∃ z, z = Lib.byteCells (layR r) := ⟨_, rfl⟩
                  have HLL := Lib.hid hLL
                  have HLi := Lib.hid (show (Try.prog.info? 49).map (·.size) = some LL.toArray.size by rw [List.size_toArray, hLL, Lib.byteCells_length, layR_length Hwr.out.d]; exact secInfo)
                  have HL1 := Lib.hid (show LL.toArray.all (·.oneCell') = true by rw [hLL]; exact sec_one _)
                  have HLz := Lib.hid (show LL.toArray.size = 64 by rw [List.size_toArray, hLL, Lib.byteCells_length, layR_length Hwr.out.d])
                  have Hld := Lib.hid (laid_any r Hwr.out RL LL HRL.out hLL w9)
                  clear hLL hp2
                  go_wp2_with (first | ((with_reducible refine wpList_at 155 (by rfl) ?_); refine wpList_load_mid_ifC (by rfl) 26 _ rfl gr 0 rfl RL _ HR9r.out Try.underlying26 rfl HRl.out ?_))
                  refine Calls.mono Hld.out ?_
                  rintro e wa ⟨rfl, hba⟩
                  have HQa := Lib.hid (HQ9.out.up hba)
                  have Hth := Lib.hid (show wa.there gw (p2 * 64) LL.toArray.size by rw [HLz.out]; exact HQa.out.there hpl)
                  clear hba HQ9 HR9r Hld
                  go_upto_region 34 with (first | (refine wpList_store_mid rfl 49 _ _ rfl gw (p2 * 64) LL.toArray rfl rfl Hth.out HLi.out HL1.out ?_))
                  have HQb := Lib.hid (show TQ w gr gd gw k RL GL S2 S2 F2 (j + 1) (wa.setCells gw (p2 * 64) LL) by
                    have h := HQa.out.set hpl (layR_length Hwr.out.d) HLL.out
                    rwa [← HS2.out] at h)
                  obtain ⟨wb, hwb⟩ : ∃ z, z = wa.setCells gw (p2 * 64) LL := ⟨_, rfl⟩
                  rw [← hwb] at HQb
                  try rw [show LL.toArray.toList = LL from rfl]
                  rw [← hwb]
                  clear hwb Hth HQa
                  obtain ⟨wz, hwz⟩ : ∃ z, z = wb := ⟨_, rfl⟩
                  rw [← hwz] at HQb ⊢
                  clear hwz
                  go_wp2_with fail
                  go_loopw [160] (fun x wr => ∃ q : Nat, q ≤ 2 ∧ x = .int .i64 q ∧ Hid (Below wz.heap.size wz wr)) (fun x _ => 2 - (Go.RowKit.intOf x).toNat)
                  case atStart => exact ⟨0, by omega, rfl, Lib.hid (Below.refl _ _)⟩
                  case round =>
                    obtain ⟨q, hq, rfl, HBz⟩ := hrel
                    have HQz := Lib.hid (HQb.out.up HBz.out)
                    by_cases hq2 : q < 2
                    · have hd1 : decide ((q : Int) < (2 : Int)) = true := by simp; omega
                      have hd1n : decide (q < 2) = true := decide_eq_true hq2
                      have hqI : (q : Int) < (2 : Int) := by omega
                      have hqw : IntKind.i64.wrap ((q : Int) + 1) = ((q + 1 : Nat) : Int) := by rw [show (q : Int) + 1 = ((q + 1 : Nat) : Int) by omega]; exact IntWalk.i64_in _ (by omega)
                      obtain ⟨s, hs⟩ : ∃ s, S2.getD q [] = s := ⟨_, rfl⟩
                      have Hsl := Lib.hid (show s.length = 64 by rw [← hs]; exact HQz.out.sec hq2)
                      obtain ⟨QL, hQL⟩ : ∃ z, z = Lib.byteCells s := ⟨_, rfl⟩
                      have HQn := Lib.hid (show (Try.prog.info? 49).map (·.size) = some QL.length by rw [hQL, Lib.byteCells_length, Hsl.out]; exact secInfo)
                      have HQi := Lib.hid (show (Try.prog.info? 49).map (·.size) = some QL.toArray.size ∧ ZS.toArray.size = QL.toArray.size by rw [List.size_toArray, List.size_toArray, hQL, Lib.byteCells_length, Hsl.out, HZS.out]; exact ⟨secInfo, rfl⟩)
                      have HQ1 := Lib.hid (show QL.toArray.all (·.oneCell') = true by rw [hQL]; exact sec_one _)
                      have HqS := Lib.hid (fun w : World => show (Op.equalIn 10000 49 (.agg QL.toArray) (.agg QL.toArray)).run Try.prog w = .ok true w by have h := sec_eqvS Hsl.out Hsl.out hQL hQL w; rwa [decide_eq_true rfl] at h)
                      have Hrd := Lib.hid (show Calls Try.prog 28 #[.pointer (some ⟨k, 0, none⟩), .int .i64 (q : Nat)] wr fun e w' => e = .returned (.tuple #[.agg QL.toArray, .int .i64 0]) ∧ Below wr.heap.size wr w' by
                        obtain ⟨W, _, hk⟩ := HQz.out.dk
                        exact hk.read q hq2 QL (by rw [hs]; exact hQL))
                      have Hwant := Lib.hid (fun (w' : World) (h : TQ w gr gd gw k RL GL S2 S2 F2 (j + 1) w') => show w'.rangeAt gw (q * 64) QL from want_range h.a h.l.2 (by rw [h.l.1]; exact hq2) (by rw [hs]; exact hQL))
                      clear hs hQL
                      go_wp2_with fail
                      refine Calls.mono Hrd.out ?_
                      rintro e wd ⟨rfl, hbd⟩
                      have HBd := Lib.hid (HBz.out.trans (hbd.mono HBz.out.size))
                      obtain ⟨g30, hg30⟩ : ∃ z, z = wd.heap.size := ⟨_, rfl⟩
                      have Hg30 := Lib.hid hg30
                      clear hbd hg30 Hrd HQz HBz
                      go_upto_region 38 with (first | (refine wpList_allocZC rfl 49 rfl ZS.toArray (HZS0.out _) ?_) | (change wpList _ _ _ _ _ (wd.alloc (.cells ZS.toArray 49)); refine wpList_store_row rfl _ _ _ rfl wd.heap.size QL.toArray rfl rfl 49 ZS.toArray (heap_alloc_new wd _) HQi.out.1 HQi.out.2 HQ1.out ?_; obtain ⟨we, hwe⟩ : ∃ x, x = (wd.alloc (.cells ZS.toArray 49)).setRow wd.heap.size QL.toArray := ⟨_, rfl⟩; rw [← hwe]; obtain ⟨hPe, hbe⟩ := alloc_row wd 49 ZS.toArray QL; rw [← hwe] at hPe hbe; clear hwe))
                      rw [← Hg30.out] at hPe ⊢
                      have HBe := Lib.hid (HBd.out.trans (hbe.mono HBd.out.size))
                      have HWr := Lib.hid (Hwant.out we (HQb.out.up HBe.out))
                      have HBf := Lib.hid (Below.dN HBe.out 1)
                      clear hbe HBd Hwant
                      refine wp_region_held_drew (S := fun w' => Arr w' g30 49 QL ∧ w'.rangeAt gw (q * 64) QL) (by kernel_rfl) ⟨Arr.drewN hPe 1, fun j v hj => HWr.out j v hj⟩ (fun hHeld => ?_)
                      refine anyH_take (i := 0) (v := .agg QL.toArray) (some 169) rfl rfl (by kernel_rfl) (by kernel_rfl) (by kernel_rfl) (fun _ _ _ h => h) (yieldsIf_load_mid (by rfl) 49 (.tmp 30) rfl g30 0 rfl QL _ (fun w' h => Arr.range h.1) Try.underlying49 rfl HQn.out) (by assumption) ?_
                      simp only [Act.put, List.setIfInBounds_toArray, List.set_cons_zero, List.set_cons_succ]
                      refine anyH_take (i := 1) (v := .slice (some ⟨gw, 0, none⟩) 2 2) (some 170) rfl rfl (by kernel_rfl) (by kernel_rfl) (by kernel_rfl) (fun _ _ _ h => h) (Or.inl ⟨by rfl, fun _ hw => by rfl⟩) (by assumption) ?_
                      simp only [Act.put, List.setIfInBounds_toArray, List.set_cons_zero, List.set_cons_succ]
                      refine anyH_take (i := 2) (v := .int .i64 (q : Nat)) (some 171) rfl rfl (by kernel_rfl) (by kernel_rfl) (by kernel_rfl) (fun _ _ _ h => h) (Or.inl ⟨by rfl, fun _ hw => by rfl⟩) (by assumption) ?_
                      simp only [Act.put, List.setIfInBounds_toArray, List.set_cons_zero, List.set_cons_succ]
                      refine anyH_take (i := 3) (v := .pointer (some ⟨gw, q * 64, none⟩)) (some 172) rfl rfl (by kernel_rfl) (by kernel_rfl) (by kernel_rfl) (fun _ _ _ h => h) (Or.inl ⟨by rfl, fun _ hw => by go_simp⟩) (by assumption) ?_
                      simp only [Act.put, List.setIfInBounds_toArray, List.set_cons_zero, List.set_cons_succ]
                      refine anyH_take (i := 4) (v := .agg QL.toArray) (some 173) rfl rfl (by kernel_rfl) (by kernel_rfl) (by kernel_rfl) (fun _ _ _ h => h) (yieldsIf_load_mid (by rfl) 49 (.tmp 172) rfl gw (q * 64) rfl QL _ (fun w' h => h.2) Try.underlying49 rfl HQn.out) (by assumption) ?_
                      simp only [Act.put, List.setIfInBounds_toArray, List.set_cons_zero, List.set_cons_succ]
                      refine anyH_take (i := 5) (v := .bool (!true)) (some 174) rfl rfl (by kernel_rfl) (by kernel_rfl) (by kernel_rfl) (fun _ _ _ h => h) (yieldsIf_neqC (by rfl) 49 _ _ _ rfl QL QL rfl rfl true HqS.out gtSec) (by assumption) ?_
                      simp only [Act.put, List.setIfInBounds_toArray, List.set_cons_zero, List.set_cons_succ]
                      refine wpAnyH_done (by kernel_rfl) ?_ _
                      clear hHeld
                      go_wp2_with fail
                      go_roundw
                      case rel => exact ⟨q + 1, by omega, by go_num, HBf⟩
                      case measure => (simp [Go.RowKit.intOf]; try omega)
                    · obtain rfl : q = 2 := by omega
                      have hjw : IntKind.i64.wrap ((j : Int) + 1) = ((j + 1 : Nat) : Int) := by rw [show (j : Int) + 1 = ((j + 1 : Nat) : Int) by omega]; exact IntWalk.i64_in _ (by omega)
                      clear hq2
                      go_wp2_with fail
                      go_roundw
                      case rel => exact ⟨j + 1, S2, F2, by omega, by go_num, HQz⟩
                      case measure => (simp [Go.RowKit.intOf]; try omega)
                · have HS2 := Lib.hid hS2
                  clear hS2
                  go_wp2_with (first | ((with_reducible refine wpList_at 136 (by rfl) ?_); refine wpList_load_mid_ifC (by rfl) 26 _ rfl gr 0 rfl RL _ HR6r.out Try.underlying26 rfl HRl.out ?_))
                  refine Calls.mono Hm6.out ?_
                  rintro e w7 ⟨rfl, hb7⟩
                  have HQ7 := Lib.hid (HQ6.out.up hb7)
                  have HR7r := Lib.hid (show w7.rangeAt gr 0 RL from HQ7.out.x.r.range)
                  have Hm7 := Lib.hid (may14_any r Hwr.out RL HRL.out w7)
                  rw [Hok.out] at Hm7
                  clear hb7 HQ6 HR6r Hm6
                  go_wp2_with (first | ((with_reducible refine wpList_at 142 (by rfl) ?_); refine wpList_load_mid_ifC (by rfl) 26 _ rfl gr 0 rfl RL _ HR7r.out Try.underlying26 rfl HRl.out ?_))
                  refine Calls.mono Hm7.out ?_
                  rintro e w8 ⟨rfl, hb8⟩
                  have HQ8 := Lib.hid (HQ7.out.up hb8)
                  have HR8r := Lib.hid (show w8.rangeAt gr 0 RL from HQ8.out.x.r.range)
                  have Hm8 := Lib.hid (may14_any r Hwr.out RL HRL.out w8)
                  rw [Hok.out] at Hm8
                  clear hb8 HQ7 HR7r Hm7
                  go_upto_region 32 with fail
                  go_wp2_with (first | ((with_reducible refine wpList_at 150 (by rfl) ?_); refine wpList_load_mid_ifC (by rfl) 26 _ rfl gr 0 rfl RL _ HR8r.out Try.underlying26 rfl HRl.out ?_))
                  refine Calls.mono Hm8.out ?_
                  rintro e w9 ⟨rfl, hb9⟩
                  have HQ9 := Lib.hid (HQ8.out.up hb9)
                  have HR9r := Lib.hid (show w9.rangeAt gr 0 RL from HQ9.out.x.r.range)
                  clear hb9 HQ8 HR8r Hm8
                  have HQb := Lib.hid (show TQ w gr gd gw k RL GL S2 S2 F2 (j + 1) w9 by
                    have h := HQ9.out
                    rwa [← HS2.out] at h)
                  clear HQ9 HR9r
                  go_upto_region 34 with fail
                  obtain ⟨wz, hwz⟩ : ∃ z, z = w9 := ⟨_, rfl⟩
                  rw [← hwz] at HQb ⊢
                  clear hwz
                  go_wp2_with fail
                  go_loopw [160] (fun x wr => ∃ q : Nat, q ≤ 2 ∧ x = .int .i64 q ∧ Hid (Below wz.heap.size wz wr)) (fun x _ => 2 - (Go.RowKit.intOf x).toNat)
                  case atStart => exact ⟨0, by omega, rfl, Lib.hid (Below.refl _ _)⟩
                  case round =>
                    obtain ⟨q, hq, rfl, HBz⟩ := hrel
                    have HQz := Lib.hid (HQb.out.up HBz.out)
                    by_cases hq2 : q < 2
                    · have hd1 : decide ((q : Int) < (2 : Int)) = true := by simp; omega
                      have hd1n : decide (q < 2) = true := decide_eq_true hq2
                      have hqI : (q : Int) < (2 : Int) := by omega
                      have hqw : IntKind.i64.wrap ((q : Int) + 1) = ((q + 1 : Nat) : Int) := by rw [show (q : Int) + 1 = ((q + 1 : Nat) : Int) by omega]; exact IntWalk.i64_in _ (by omega)
                      obtain ⟨s, hs⟩ : ∃ s, S2.getD q [] = s := ⟨_, rfl⟩
                      have Hsl := Lib.hid (show s.length = 64 by rw [← hs]; exact HQz.out.sec hq2)
                      obtain ⟨QL, hQL⟩ : ∃ z, z = Lib.byteCells s := ⟨_, rfl⟩
                      have HQn := Lib.hid (show (Try.prog.info? 49).map (·.size) = some QL.length by rw [hQL, Lib.byteCells_length, Hsl.out]; exact secInfo)
                      have HQi := Lib.hid (show (Try.prog.info? 49).map (·.size) = some QL.toArray.size ∧ ZS.toArray.size = QL.toArray.size by rw [List.size_toArray, List.size_toArray, hQL, Lib.byteCells_length, Hsl.out, HZS.out]; exact ⟨secInfo, rfl⟩)
                      have HQ1 := Lib.hid (show QL.toArray.all (·.oneCell') = true by rw [hQL]; exact sec_one _)
                      have HqS := Lib.hid (fun w : World => show (Op.equalIn 10000 49 (.agg QL.toArray) (.agg QL.toArray)).run Try.prog w = .ok true w by have h := sec_eqvS Hsl.out Hsl.out hQL hQL w; rwa [decide_eq_true rfl] at h)
                      have Hrd := Lib.hid (show Calls Try.prog 28 #[.pointer (some ⟨k, 0, none⟩), .int .i64 (q : Nat)] wr fun e w' => e = .returned (.tuple #[.agg QL.toArray, .int .i64 0]) ∧ Below wr.heap.size wr w' by
                        obtain ⟨W, _, hk⟩ := HQz.out.dk
                        exact hk.read q hq2 QL (by rw [hs]; exact hQL))
                      have Hwant := Lib.hid (fun (w' : World) (h : TQ w gr gd gw k RL GL S2 S2 F2 (j + 1) w') => show w'.rangeAt gw (q * 64) QL from want_range h.a h.l.2 (by rw [h.l.1]; exact hq2) (by rw [hs]; exact hQL))
                      clear hs hQL
                      go_wp2_with fail
                      refine Calls.mono Hrd.out ?_
                      rintro e wd ⟨rfl, hbd⟩
                      have HBd := Lib.hid (HBz.out.trans (hbd.mono HBz.out.size))
                      obtain ⟨g30, hg30⟩ : ∃ z, z = wd.heap.size := ⟨_, rfl⟩
                      have Hg30 := Lib.hid hg30
                      clear hbd hg30 Hrd HQz HBz
                      go_upto_region 38 with (first | (refine wpList_allocZC rfl 49 rfl ZS.toArray (HZS0.out _) ?_) | (change wpList _ _ _ _ _ (wd.alloc (.cells ZS.toArray 49)); refine wpList_store_row rfl _ _ _ rfl wd.heap.size QL.toArray rfl rfl 49 ZS.toArray (heap_alloc_new wd _) HQi.out.1 HQi.out.2 HQ1.out ?_; obtain ⟨we, hwe⟩ : ∃ x, x = (wd.alloc (.cells ZS.toArray 49)).setRow wd.heap.size QL.toArray := ⟨_, rfl⟩; rw [← hwe]; obtain ⟨hPe, hbe⟩ := alloc_row wd 49 ZS.toArray QL; rw [← hwe] at hPe hbe; clear hwe))
                      rw [← Hg30.out] at hPe ⊢
                      have HBe := Lib.hid (HBd.out.trans (hbe.mono HBd.out.size))
                      have HWr := Lib.hid (Hwant.out we (HQb.out.up HBe.out))
                      have HBf := Lib.hid (Below.dN HBe.out 1)
                      clear hbe HBd Hwant
                      refine wp_region_held_drew (S := fun w' => Arr w' g30 49 QL ∧ w'.rangeAt gw (q * 64) QL) (by kernel_rfl) ⟨Arr.drewN hPe 1, fun j v hj => HWr.out j v hj⟩ (fun hHeld => ?_)
                      refine anyH_take (i := 0) (v := .agg QL.toArray) (some 169) rfl rfl (by kernel_rfl) (by kernel_rfl) (by kernel_rfl) (fun _ _ _ h => h) (yieldsIf_load_mid (by rfl) 49 (.tmp 30) rfl g30 0 rfl QL _ (fun w' h => Arr.range h.1) Try.underlying49 rfl HQn.out) (by assumption) ?_
                      simp only [Act.put, List.setIfInBounds_toArray, List.set_cons_zero, List.set_cons_succ]
                      refine anyH_take (i := 1) (v := .slice (some ⟨gw, 0, none⟩) 2 2) (some 170) rfl rfl (by kernel_rfl) (by kernel_rfl) (by kernel_rfl) (fun _ _ _ h => h) (Or.inl ⟨by rfl, fun _ hw => by rfl⟩) (by assumption) ?_
                      simp only [Act.put, List.setIfInBounds_toArray, List.set_cons_zero, List.set_cons_succ]
                      refine anyH_take (i := 2) (v := .int .i64 (q : Nat)) (some 171) rfl rfl (by kernel_rfl) (by kernel_rfl) (by kernel_rfl) (fun _ _ _ h => h) (Or.inl ⟨by rfl, fun _ hw => by rfl⟩) (by assumption) ?_
                      simp only [Act.put, List.setIfInBounds_toArray, List.set_cons_zero, List.set_cons_succ]
                      refine anyH_take (i := 3) (v := .pointer (some ⟨gw, q * 64, none⟩)) (some 172) rfl rfl (by kernel_rfl) (by kernel_rfl) (by kernel_rfl) (fun _ _ _ h => h) (Or.inl ⟨by rfl, fun _ hw => by go_simp⟩) (by assumption) ?_
                      simp only [Act.put, List.setIfInBounds_toArray, List.set_cons_zero, List.set_cons_succ]
                      refine anyH_take (i := 4) (v := .agg QL.toArray) (some 173) rfl rfl (by kernel_rfl) (by kernel_rfl) (by kernel_rfl) (fun _ _ _ h => h) (yieldsIf_load_mid (by rfl) 49 (.tmp 172) rfl gw (q * 64) rfl QL _ (fun w' h => h.2) Try.underlying49 rfl HQn.out) (by assumption) ?_
                      simp only [Act.put, List.setIfInBounds_toArray, List.set_cons_zero, List.set_cons_succ]
                      refine anyH_take (i := 5) (v := .bool (!true)) (some 174) rfl rfl (by kernel_rfl) (by kernel_rfl) (by kernel_rfl) (fun _ _ _ h => h) (yieldsIf_neqC (by rfl) 49 _ _ _ rfl QL QL rfl rfl true HqS.out gtSec) (by assumption) ?_
                      simp only [Act.put, List.setIfInBounds_toArray, List.set_cons_zero, List.set_cons_succ]
                      refine wpAnyH_done (by kernel_rfl) ?_ _
                      clear hHeld
                      go_wp2_with fail
                      go_roundw
                      case rel => exact ⟨q + 1, by omega, by go_num, HBf⟩
                      case measure => (simp [Go.RowKit.intOf]; try omega)
                    · obtain rfl : q = 2 := by omega
                      have hjw : IntKind.i64.wrap ((j : Int) + 1) = ((j + 1 : Nat) : Int) := by rw [show (j : Int) + 1 = ((j + 1 : Nat) : Int) by omega]; exact IntWalk.i64_in _ (by omega)
                      clear hq2
                      go_wp2_with fail
                      go_roundw
                      case rel => exact ⟨j + 1, S2, F2, by omega, by go_num, HQz⟩
                      case measure => (simp [Go.RowKit.intOf]; try omega)
            · subst h0
              have q1 : (sl != 0) = true := by rw [h1]; rfl
              have q2 : (sl != 1) = false := by rw [h1]; rfl
              clear h1
              go_upto_region 28 with fail
              by_cases hj1 : j = 1
              · have Hbe := Lib.hid HQ5.out.x.b
                have q3 : ((j : Int) == 1) = true := by rw [hj1]; rfl
                have q3n : (j == 1) = true := by rw [hj1]; rfl
                clear hj1
                go_wp2_with fail
                go_ret
                exact ⟨rfl, Hbe.out⟩
              · have q3 : ((j : Int) == 1) = false := by rw [beq_eq_false_iff_ne]; omega
                have q3n : (j == 1) = false := by rw [beq_eq_false_iff_ne]; omega
                have Hj0 := Lib.hid (show j = 0 by omega)
                clear hj1
                go_upto_region 29 with fail
                have HR5r := Lib.hid (show w5.rangeAt gr 0 RL from HQ5.out.x.r.range)
                have HRl := Lib.hid (show (Try.prog.info? 26).map (·.size) = some RL.length from HRn.out)
                have Hw := Lib.hid (HQ5.out.write (by omega) ep Hep.out r Hwr.out RL HRL.out)
                clear q3 q3n HB5
                go_wp2_with (first | ((with_reducible refine wpList_at 134 (by rfl) ?_); refine wpList_load_mid_ifC (by rfl) 26 _ rfl gr 0 rfl RL _ HR5r.out Try.underlying26 rfl HRl.out ?_))
                refine Calls.mono Hw.out ?_
                rintro e w6 ⟨F2, hres⟩
                have Hm6 := Lib.hid (may14_any r Hwr.out RL HRL.out w6)
                obtain ⟨ok, hok⟩ : ∃ z, okR r = z := ⟨_, rfl⟩
                obtain ⟨c, S2, rfl, hQ6, hc⟩ : ∃ (c : Int) (S2 : List (List UInt8)), e = .returned (.int .i64 c) ∧ TQ w gr gd gw k RL GL S S2 F2 (j + 1) w6 ∧ ((ok = true ∧ c = 0 ∧ S2 = S.set (ep % 2) (layR r)) ∨ (ok = false ∧ c = 1 ∧ S2 = S)) := by
                  rcases hres with ⟨h1, h2, h3⟩ | ⟨h1, h2, h3⟩
                  · exact ⟨_, _, h2, h3, .inl ⟨by rw [← hok]; exact okR_iff.2 h1, rfl, rfl⟩⟩
                  · exact ⟨_, _, h2, h3, .inr ⟨by rw [← hok]; cases hz : okR r with | false => rfl | true => exact absurd (okR_iff.1 hz) h1, rfl, rfl⟩⟩
                have HQ6 := Lib.hid hQ6
                have HR6r := Lib.hid (show w6.rangeAt gr 0 RL from hQ6.x.r.range)
                rw [hok] at Hm6
                have Hok := Lib.hid hok
                clear hQ6 hres Hw HR5r hok HQ5
                rcases hc with ⟨rfl, rfl, hS2⟩ | ⟨rfl, rfl, hS2⟩
                · have HS2 := Lib.hid hS2
                  clear hS2
                  go_wp2_with (first | ((with_reducible refine wpList_at 136 (by rfl) ?_); refine wpList_load_mid_ifC (by rfl) 26 _ rfl gr 0 rfl RL _ HR6r.out Try.underlying26 rfl HRl.out ?_))
                  refine Calls.mono Hm6.out ?_
                  rintro e w7 ⟨rfl, hb7⟩
                  have HQ7 := Lib.hid (HQ6.out.up hb7)
                  have HR7r := Lib.hid (show w7.rangeAt gr 0 RL from HQ7.out.x.r.range)
                  have Hm7 := Lib.hid (may14_any r Hwr.out RL HRL.out w7)
                  rw [Hok.out] at Hm7
                  clear hb7 HQ6 HR6r Hm6
                  go_wp2_with (first | ((with_reducible refine wpList_at 142 (by rfl) ?_); refine wpList_load_mid_ifC (by rfl) 26 _ rfl gr 0 rfl RL _ HR7r.out Try.underlying26 rfl HRl.out ?_))
                  refine Calls.mono Hm7.out ?_
                  rintro e w8 ⟨rfl, hb8⟩
                  have HQ8 := Lib.hid (HQ7.out.up hb8)
                  have HR8r := Lib.hid (show w8.rangeAt gr 0 RL from HQ8.out.x.r.range)
                  have Hm8 := Lib.hid (may14_any r Hwr.out RL HRL.out w8)
                  rw [Hok.out] at Hm8
                  clear hb8 HQ7 HR7r Hm7
                  go_upto_region 32 with fail
                  go_wp2_with (first | ((with_reducible refine wpList_at 150 (by rfl) ?_); refine wpList_load_mid_ifC (by rfl) 26 _ rfl gr 0 rfl RL _ HR8r.out Try.underlying26 rfl HRl.out ?_))
                  refine Calls.mono Hm8.out ?_
                  rintro e w9 ⟨rfl, hb9⟩
                  have HQ9 := Lib.hid (HQ8.out.up hb9)
                  have HR9r := Lib.hid (show w9.rangeAt gr 0 RL from HQ9.out.x.r.range)
                  clear hb9 HQ8 HR8r Hm8
                  obtain ⟨p2, hp2⟩ : ∃ a, ep % 2 = a := ⟨_, rfl⟩
                  have hpI : (ep : Int) % 2 = (p2 : Int) := by omega
                  have hpT : (ep : Int).tmod 2 = (p2 : Int) := by rw [Int.tmod_eq_emod_of_nonneg (by omega)]; exact hpI
                  have hpw : IntKind.u64.wrap (p2 : Int) = (p2 : Int) := IntWalk.u64_in _ (by omega)
                  have hpl : p2 < 2 := by omega
                  have hplI : (p2 : Int) < (2 : Int) := by omega
                  rw [hp2] at HS2
                  obtain ⟨LL, hLL⟩ : ∃ z, z = Lib.byteCells (layR r) := ⟨_, rfl⟩
                  have HLL := Lib.hid hLL
                  have HLi := Lib.hid (show (Try.prog.info? 49).map (·.size) = some LL.toArray.size by rw [List.size_toArray, hLL, Lib.byteCells_length, layR_length Hwr.out.d]; exact secInfo)
                  have HL1 := Lib.hid (show LL.toArray.all (·.oneCell') = true by rw [hLL]; exact sec_one _)
                  have HLz := Lib.hid (show LL.toArray.size = 64 by rw [List.size_toArray, hLL, Lib.byteCells_length, layR_length Hwr.out.d])
                  have Hld := Lib.hid (laid_any r Hwr.out RL LL HRL.out hLL w9)
                  clear hLL hp2
                  go_wp2_with (first | ((with_reducible refine wpList_at 155 (by rfl) ?_); refine wpList_load_mid_ifC (by rfl) 26 _ rfl gr 0 rfl RL _ HR9r.out Try.underlying26 rfl HRl.out ?_))
                  refine Calls.mono Hld.out ?_
                  rintro e wa ⟨rfl, hba⟩
                  have HQa := Lib.hid (HQ9.out.up hba)
                  have Hth := Lib.hid (show wa.there gw (p2 * 64) LL.toArray.size by rw [HLz.out]; exact HQa.out.there hpl)
                  clear hba HQ9 HR9r Hld
                  go_upto_region 34 with (first | (refine wpList_store_mid rfl 49 _ _ rfl gw (p2 * 64) LL.toArray rfl rfl Hth.out HLi.out HL1.out ?_))
                  have HQb := Lib.hid (show TQ w gr gd gw k RL GL S2 S2 F2 (j + 1) (wa.setCells gw (p2 * 64) LL) by
                    have h := HQa.out.set hpl (layR_length Hwr.out.d) HLL.out
                    rwa [← HS2.out] at h)
                  obtain ⟨wb, hwb⟩ : ∃ z, z = wa.setCells gw (p2 * 64) LL := ⟨_, rfl⟩
                  rw [← hwb] at HQb
                  try rw [show LL.toArray.toList = LL from rfl]
                  rw [← hwb]
                  clear hwb Hth HQa
                  obtain ⟨wz, hwz⟩ : ∃ z, z = wb := ⟨_, rfl⟩
                  rw [← hwz] at HQb ⊢
                  clear hwz
                  go_wp2_with fail
                  go_loopw [160] (fun x wr => ∃ q : Nat, q ≤ 2 ∧ x = .int .i64 q ∧ Hid (Below wz.heap.size wz wr)) (fun x _ => 2 - (Go.RowKit.intOf x).toNat)
                  case atStart => exact ⟨0, by omega, rfl, Lib.hid (Below.refl _ _)⟩
                  case round =>
                    obtain ⟨q, hq, rfl, HBz⟩ := hrel
                    have HQz := Lib.hid (HQb.out.up HBz.out)
                    by_cases hq2 : q < 2
                    · have hd1 : decide ((q : Int) < (2 : Int)) = true := by simp; omega
                      have hd1n : decide (q < 2) = true := decide_eq_true hq2
                      have hqI : (q : Int) < (2 : Int) := by omega
                      have hqw : IntKind.i64.wrap ((q : Int) + 1) = ((q + 1 : Nat) : Int) := by rw [show (q : Int) + 1 = ((q + 1 : Nat) : Int) by omega]; exact IntWalk.i64_in _ (by omega)
                      obtain ⟨s, hs⟩ : ∃ s, S2.getD q [] = s := ⟨_, rfl⟩
                      have Hsl := Lib.hid (show s.length = 64 by rw [← hs]; exact HQz.out.sec hq2)
                      obtain ⟨QL, hQL⟩ : ∃ z, z = Lib.byteCells s := ⟨_, rfl⟩
                      have HQn := Lib.hid (show (Try.prog.info? 49).map (·.size) = some QL.length by rw [hQL, Lib.byteCells_length, Hsl.out]; exact secInfo)
                      have HQi := Lib.hid (show (Try.prog.info? 49).map (·.size) = some QL.toArray.size ∧ ZS.toArray.size = QL.toArray.size by rw [List.size_toArray, List.size_toArray, hQL, Lib.byteCells_length, Hsl.out, HZS.out]; exact ⟨secInfo, rfl⟩)
                      have HQ1 := Lib.hid (show QL.toArray.all (·.oneCell') = true by rw [hQL]; exact sec_one _)
                      have HqS := Lib.hid (fun w : World => show (Op.equalIn 10000 49 (.agg QL.toArray) (.agg QL.toArray)).run Try.prog w = .ok true w by have h := sec_eqvS Hsl.out Hsl.out hQL hQL w; rwa [decide_eq_true rfl] at h)
                      have Hrd := Lib.hid (show Calls Try.prog 28 #[.pointer (some ⟨k, 0, none⟩), .int .i64 (q : Nat)] wr fun e w' => e = .returned (.tuple #[.agg QL.toArray, .int .i64 0]) ∧ Below wr.heap.size wr w' by
                        obtain ⟨W, _, hk⟩ := HQz.out.dk
                        exact hk.read q hq2 QL (by rw [hs]; exact hQL))
                      have Hwant := Lib.hid (fun (w' : World) (h : TQ w gr gd gw k RL GL S2 S2 F2 (j + 1) w') => show w'.rangeAt gw (q * 64) QL from want_range h.a h.l.2 (by rw [h.l.1]; exact hq2) (by rw [hs]; exact hQL))
                      clear hs hQL
                      go_wp2_with fail
                      refine Calls.mono Hrd.out ?_
                      rintro e wd ⟨rfl, hbd⟩
                      have HBd := Lib.hid (HBz.out.trans (hbd.mono HBz.out.size))
                      obtain ⟨g30, hg30⟩ : ∃ z, z = wd.heap.size := ⟨_, rfl⟩
                      have Hg30 := Lib.hid hg30
                      clear hbd hg30 Hrd HQz HBz
                      go_upto_region 38 with (first | (refine wpList_allocZC rfl 49 rfl ZS.toArray (HZS0.out _) ?_) | (change wpList _ _ _ _ _ (wd.alloc (.cells ZS.toArray 49)); refine wpList_store_row rfl _ _ _ rfl wd.heap.size QL.toArray rfl rfl 49 ZS.toArray (heap_alloc_new wd _) HQi.out.1 HQi.out.2 HQ1.out ?_; obtain ⟨we, hwe⟩ : ∃ x, x = (wd.alloc (.cells ZS.toArray 49)).setRow wd.heap.size QL.toArray := ⟨_, rfl⟩; rw [← hwe]; obtain ⟨hPe, hbe⟩ := alloc_row wd 49 ZS.toArray QL; rw [← hwe] at hPe hbe; clear hwe))
                      rw [← Hg30.out] at hPe ⊢
                      have HBe := Lib.hid (HBd.out.trans (hbe.mono HBd.out.size))
                      have HWr := Lib.hid (Hwant.out we (HQb.out.up HBe.out))
                      have HBf := Lib.hid (Below.dN HBe.out 1)
                      clear hbe HBd Hwant
                      refine wp_region_held_drew (S := fun w' => Arr w' g30 49 QL ∧ w'.rangeAt gw (q * 64) QL) (by kernel_rfl) ⟨Arr.drewN hPe 1, fun j v hj => HWr.out j v hj⟩ (fun hHeld => ?_)
                      refine anyH_take (i := 0) (v := .agg QL.toArray) (some 169) rfl rfl (by kernel_rfl) (by kernel_rfl) (by kernel_rfl) (fun _ _ _ h => h) (yieldsIf_load_mid (by rfl) 49 (.tmp 30) rfl g30 0 rfl QL _ (fun w' h => Arr.range h.1) Try.underlying49 rfl HQn.out) (by assumption) ?_
                      simp only [Act.put, List.setIfInBounds_toArray, List.set_cons_zero, List.set_cons_succ]
                      refine anyH_take (i := 1) (v := .slice (some ⟨gw, 0, none⟩) 2 2) (some 170) rfl rfl (by kernel_rfl) (by kernel_rfl) (by kernel_rfl) (fun _ _ _ h => h) (Or.inl ⟨by rfl, fun _ hw => by rfl⟩) (by assumption) ?_
                      simp only [Act.put, List.setIfInBounds_toArray, List.set_cons_zero, List.set_cons_succ]
                      refine anyH_take (i := 2) (v := .int .i64 (q : Nat)) (some 171) rfl rfl (by kernel_rfl) (by kernel_rfl) (by kernel_rfl) (fun _ _ _ h => h) (Or.inl ⟨by rfl, fun _ hw => by rfl⟩) (by assumption) ?_
                      simp only [Act.put, List.setIfInBounds_toArray, List.set_cons_zero, List.set_cons_succ]
                      refine anyH_take (i := 3) (v := .pointer (some ⟨gw, q * 64, none⟩)) (some 172) rfl rfl (by kernel_rfl) (by kernel_rfl) (by kernel_rfl) (fun _ _ _ h => h) (Or.inl ⟨by rfl, fun _ hw => by go_simp⟩) (by assumption) ?_
                      simp only [Act.put, List.setIfInBounds_toArray, List.set_cons_zero, List.set_cons_succ]
                      refine anyH_take (i := 4) (v := .agg QL.toArray) (some 173) rfl rfl (by kernel_rfl) (by kernel_rfl) (by kernel_rfl) (fun _ _ _ h => h) (yieldsIf_load_mid (by rfl) 49 (.tmp 172) rfl gw (q * 64) rfl QL _ (fun w' h => h.2) Try.underlying49 rfl HQn.out) (by assumption) ?_
                      simp only [Act.put, List.setIfInBounds_toArray, List.set_cons_zero, List.set_cons_succ]
                      refine anyH_take (i := 5) (v := .bool (!true)) (some 174) rfl rfl (by kernel_rfl) (by kernel_rfl) (by kernel_rfl) (fun _ _ _ h => h) (yieldsIf_neqC (by rfl) 49 _ _ _ rfl QL QL rfl rfl true HqS.out gtSec) (by assumption) ?_
                      simp only [Act.put, List.setIfInBounds_toArray, List.set_cons_zero, List.set_cons_succ]
                      refine wpAnyH_done (by kernel_rfl) ?_ _
                      clear hHeld
                      go_wp2_with fail
                      go_roundw
                      case rel => exact ⟨q + 1, by omega, by go_num, HBf⟩
                      case measure => (simp [Go.RowKit.intOf]; try omega)
                    · obtain rfl : q = 2 := by omega
                      have hjw : IntKind.i64.wrap ((j : Int) + 1) = ((j + 1 : Nat) : Int) := by rw [show (j : Int) + 1 = ((j + 1 : Nat) : Int) by omega]; exact IntWalk.i64_in _ (by omega)
                      clear hq2
                      go_wp2_with fail
                      go_roundw
                      case rel => exact ⟨j + 1, S2, F2, by omega, by go_num, HQz⟩
                      case measure => (simp [Go.RowKit.intOf]; try omega)
                · have HS2 := Lib.hid hS2
                  clear hS2
                  go_wp2_with (first | ((with_reducible refine wpList_at 136 (by rfl) ?_); refine wpList_load_mid_ifC (by rfl) 26 _ rfl gr 0 rfl RL _ HR6r.out Try.underlying26 rfl HRl.out ?_))
                  refine Calls.mono Hm6.out ?_
                  rintro e w7 ⟨rfl, hb7⟩
                  have HQ7 := Lib.hid (HQ6.out.up hb7)
                  have HR7r := Lib.hid (show w7.rangeAt gr 0 RL from HQ7.out.x.r.range)
                  have Hm7 := Lib.hid (may14_any r Hwr.out RL HRL.out w7)
                  rw [Hok.out] at Hm7
                  clear hb7 HQ6 HR6r Hm6
                  go_wp2_with (first | ((with_reducible refine wpList_at 142 (by rfl) ?_); refine wpList_load_mid_ifC (by rfl) 26 _ rfl gr 0 rfl RL _ HR7r.out Try.underlying26 rfl HRl.out ?_))
                  refine Calls.mono Hm7.out ?_
                  rintro e w8 ⟨rfl, hb8⟩
                  have HQ8 := Lib.hid (HQ7.out.up hb8)
                  have HR8r := Lib.hid (show w8.rangeAt gr 0 RL from HQ8.out.x.r.range)
                  have Hm8 := Lib.hid (may14_any r Hwr.out RL HRL.out w8)
                  rw [Hok.out] at Hm8
                  clear hb8 HQ7 HR7r Hm7
                  go_upto_region 32 with fail
                  go_wp2_with (first | ((with_reducible refine wpList_at 150 (by rfl) ?_); refine wpList_load_mid_ifC (by rfl) 26 _ rfl gr 0 rfl RL _ HR8r.out Try.underlying26 rfl HRl.out ?_))
                  refine Calls.mono Hm8.out ?_
                  rintro e w9 ⟨rfl, hb9⟩
                  have HQ9 := Lib.hid (HQ8.out.up hb9)
                  have HR9r := Lib.hid (show w9.rangeAt gr 0 RL from HQ9.out.x.r.range)
                  clear hb9 HQ8 HR8r Hm8
                  have HQb := Lib.hid (show TQ w gr gd gw k RL GL S2 S2 F2 (j + 1) w9 by
                    have h := HQ9.out
                    rwa [← HS2.out] at h)
                  clear HQ9 HR9r
                  go_upto_region 34 with fail
                  obtain ⟨wz, hwz⟩ : ∃ z, z = w9 := ⟨_, rfl⟩
                  rw [← hwz] at HQb ⊢
                  clear hwz
                  go_wp2_with fail
                  go_loopw [160] (fun x wr => ∃ q : Nat, q ≤ 2 ∧ x = .int .i64 q ∧ Hid (Below wz.heap.size wz wr)) (fun x _ => 2 - (Go.RowKit.intOf x).toNat)
                  case atStart => exact ⟨0, by omega, rfl, Lib.hid (Below.refl _ _)⟩
                  case round =>
                    obtain ⟨q, hq, rfl, HBz⟩ := hrel
                    have HQz := Lib.hid (HQb.out.up HBz.out)
                    by_cases hq2 : q < 2
                    · have hd1 : decide ((q : Int) < (2 : Int)) = true := by simp; omega
                      have hd1n : decide (q < 2) = true := decide_eq_true hq2
                      have hqI : (q : Int) < (2 : Int) := by omega
                      have hqw : IntKind.i64.wrap ((q : Int) + 1) = ((q + 1 : Nat) : Int) := by rw [show (q : Int) + 1 = ((q + 1 : Nat) : Int) by omega]; exact IntWalk.i64_in _ (by omega)
                      obtain ⟨s, hs⟩ : ∃ s, S2.getD q [] = s := ⟨_, rfl⟩
                      have Hsl := Lib.hid (show s.length = 64 by rw [← hs]; exact HQz.out.sec hq2)
                      obtain ⟨QL, hQL⟩ : ∃ z, z = Lib.byteCells s := ⟨_, rfl⟩
                      have HQn := Lib.hid (show (Try.prog.info? 49).map (·.size) = some QL.length by rw [hQL, Lib.byteCells_length, Hsl.out]; exact secInfo)
                      have HQi := Lib.hid (show (Try.prog.info? 49).map (·.size) = some QL.toArray.size ∧ ZS.toArray.size = QL.toArray.size by rw [List.size_toArray, List.size_toArray, hQL, Lib.byteCells_length, Hsl.out, HZS.out]; exact ⟨secInfo, rfl⟩)
                      have HQ1 := Lib.hid (show QL.toArray.all (·.oneCell') = true by rw [hQL]; exact sec_one _)
                      have HqS := Lib.hid (fun w : World => show (Op.equalIn 10000 49 (.agg QL.toArray) (.agg QL.toArray)).run Try.prog w = .ok true w by have h := sec_eqvS Hsl.out Hsl.out hQL hQL w; rwa [decide_eq_true rfl] at h)
                      have Hrd := Lib.hid (show Calls Try.prog 28 #[.pointer (some ⟨k, 0, none⟩), .int .i64 (q : Nat)] wr fun e w' => e = .returned (.tuple #[.agg QL.toArray, .int .i64 0]) ∧ Below wr.heap.size wr w' by
                        obtain ⟨W, _, hk⟩ := HQz.out.dk
                        exact hk.read q hq2 QL (by rw [hs]; exact hQL))
                      have Hwant := Lib.hid (fun (w' : World) (h : TQ w gr gd gw k RL GL S2 S2 F2 (j + 1) w') => show w'.rangeAt gw (q * 64) QL from want_range h.a h.l.2 (by rw [h.l.1]; exact hq2) (by rw [hs]; exact hQL))
                      clear hs hQL
                      go_wp2_with fail
                      refine Calls.mono Hrd.out ?_
                      rintro e wd ⟨rfl, hbd⟩
                      have HBd := Lib.hid (HBz.out.trans (hbd.mono HBz.out.size))
                      obtain ⟨g30, hg30⟩ : ∃ z, z = wd.heap.size := ⟨_, rfl⟩
                      have Hg30 := Lib.hid hg30
                      clear hbd hg30 Hrd HQz HBz
                      go_upto_region 38 with (first | (refine wpList_allocZC rfl 49 rfl ZS.toArray (HZS0.out _) ?_) | (change wpList _ _ _ _ _ (wd.alloc (.cells ZS.toArray 49)); refine wpList_store_row rfl _ _ _ rfl wd.heap.size QL.toArray rfl rfl 49 ZS.toArray (heap_alloc_new wd _) HQi.out.1 HQi.out.2 HQ1.out ?_; obtain ⟨we, hwe⟩ : ∃ x, x = (wd.alloc (.cells ZS.toArray 49)).setRow wd.heap.size QL.toArray := ⟨_, rfl⟩; rw [← hwe]; obtain ⟨hPe, hbe⟩ := alloc_row wd 49 ZS.toArray QL; rw [← hwe] at hPe hbe; clear hwe))
                      rw [← Hg30.out] at hPe ⊢
                      have HBe := Lib.hid (HBd.out.trans (hbe.mono HBd.out.size))
                      have HWr := Lib.hid (Hwant.out we (HQb.out.up HBe.out))
                      have HBf := Lib.hid (Below.dN HBe.out 1)
                      clear hbe HBd Hwant
                      refine wp_region_held_drew (S := fun w' => Arr w' g30 49 QL ∧ w'.rangeAt gw (q * 64) QL) (by kernel_rfl) ⟨Arr.drewN hPe 1, fun j v hj => HWr.out j v hj⟩ (fun hHeld => ?_)
                      refine anyH_take (i := 0) (v := .agg QL.toArray) (some 169) rfl rfl (by kernel_rfl) (by kernel_rfl) (by kernel_rfl) (fun _ _ _ h => h) (yieldsIf_load_mid (by rfl) 49 (.tmp 30) rfl g30 0 rfl QL _ (fun w' h => Arr.range h.1) Try.underlying49 rfl HQn.out) (by assumption) ?_
                      simp only [Act.put, List.setIfInBounds_toArray, List.set_cons_zero, List.set_cons_succ]
                      refine anyH_take (i := 1) (v := .slice (some ⟨gw, 0, none⟩) 2 2) (some 170) rfl rfl (by kernel_rfl) (by kernel_rfl) (by kernel_rfl) (fun _ _ _ h => h) (Or.inl ⟨by rfl, fun _ hw => by rfl⟩) (by assumption) ?_
                      simp only [Act.put, List.setIfInBounds_toArray, List.set_cons_zero, List.set_cons_succ]
                      refine anyH_take (i := 2) (v := .int .i64 (q : Nat)) (some 171) rfl rfl (by kernel_rfl) (by kernel_rfl) (by kernel_rfl) (fun _ _ _ h => h) (Or.inl ⟨by rfl, fun _ hw => by rfl⟩) (by assumption) ?_
                      simp only [Act.put, List.setIfInBounds_toArray, List.set_cons_zero, List.set_cons_succ]
                      refine anyH_take (i := 3) (v := .pointer (some ⟨gw, q * 64, none⟩)) (some 172) rfl rfl (by kernel_rfl) (by kernel_rfl) (by kernel_rfl) (fun _ _ _ h => h) (Or.inl ⟨by rfl, fun _ hw => by go_simp⟩) (by assumption) ?_
                      simp only [Act.put, List.setIfInBounds_toArray, List.set_cons_zero, List.set_cons_succ]
                      refine anyH_take (i := 4) (v := .agg QL.toArray) (some 173) rfl rfl (by kernel_rfl) (by kernel_rfl) (by kernel_rfl) (fun _ _ _ h => h) (yieldsIf_load_mid (by rfl) 49 (.tmp 172) rfl gw (q * 64) rfl QL _ (fun w' h => h.2) Try.underlying49 rfl HQn.out) (by assumption) ?_
                      simp only [Act.put, List.setIfInBounds_toArray, List.set_cons_zero, List.set_cons_succ]
                      refine anyH_take (i := 5) (v := .bool (!true)) (some 174) rfl rfl (by kernel_rfl) (by kernel_rfl) (by kernel_rfl) (fun _ _ _ h => h) (yieldsIf_neqC (by rfl) 49 _ _ _ rfl QL QL rfl rfl true HqS.out gtSec) (by assumption) ?_
                      simp only [Act.put, List.setIfInBounds_toArray, List.set_cons_zero, List.set_cons_succ]
                      refine wpAnyH_done (by kernel_rfl) ?_ _
                      clear hHeld
                      go_wp2_with fail
                      go_roundw
                      case rel => exact ⟨q + 1, by omega, by go_num, HBf⟩
                      case measure => (simp [Go.RowKit.intOf]; try omega)
                    · obtain rfl : q = 2 := by omega
                      have hjw : IntKind.i64.wrap ((j : Int) + 1) = ((j + 1 : Nat) : Int) := by rw [show (j : Int) + 1 = ((j + 1 : Nat) : Int) by omega]; exact IntWalk.i64_in _ (by omega)
                      clear hq2
                      go_wp2_with fail
                      go_roundw
                      case rel => exact ⟨j + 1, S2, F2, by omega, by go_num, HQz⟩
                      case measure => (simp [Go.RowKit.intOf]; try omega)
        | succ q =>
          have e0 : ((q + 1 : Nat) : Int) - 1 = (q : Int) := by omega
          rw [e0]
          clear e0
          have hq2 : q < 2 := by omega
          have hd1 : decide ((0 : Int) ≤ (q : Int)) = true := by simp
          have hd1' : decide ((q : Int) ≥ 0) = true := hd1
          have hqI : (q : Int) < (2 : Int) := by omega
          have hqw : IntKind.i64.wrap ((q : Int) - 1) = (q : Int) - 1 := IntWalk.i64_in _ (by omega)
          obtain ⟨s, hs⟩ : ∃ s, S.getD q [] = s := ⟨_, rfl⟩
          have Hs := Lib.hid hs
          have Hsl := Lib.hid (show s.length = 64 by rw [← hs]; exact HQ.out.sec hq2)
          obtain ⟨QL, hQL⟩ : ∃ z, z = Lib.byteCells s := ⟨_, rfl⟩
          have HQL := Lib.hid hQL
          have HQn := Lib.hid (show (Try.prog.info? 49).map (·.size) = some QL.length by rw [hQL, Lib.byteCells_length, Hsl.out]; exact secInfo)
          have HQr := Lib.hid (show wr.rangeAt gw (q * 64) QL from want_range HQx.out.a HQx.out.l.2 (by rw [HQx.out.l.1]; exact hq2) (by rw [hs]; exact hQL))
          obtain ⟨T, hT⟩ : ∃ T, T = tellF s := ⟨_, rfl⟩
          have HT := Lib.hid hT
          obtain ⟨TL, hTL⟩ : ∃ z, z = rC T.1 := ⟨_, rfl⟩
          have HTL := Lib.hid hTL
          have hTw : RefW T.1 := by rw [hT]; exact (tell_w s).1
          have HTw := Lib.hid hTw
          have HTi := Lib.hid (show (Try.prog.info? 26).map (·.size) = some TL.toArray.size ∧ ZL.toArray.size = TL.toArray.size by rw [List.size_toArray, List.size_toArray, hTL, rC_length hTw, HZL.out]; exact ⟨refSize, rfl⟩)
          have HTn := Lib.hid (show (Try.prog.info? 26).map (·.size) = some TL.length by rw [hTL, rC_length hTw]; exact refSize)
          have HT1 := Lib.hid (show TL.toArray.all (·.oneCell') = true by rw [hTL]; exact all_oneC (rC_one _))
          have HqT := Lib.hid (ref_eqvS hTw.d hTw.d hTL hTL rfl)
          obtain ⟨XL, hXL⟩ : ∃ z, z = Lib.byteCells T.1.d := ⟨_, rfl⟩
          have HXn := Lib.hid (show (Try.prog.info? 24).map (·.size) = some XL.length by rw [hXL, Lib.byteCells_length, hTw.d]; exact digInfo)
          obtain ⟨qd, hqd⟩ : ∃ z, decide (T.1.d = dg) = z := ⟨_, rfl⟩
          have Hqd := Lib.hid hqd
          have Heq := Lib.hid (fun w : World => show (Op.equalIn 10000 24 (.agg XL.toArray) (.agg GL.toArray)).run Try.prog w = .ok qd w by rw [← hqd]; exact dig_eqvS hTw.d Hdg.out hXL HGL.out w)
          have HXr := Lib.hid (fun (w' : World) (g : Nat) (h : Arr w' g 26 TL) => show w'.rangeAt g 0 XL from fun j v hj => by rw [h.cell]; exact rC_dig hTw.d hTL j v (by rw [← hXL]; exact hj))
          obtain ⟨tb, htb⟩ : ∃ z, T.2 = z := ⟨_, rfl⟩
          have Htb := Lib.hid htb
          have Hstep := Lib.hid (show fAt S dg q = if tb = true ∧ qd = true then (T.1, true) else fAt S dg (q + 1) by rw [fAt_step S dg hq2, hs, ← hT, htb, ← hqd]; simp only [decide_eq_true_eq])
          have Htold := Lib.hid (told_any s Hsl.out QL hQL T (by rw [told_tell Hsl.out]; exact hT) wr)
          rw [htb, ← hTL] at Htold
          clear hs hQL hT hTL hTw hXL hqd htb
          go_wp2_with (first | ((with_reducible refine wpList_at 66 (by rfl) ?_); refine wpList_load_mid_ifC (by rfl) 49 _ rfl gw (q * 64) rfl QL _ HQr.out Try.underlying49 rfl HQn.out ?_))
          refine Calls.mono Htold.out ?_
          rintro e w2 ⟨rfl, hb2⟩
          have HP2 := Lib.hid (HP.out.up hb2)
          have HB2 := Lib.hid (HB.out.trans (hb2.mono HB.out.size))
          obtain ⟨g20, hg20⟩ : ∃ z, z = w2.heap.size := ⟨_, rfl⟩
          have Hg20 := Lib.hid hg20
          clear hb2 hg20 Htold HP HB HQr HQx
          go_upto_region 17 with (first | (refine wpList_allocZC rfl 26 rfl ZL.toArray (HZ0.out _) ?_) | (change wpList _ _ _ _ _ (w2.alloc (.cells ZL.toArray 26)); refine wpList_store_row rfl _ _ _ rfl w2.heap.size TL.toArray rfl rfl 26 ZL.toArray (heap_alloc_new w2 _) HTi.out.1 HTi.out.2 HT1.out ?_; obtain ⟨w3, hw3⟩ : ∃ x, x = (w2.alloc (.cells ZL.toArray 26)).setRow w2.heap.size TL.toArray := ⟨_, rfl⟩; rw [← hw3]; obtain ⟨hP3, hb3⟩ := alloc_row w2 26 ZL.toArray TL; rw [← hw3] at hP3 hb3; clear hw3))
          rw [← Hg20.out] at hP3 ⊢
          have HP3 := Lib.hid (HP2.out.up hb3)
          have HB3 := Lib.hid (HB2.out.trans (hb3.mono HB2.out.size))
          have HY3 := Lib.hid hP3
          have HQ3 := Lib.hid (HQ.out.up HB3.out)
          have Hrd := Lib.hid (HQ3.out.read hq2 T (by rw [Hs.out]; exact HT.out) TL HTL.out)
          rw [Htb.out] at Hrd
          clear hP3 hb3 HP2 HB2
          go_wp2_with fail
          refine Calls.mono Hrd.out ?_
          rintro e w4 ⟨rfl, hb4⟩
          have HP4 := Lib.hid (HP3.out.up hb4)
          have HB4 := Lib.hid (HB3.out.trans (hb4.mono HB3.out.size))
          have HY4 := Lib.hid (HY3.out.up hb4)
          obtain ⟨g22, hg22⟩ : ∃ z, z = w4.heap.size := ⟨_, rfl⟩
          have Hg22 := Lib.hid hg22
          clear hb4 hg22 Hrd HP3 HB3 HY3 HQ3
          go_upto_region 18 with (first | (refine wpList_allocZC rfl 26 rfl ZL.toArray (HZ0.out _) ?_) | (change wpList _ _ _ _ _ (w4.alloc (.cells ZL.toArray 26)); refine wpList_store_row rfl _ _ _ rfl w4.heap.size TL.toArray rfl rfl 26 ZL.toArray (heap_alloc_new w4 _) HTi.out.1 HTi.out.2 HT1.out ?_; obtain ⟨w5, hw5⟩ : ∃ x, x = (w4.alloc (.cells ZL.toArray 26)).setRow w4.heap.size TL.toArray := ⟨_, rfl⟩; rw [← hw5]; obtain ⟨hP5, hb5⟩ := alloc_row w4 26 ZL.toArray TL; rw [← hw5] at hP5 hb5; clear hw5))
          rw [← Hg22.out] at hP5 ⊢
          have HP5 := Lib.hid (HP4.out.up hb5)
          have HB5 := Lib.hid (HB4.out.trans (hb5.mono HB4.out.size))
          have HY5 := Lib.hid (HY4.out.up hb5)
          have HX5 := Lib.hid (HQ.out.x.up HB5.out)
          have HY5r := Lib.hid (show w5.rangeAt g20 0 TL from HY5.out.range)
          have HZ5r := Lib.hid (show w5.rangeAt g22 0 TL from hP5.range)
          have qb : (tb != tb) = false := by simp
          clear hP5 hb5 HP4 HB4 HY4
          go_upto_region 20 with (first | ((with_reducible refine wpList_at 80 (by rfl) ?_); refine wpList_load_mid_ifC (by rfl) 26 _ rfl g22 0 rfl TL _ HZ5r.out Try.underlying26 rfl HTn.out ?_) | ((with_reducible refine wpList_at 81 (by rfl) ?_); refine wpList_load_mid_ifC (by rfl) 26 _ rfl g20 0 rfl TL _ HY5r.out Try.underlying26 rfl HTn.out ?_) | ((with_reducible refine wpList_at 82 (by rfl) ?_); refine wpList_neq_ifC (by rfl) 26 _ _ _ rfl TL TL rfl rfl true HqT.out gtR ?_))
          have HXr5 := Lib.hid (HXr.out w5 g20 HY5.out)
          have HGr5 := Lib.hid (show w5.rangeAt gd 0 GL from HX5.out.d.range)
          cases tb with
          | false =>
            have HS := Lib.hid (show fAt S dg q = fAt S dg (q + 1) by rw [Hstep.out, if_neg (fun h => by cases h.1)])
            go_wp2_with fail
            go_roundw
            case rel => exact ⟨q, by omega, by rw [HS.out, Hfb.out], by go_num, Lib.hid (by rw [HS.out]; exact HP5.out), HB5⟩
            case measure => (simp [Go.RowKit.intOf]; try omega)
          | true =>
            cases qd with
            | false =>
              have HS := Lib.hid (show fAt S dg q = fAt S dg (q + 1) by rw [Hstep.out, if_neg (fun h => by cases h.2)])
              go_wp2_with (first | ((with_reducible refine wpList_at 87 (by rfl) ?_); refine wpList_load_mid_ifC (by rfl) 24 _ rfl g20 0 rfl XL _ HXr5.out Try.underlying24 rfl HXn.out ?_) | ((with_reducible refine wpList_at 88 (by rfl) ?_); refine wpList_load_mid_ifC (by rfl) 24 _ rfl gd 0 rfl GL _ HGr5.out Try.underlying24 rfl HGn.out ?_) | ((with_reducible refine wpList_at 89 (by rfl) ?_); refine wpList_eql_ifC (by rfl) 24 _ _ _ rfl XL GL rfl rfl false Heq.out gtDg ?_))
              go_roundw
              case rel => exact ⟨q, by omega, by rw [HS.out, Hfb.out], by go_num, Lib.hid (by rw [HS.out]; exact HP5.out), HB5⟩
              case measure => (simp [Go.RowKit.intOf]; try omega)
            | true =>
              have HS := Lib.hid (show fAt S dg q = (T.1, true) by rw [Hstep.out, if_pos ⟨rfl, rfl⟩])
              obtain ⟨PL, hPL⟩ : ∃ z, z = rC (fAt S dg (q + 1)).1 := ⟨_, rfl⟩
              rw [← hPL] at HP5
              have HPi := Lib.hid (show PL.toArray.size = TL.toArray.size by rw [List.size_toArray, List.size_toArray, hPL, HTL.out, rC_length HTw.out, rC_length (fAt_w S dg (q + 1))])
              have Hset := Lib.hid (HP5.out.setRow TL)
              have Hbe := Lib.hid (show Below wo.heap.size wo (w5.setRow g17 TL.toArray) from HB5.out.trans (((Only.refl (fun k => k = g17) w5).setRow (.inl rfl) TL.toArray).below HB5.out.size (by rintro k rfl; exact Nat.le_of_eq Hg17.out.symm)))
              clear hPL
              go_wp2_with (first
                | ((with_reducible refine wpList_at 87 (by rfl) ?_); refine wpList_load_mid_ifC (by rfl) 24 _ rfl g20 0 rfl XL _ HXr5.out Try.underlying24 rfl HXn.out ?_)
                | ((with_reducible refine wpList_at 88 (by rfl) ?_); refine wpList_load_mid_ifC (by rfl) 24 _ rfl gd 0 rfl GL _ HGr5.out Try.underlying24 rfl HGn.out ?_)
                | ((with_reducible refine wpList_at 89 (by rfl) ?_); refine wpList_eql_ifC (by rfl) 24 _ _ _ rfl XL GL rfl rfl true Heq.out gtDg ?_)
                | (refine wpList_load_row rfl _ _ rfl g20 rfl 26 TL.toArray (0, 0) _ HY5.out Try.underlying26 rfl HTi.out.1 ?_)
                | (refine wpList_store_row rfl _ _ _ rfl g17 TL.toArray rfl rfl 26 PL.toArray HP5.out HTi.out.1 HPi.out HT1.out ?_))
              go_roundw
              case rel => exact ⟨q, by omega, by rw [HS.out], by go_num, Lib.hid (by rw [HS.out, ← HTL.out]; exact Hset.out), Hbe⟩
              case measure => (simp [Go.RowKit.intOf]; try omega)
    · obtain rfl : j = 2 := by omega
      have Hbe := Lib.hid HQ.out.x.b
      clear HQ
      go_wp2_with fail
      go_ret
      exact ⟨rfl, Hbe.out⟩

theorem stold_law (ep : Nat) (hep : ep < 18446744073709551616) (dr : List UInt8) (ra0 rn0 : Int) (hdr : dr.length = 32) (ha1 : -9223372036854775808 ≤ ra0) (ha2 : ra0 ≤ 9223372036854775807) (hn1 : -9223372036854775808 ≤ rn0) (hn2 : rn0 ≤ 9223372036854775807)
    (sa sb dg : List UInt8) (sl : Int) (_ : -9223372036854775808 ≤ sl) (_ : sl ≤ 9223372036854775807) (w : World) (hsa : sa.length = 64) (hsb : sb.length = 64) (hdg : dg.length = 32) :
    Calls Try.prog 6 #[.int .u64 (ep : Nat), .agg (refC dr ra0 rn0).toArray, .agg (Lib.byteCells sa).toArray, .agg (Lib.byteCells sb).toArray, .agg (Lib.byteCells dg).toArray, .int .i64 sl] w fun e w' => e = .returned (.bool true) ∧ Below w.heap.size w w' :=
  stold_walk ep hep dr ra0 rn0 hdr ha1 ha2 hn1 hn2 sa sb hsa hsb dg hdg sl w

end Go.Proofs.Ytkepfigoeaheaaa

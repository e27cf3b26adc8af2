/-
  Rows put behind bytes, as long as there is room.
-/
import Derived.Test.YtkepfigoeaheaaaComMay
import Derived.Test.YtkepfigoeaheaaaBytes
namespace Go.Proofs.Ytkepfigoeaheaaa
open Go.RowKit
set_option linter.unusedVariables false
set_option linter.unusedSimpArgs false


def rowsP {α : Type} (enc : α → List UInt8) : List α → List UInt8 → List UInt8
  | [], out => out
  | r :: rs, out => if 65536 < out.length then out else rowsP enc rs (out ++ enc r)
theorem rowsP_big {α : Type} (enc : α → List UInt8) (rs : List α) {out : List UInt8} (h : 65536 < out.length) : rowsP enc rs out = out := by
  cases rs with
  | nil => rfl
  | cons r rs => unfold rowsP; rw [if_pos h]
theorem rowsP_le {α : Type} (enc : α → List UInt8) : ∀ (rs : List α) (out : List UInt8), out.length ≤ (rowsP enc rs out).length
  | [], out => Nat.le_refl _
  | r :: rs, out => by
    unfold rowsP
    split
    · exact Nat.le_refl _
    · have := rowsP_le enc rs (out ++ enc r)
      rw [List.length_append] at this
      omega
theorem rowsP_lim {α : Type} (enc : α → List UInt8) (M : Nat) : ∀ (rs : List α) (out : List UInt8), (∀ r ∈ rs, (enc r).length ≤ M) → (rowsP enc rs out).length ≤ max out.length (65536 + M)
  | [], out, _ => by simp only [rowsP]; omega
  | r :: rs, out, h => by
    unfold rowsP
    split
    · omega
    · have h1 := h r List.mem_cons_self
      have h2 := rowsP_lim enc M rs (out ++ enc r) fun x hx => h x (List.mem_cons_of_mem _ hx)
      rw [List.length_append] at h2
      omega
/-- All rows, or there is no room. -/
theorem rowsP_full {α : Type} (enc enc' : α → List UInt8) (he : ∀ r, enc r = enc' r ∨ (65536 < (enc r).length ∧ 65536 < (enc' r).length)) : ∀ (rs : List α) (out : List UInt8),
    rowsP enc rs out = out ++ rs.flatMap enc' ∨ (65536 < (rowsP enc rs out).length ∧ 65536 < (out ++ rs.flatMap enc').length)
  | [], out => .inl (by simp [rowsP])
  | r :: rs, out => by
    unfold rowsP
    by_cases h : 65536 < out.length
    · rw [if_pos h]
      exact .inr ⟨h, by rw [List.length_append]; omega⟩
    · rw [if_neg h, List.flatMap_cons]
      rcases he r with e | ⟨e1, e2⟩
      · rw [e, ← List.append_assoc]
        exact rowsP_full enc enc' he rs (out ++ enc' r)
      · have := rowsP_le enc rs (out ++ enc r)
        rw [List.length_append] at this
        refine .inr ⟨by omega, ?_⟩
        rw [List.length_append, List.length_append]
        omega
def encT (e : List UInt8) : List UInt8 := Lib.uvarint (min e.length 65536) ++ e.take 65536
theorem encT_is (e : List UInt8) : encT e = encE e ∨ (65536 < (encT e).length ∧ 65536 < (encE e).length) := by
  unfold encT encE
  by_cases h : e.length ≤ 65536
  · rw [Nat.min_eq_left h, List.take_of_length_le h]; exact .inl rfl
  · have h1 := Lib.uvarint_pos (min e.length 65536)
    have h2 := Lib.uvarint_pos e.length
    refine .inr ⟨?_, ?_⟩
    · rw [List.length_append, List.length_take]; omega
    · rw [List.length_append]; omega
theorem encT_lim (e : List UInt8) : (encT e).length ≤ 65546 := by
  unfold encT
  have := Lib.uvarint_length64 (x := min e.length 65536) (by omega)
  rw [List.length_append, List.length_take]
  omega
/-- What Encode makes of a commit that may be. -/
def outC (c : Com) : List UInt8 := rowsP encT c.evs ((rowsP encN c.bins (encH c ++ Lib.uvarint c.bins.length) ++ c.st) ++ Lib.uvarint c.evs.length)
theorem outC_is (c : Com) : outC c = encC c ∨ (65536 < (outC c).length ∧ 65536 < (encC c).length) := by
  unfold outC encC
  rcases rowsP_full encN encN (fun _ => .inl rfl) c.bins (encH c ++ Lib.uvarint c.bins.length) with e | ⟨e1, e2⟩
  · rw [e]
    have h := rowsP_full encT encE encT_is c.evs (((encH c ++ Lib.uvarint c.bins.length) ++ c.bins.flatMap encN ++ c.st) ++ Lib.uvarint c.evs.length)
    simp only [List.append_assoc] at h ⊢
    exact h
  · have := rowsP_le encT c.evs ((rowsP encN c.bins (encH c ++ Lib.uvarint c.bins.length) ++ c.st) ++ Lib.uvarint c.evs.length)
    simp only [List.length_append] at this e2 ⊢
    exact .inr ⟨by omega, by omega⟩

theorem number_own (B x : Nat) (hx : x < 18446744073709551616) (sv : Value) (bs : List UInt8) (w : World) (hown : Owns w B 5 sv bs) (hBw : B ≤ w.heap.size) (hlim : bs.length ≤ 1000000) :
    Calls Try.prog 30 #[sv, .int .u64 x] w fun e w' => ∃ v', e = .returned v' ∧ Owns w' B 5 v' (bs ++ Lib.uvarint x) ∧ Below B w w' := by
  refine (number_any B x hx sv bs w hown hBw (by omega)).mono ?_
  rintro e w' ⟨v', rfl, h1, h2⟩
  exact ⟨v', rfl, h1, h2.below hBw fun k hk => (hown.lt k hk).1⟩

set_option maxHeartbeats 4000000 in
set_option maxRecDepth 100000 in
theorem evput_any (e : List UInt8) (A : Option Addr) (n c : Nat) (w : World) (hn : e.length = n) (hc : n ≤ c) (hm : c ≤ maxLen) (hn2 : n ≤ 1000000) (hb : Bs w w.heap.size A e) :
    Calls Try.prog 35 #[.slice none 0 0, .slice A n c] w fun r w' => ∃ v, r = .returned v ∧ Owns w' w.heap.size 5 v (encT e) ∧ Below w.heap.size w w' := by
  have hm' : c ≤ 9223372036854775807 := by unfold maxLen at hm; omega
  obtain ⟨m, hme⟩ : ∃ m, min n 65536 = m := ⟨_, rfl⟩
  have hmc : m ≤ c := by omega
  have hlen : (e.take 65536).length = m := by rw [List.length_take, hn]; omega
  have hbt : Bs w w.heap.size A (e.take 65536) := fun hp => by
    obtain ⟨b, off, e1, hlt, hr⟩ := hb (by rw [List.length_take] at hp; omega)
    refine ⟨b, off, e1, hlt, fun j hj => ?_⟩
    rw [List.length_take] at hj
    have e2 : (e.take 65536).getD j 0 = e.getD j 0 := by simp [List.getD, List.getElem?_take, show j < 65536 by omega]
    rw [e2]
    exact hr j (by omega)
  have Hout := Lib.hid (show encT e = [] ++ (Lib.uvarint m ++ e.take 65536) by unfold encT; rw [hn, hme]; rfl)
  have hcall := bytes_any w.heap.size (.slice none 0 0) [] (e.take 65536) A c w (Owns.nil _ _ _) (Nat.le_refl _) hbt (by rw [hlen]; exact hmc) (by rw [hlen]; simp; omega)
  rw [hlen] at hcall
  have Hcall := Lib.hid hcall
  have hmin : min (n : Int) 65536 = (m : Int) := by omega
  have hmin2 : (if (n : Int) ≤ 65536 then (n : Int) else 65536) = (m : Int) := by split <;> omega
  have hmI : (m : Int) ≤ (c : Int) := by omega
  clear hcall hbt hlen hb hn
  go_enter Try.func35, Try.ntmps35
  go_wp2_with fail
  refine Calls.mono Hcall.out ?_
  rintro r w1 ⟨v1, rfl, hO1, hg1⟩
  have hb1 := hg1.below (Nat.le_refl _) (fun k hk => by cases hk)
  have HO1 := Lib.hid hO1
  clear hO1 hg1
  go_wp2_with fail
  go_ret
  exact ⟨v1, rfl, by rw [Hout.out]; exact HO1.out, hb1⟩


set_option maxHeartbeats 4000000 in
set_option maxRecDepth 100000 in
theorem nrow_any (B : Nat) (sv : Value) (out : List UInt8) (A : Option Addr) (n c : Nat) (rs : List BinF) (hn : rs.length = n) (hc : n ≤ c) (hm : c ≤ maxLen) (hn2 : n ≤ 1000000) (w : World) (hown : Owns w B 5 sv out) (hBw : B ≤ w.heap.size) (hlim : out.length ≤ 300000) (h : RowOf bC 35 w B A rs) (hd : ∀ r ∈ rs, BinW r) :
    Calls Try.prog 32 #[sv, .slice A n c, .func (.func 33) #[] #[]] w fun e w' => ∃ v, e = .returned v ∧ Owns w' B 5 v (rowsP encN rs (out ++ Lib.uvarint n)) ∧ Below B w w' := by
  obtain ⟨i0, hi, hz0, hz1, hz2⟩ := info_parts byteInfo
  have hm' : c ≤ 9223372036854775807 := by unfold maxLen at hm; omega
  have Hi := Lib.hid (show (Try.prog.info? 5) = some i0 ∧ i0.zero = some (.int .u8 0) ∧ i0.size = 1 ∧ i0.bytes = 1 from ⟨hi, hz0, hz1, hz2⟩)
  have Hn := Lib.hid hn
  obtain ⟨ZL, hZL⟩ : ∃ z, z = binZ := ⟨_, rfl⟩
  have HZ := Lib.hid (fun w : World => show (zeroValue 72).run Try.prog w = .ok (.agg ZL.toArray) w by rw [hZL]; exact binZero w)
  have HZl := Lib.hid (show ZL.length = 35 by rw [hZL]; rfl)
  have Hh := Lib.hid h
  have Hd := Lib.hid hd
  have hul := Lib.uvarint_length64 (x := n) (by omega)
  have hwn : IntKind.u64.wrap (n : Int) = (n : Int) := IntWalk.u64_in _ (by omega)
  obtain ⟨R, hR⟩ : ∃ z, rowsP encN rs (out ++ Lib.uvarint n) = z := ⟨_, rfl⟩
  have HR := Lib.hid hR
  rw [hR]
  have Hown := Lib.hid hown
  have Hkp := Lib.hid (fun (wr : World) (hbr : Below B w wr) (b o : Nat) (hb : b < B) => show wr.cell? ⟨b, o, none⟩ = w.cell? ⟨b, o, none⟩ from World.cell?_of_block (hbr.block b hb))
  clear hn hi hz0 hz1 hz2 hR hown h hd hZL
  go_enter Try.func32, Try.ntmps32
  go_wp2_with fail
  refine Calls.mono (number_own B n (by omega) sv out w Hown.out hBw (by omega)) ?_
  rintro e w1 ⟨v1, rfl, hO1, hb1⟩
  have hlen1 : Hid ((out ++ Lib.uvarint n).length ≤ 400000) := Lib.hid (by rw [List.length_append]; omega)
  have h1B : B ≤ w1.heap.size := by have := hb1.size; omega
  go_wp2_with fail
  go_loopw [0, 16] (fun v i wr => ∃ (k : Nat) (o : List UInt8), k ≤ n ∧ i = .int .i64 k ∧ Owns wr B 5 v o ∧ Hid (rowsP encN (rs.drop k) o = R) ∧ Hid (o.length ≤ 400000) ∧ Below B w wr) (fun _ i _ => n - (Go.RowKit.intOf i).toNat)
  case atStart => exact ⟨0, _, Nat.zero_le _, rfl, hO1, Lib.hid HR.out, hlen1, hb1⟩
  case round =>
    clear hO1 hb1 hlen1 h1B
    obtain ⟨k, o, hk, rfl, hO, Ho, Hl, hbr⟩ := hrel
    have hrB : B ≤ wr.heap.size := by have := hbr.size; omega
    by_cases hlt : k < n
    · have hd1 : decide ((k : Int) < (n : Int)) = true := by simp; omega
      obtain ⟨x, hx⟩ : ∃ x, rs[k]? = some x := ⟨rs[k]'(by rw [Hn.out]; exact hlt), List.getElem?_eq_getElem _⟩
      have hdrop : rs.drop k = x :: rs.drop (k + 1) := by
        rw [List.drop_eq_getElem_cons (by rw [Hn.out]; exact hlt)]
        congr 1
        rw [List.getElem?_eq_getElem (by rw [Hn.out]; exact hlt)] at hx
        injection hx
      have hstep := Ho.out
      rw [hdrop] at hstep
      unfold rowsP at hstep
      have Hstep := Lib.hid hstep
      obtain ⟨Ao, co, rfl, hoc, hom, hobs⟩ := hO.slice
      obtain ⟨lo, hlo⟩ : ∃ z, o.length = z := ⟨_, rfl⟩
      rw [hlo] at hoc hO Hl Hstep ⊢
      have hl4 := Hl.out
      have hom' : co ≤ 9223372036854775807 := by unfold maxLen at hom; omega
      have Hlo := Lib.hid hlo
      have HO := Lib.hid hO
      clear hdrop hstep hobs hlo hO
      obtain ⟨bb, off, rfl, hblk, hrow⟩ := Hh.out (by rw [Hn.out]; omega)
      have hxw := Hd.out x (List.mem_of_getElem? hx)
      obtain ⟨XL, hXL⟩ : ∃ z, z = bC x := ⟨_, rfl⟩
      have hXl : XL.length = 35 := by rw [hXL, bC_length hxw]
      have hrg : wr.rangeAt bb (off + k * 35) XL := fun j v hj => by
        rw [hXL] at hj
        exact (Hkp.out wr hbr bb _ hblk).trans (hrow k x hx j v hj)
      have HXi := Lib.hid (show (Try.prog.info? 72).map (·.size) = some XL.length by rw [hXl]; exact binSize)
      have HXj := Lib.hid (show (Try.prog.info? 72).map (·.size) = some XL.toArray.size by rw [List.size_toArray, hXl]; exact binSize)
      have HX1 := Lib.hid (show XL.toArray.all (·.oneCell') = true by rw [hXL]; exact all_oneC (bC_one x))
      have HXz := Lib.hid (show ZL.toArray.size = XL.toArray.size by rw [List.size_toArray, List.size_toArray, HZl.out, hXl])
      obtain ⟨wa, hwa⟩ : ∃ W, W = (wr.alloc (.cells ZL.toArray 72)).setRow wr.heap.size XL.toArray := ⟨_, rfl⟩
      obtain ⟨hXa, hbra⟩ := alloc_row wr 72 ZL.toArray XL
      rw [← hwa] at hXa hbra
      have hba : Below B w wa := hbr.trans (hbra.mono hrB)
      have HOa := Lib.hid (HO.out.below hbra fun g hg => (HO.out.lt g hg).2)
      have haB : B ≤ wa.heap.size := by have := hba.size; omega
      have Hwa := Lib.hid hwa
      have Hxw := Lib.hid hxw
      have HXL := Lib.hid hXL
      clear hwa hx hrow hXl hbra hxw hXL hblk
      go_upto_region 5 with (first
        | (refine wpList_load_mid rfl _ _ rfl bb (off + k * 35) rfl XL _ hrg Try.underlying72 rfl HXi.out ?_)
        | (refine wpList_allocZC rfl 72 rfl ZL.toArray (HZ.out _) ?_)
        | (refine wpList_store_row rfl _ _ _ rfl wr.heap.size XL.toArray rfl rfl 72 ZL.toArray (heap_alloc_new wr _) HXj.out HXz.out HX1.out ?_; rw [← Hwa.out]))
      clear hrg
      by_cases hbig : 65536 < lo
      · have hq1 : decide ((65536 : Int) < (lo : Int)) = true := by simp; omega
        have hst := Hstep.out
        rw [if_pos hbig] at hst
        have Hst := Lib.hid hst
        clear hst
        go_wp2_with fail
        go_ret
        exact ⟨_, rfl, by rw [← Hst.out]; exact HOa.out, hba⟩
      · have hq1 : decide ((65536 : Int) < (lo : Int)) = false := by simp; omega
        have hst := Hstep.out
        rw [if_neg hbig] at hst
        have Hst := Lib.hid hst
        have hlo5 : lo ≤ 65536 := by omega
        clear hst hbig
        go_wp2_with (refine wpList_load_row rfl _ _ rfl wr.heap.size rfl 72 XL.toArray (0, 0) _ hXa Try.underlying72 rfl HXj.out ?_)
        refine Calls.mono (nput_any x.x x.a x.n x.d Hxw.out.d XL HXL.out wa) ?_
        rintro e w6 ⟨v6, rfl, hO6, hb6⟩
        have Hl6x := Lib.hid (show (encN x).length ≤ 72 by have := encN_lim x; have := Hxw.out.d; omega)
        have hO6 : Owns w6 wa.heap.size 5 v6 (encN x) := hO6
        have h6a := hb6.size
        have h6B : B ≤ w6.heap.size := by omega
        have HOz := Lib.hid (HOa.out.below hb6 fun g hg => (HOa.out.lt g hg).2)
        obtain ⟨A6, c6, rfl, h6c, h6m, hBs6⟩ := hO6.slice
        obtain ⟨m6, hm6⟩ : ∃ z, (encN x).length = z := ⟨_, rfl⟩
        have hb6B : Below B w w6 := hba.trans (hb6.mono haB)
        have hlx6 := Hl6x.out
        rw [hm6] at h6c hlx6 ⊢
        have Hm6 := Lib.hid hm6
        have HBs6 := Lib.hid hBs6
        have h6m' : c6 ≤ 9223372036854775807 := by unfold maxLen at h6m; omega
        clear hb6 hO6 hm6 hBs6
        go_wp2_with (refine wpList_append_bs rfl _ _ 33 rfl B 5 i0 (.int .u8 0) Try.underlying33 Hi.out.1 Hi.out.2.1 Hi.out.2.2.1 Hi.out.2.2.2 rfl _ o rfl HOz.out w6.heap.size A6 m6 c6 (encN x) rfl Hm6.out HBs6.out (by rw [Hlo.out]; omega) h6B ?_; intro v7 w7 hO7 hg7)
        have hb7 : Below B w w7 := hb6B.trans (hg7.below h6B fun g hg => (HOz.out.lt g hg).1)
        have Hl7 : Hid ((o ++ encN x).length ≤ 400000) := Lib.hid (by rw [List.length_append, Hlo.out, Hm6.out]; omega)
        clear hg7
        go_roundw
        case rel => exact ⟨k + 1, _, by omega, by go_num, hO7, Hst, Hl7, hb7⟩
        case measure => simp [Go.RowKit.intOf]; omega
    · obtain rfl : k = n := by omega
      have hd1 : decide (k < k) = false := by simp
      have hfin := Ho.out
      rw [List.drop_of_length_le (by rw [Hn.out]; exact Nat.le_refl _)] at hfin
      have Hfin := Lib.hid (show o = R from hfin)
      have HO := Lib.hid hO
      clear hfin hO
      go_wp2_with fail
      go_ret
      exact ⟨_, rfl, by rw [← Hfin.out]; exact HO.out, hbr⟩


set_option maxHeartbeats 4000000 in
set_option maxRecDepth 100000 in
theorem erow_any (B : Nat) (sv : Value) (out : List UInt8) (A : Option Addr) (n c : Nat) (rs : List (List UInt8)) (hn : rs.length = n) (hc : n ≤ c) (hm : c ≤ maxLen) (hn2 : n ≤ 1000000) (w : World) (hown : Owns w B 5 sv out) (hBw : B ≤ w.heap.size) (hlim : out.length ≤ 300000) (h : RowsAt w B A rs) (hd : ∀ r ∈ rs, r.length ≤ 1000000) :
    Calls Try.prog 34 #[sv, .slice A n c, .func (.func 35) #[] #[]] w fun e w' => ∃ v, e = .returned v ∧ Owns w' B 5 v (rowsP encT rs (out ++ Lib.uvarint n)) ∧ Below B w w' := by
  obtain ⟨i0, hi, hz0, hz1, hz2⟩ := info_parts byteInfo
  have hm' : c ≤ 9223372036854775807 := by unfold maxLen at hm; omega
  have Hi := Lib.hid (show (Try.prog.info? 5) = some i0 ∧ i0.zero = some (.int .u8 0) ∧ i0.size = 1 ∧ i0.bytes = 1 from ⟨hi, hz0, hz1, hz2⟩)
  have Hn := Lib.hid hn
  have Hh := Lib.hid h
  have Hd := Lib.hid hd
  have hul := Lib.uvarint_length64 (x := n) (by omega)
  have hwn : IntKind.u64.wrap (n : Int) = (n : Int) := IntWalk.u64_in _ (by omega)
  obtain ⟨R, hR⟩ : ∃ z, rowsP encT rs (out ++ Lib.uvarint n) = z := ⟨_, rfl⟩
  have HR := Lib.hid hR
  rw [hR]
  have Hown := Lib.hid hown
  have Hkp := Lib.hid (fun (wr : World) (hbr : Below B w wr) (b o : Nat) (hb : b < B) => show wr.cell? ⟨b, o, none⟩ = w.cell? ⟨b, o, none⟩ from World.cell?_of_block (hbr.block b hb))
  clear hn hi hz0 hz1 hz2 hR hown h hd
  go_enter Try.func34, Try.ntmps34
  go_wp2_with fail
  refine Calls.mono (number_own B n (by omega) sv out w Hown.out hBw (by omega)) ?_
  rintro e w1 ⟨v1, rfl, hO1, hb1⟩
  have hlen1 : Hid ((out ++ Lib.uvarint n).length ≤ 400000) := Lib.hid (by rw [List.length_append]; omega)
  have h1B : B ≤ w1.heap.size := by have := hb1.size; omega
  go_wp2_with fail
  go_loopw [0, 16] (fun v i wr => ∃ (k : Nat) (o : List UInt8), k ≤ n ∧ i = .int .i64 k ∧ Owns wr B 5 v o ∧ Hid (rowsP encT (rs.drop k) o = R) ∧ Hid (o.length ≤ 400000) ∧ Below B w wr) (fun _ i _ => n - (Go.RowKit.intOf i).toNat)
  case atStart => exact ⟨0, _, Nat.zero_le _, rfl, hO1, Lib.hid HR.out, hlen1, hb1⟩
  case round =>
    clear hO1 hb1 hlen1 h1B
    obtain ⟨k, o, hk, rfl, hO, Ho, Hl, hbr⟩ := hrel
    have hrB : B ≤ wr.heap.size := by have := hbr.size; omega
    by_cases hlt : k < n
    · have hd1 : decide ((k : Int) < (n : Int)) = true := by simp; omega
      obtain ⟨x, hx⟩ : ∃ x, rs[k]? = some x := ⟨rs[k]'(by rw [Hn.out]; exact hlt), List.getElem?_eq_getElem _⟩
      have hdrop : rs.drop k = x :: rs.drop (k + 1) := by
        rw [List.drop_eq_getElem_cons (by rw [Hn.out]; exact hlt)]
        congr 1
        rw [List.getElem?_eq_getElem (by rw [Hn.out]; exact hlt)] at hx
        injection hx
      have hstep := Ho.out
      rw [hdrop] at hstep
      unfold rowsP at hstep
      have Hstep := Lib.hid hstep
      obtain ⟨Ao, co, rfl, hoc, hom, hobs⟩ := hO.slice
      obtain ⟨lo, hlo⟩ : ∃ z, o.length = z := ⟨_, rfl⟩
      rw [hlo] at hoc hO Hl Hstep ⊢
      have hl4 := Hl.out
      have hom' : co ≤ 9223372036854775807 := by unfold maxLen at hom; omega
      have Hlo := Lib.hid hlo
      have HO := Lib.hid hO
      clear hdrop hstep hobs hlo hO
      obtain ⟨bb, off, rfl, hblk, hrow⟩ := Hh.out (by rw [Hn.out]; omega)
      obtain ⟨Ax, cx, hcx, hxc, hxm, hbx⟩ := hrow k (by rw [Hn.out]; exact hlt)
      have hxk : rs.getD k [] = x := by simp [List.getD, hx]
      rw [hxk] at hcx hxc hbx
      have hxl := Hd.out x (List.mem_of_getElem? hx)
      obtain ⟨lx, hlx⟩ : ∃ z, x.length = z := ⟨_, rfl⟩
      rw [hlx] at hcx hxc hxl
      have hcr : wr.cell? ⟨bb, off + k, none⟩ = some (.slice Ax lx cx) := (Hkp.out wr hbr bb _ hblk).trans hcx
      have Hbx := Lib.hid (show Bs wr wr.heap.size Ax x from (hbx.below hbr (Nat.le_refl _)).more hrB)
      have Hlx := Lib.hid hlx
      obtain ⟨wa, rfl⟩ : ∃ z, z = wr := ⟨_, rfl⟩
      have hba := hbr
      have HOa := HO
      have haB := hrB
      clear hx hrow hcx hbx hxk hlx hblk
      go_upto_region 5 with fail
      clear hcr
      by_cases hbig : 65536 < lo
      · have hq1 : decide ((65536 : Int) < (lo : Int)) = true := by simp; omega
        have hst := Hstep.out
        rw [if_pos hbig] at hst
        have Hst := Lib.hid hst
        clear hst
        go_wp2_with fail
        go_ret
        exact ⟨_, rfl, by rw [← Hst.out]; exact HOa.out, hba⟩
      · have hq1 : decide ((65536 : Int) < (lo : Int)) = false := by simp; omega
        have hst := Hstep.out
        rw [if_neg hbig] at hst
        have Hst := Lib.hid hst
        have hlo5 : lo ≤ 65536 := by omega
        clear hst hbig
        go_wp2_with fail
        refine Calls.mono (evput_any x Ax lx cx wa Hlx.out hxc hxm hxl Hbx.out) ?_
        rintro e w6 ⟨v6, rfl, hO6, hb6⟩
        have Hl6x := Lib.hid (show (encT x).length ≤ 65546 from encT_lim x)
        have h6a := hb6.size
        have h6B : B ≤ w6.heap.size := by omega
        have HOz := Lib.hid (HOa.out.below hb6 fun g hg => (HOa.out.lt g hg).2)
        obtain ⟨A6, c6, rfl, h6c, h6m, hBs6⟩ := hO6.slice
        obtain ⟨m6, hm6⟩ : ∃ z, (encT x).length = z := ⟨_, rfl⟩
        have hb6B : Below B w w6 := hba.trans (hb6.mono haB)
        have hlx6 := Hl6x.out
        rw [hm6] at h6c hlx6 ⊢
        have Hm6 := Lib.hid hm6
        have HBs6 := Lib.hid hBs6
        have h6m' : c6 ≤ 9223372036854775807 := by unfold maxLen at h6m; omega
        clear hb6 hO6 hm6 hBs6
        go_wp2_with (refine wpList_append_bs rfl _ _ 33 rfl B 5 i0 (.int .u8 0) Try.underlying33 Hi.out.1 Hi.out.2.1 Hi.out.2.2.1 Hi.out.2.2.2 rfl _ o rfl HOz.out w6.heap.size A6 m6 c6 (encT x) rfl Hm6.out HBs6.out (by rw [Hlo.out]; omega) h6B ?_; intro v7 w7 hO7 hg7)
        have hb7 : Below B w w7 := hb6B.trans (hg7.below h6B fun g hg => (HOz.out.lt g hg).1)
        have Hl7 : Hid ((o ++ encT x).length ≤ 400000) := Lib.hid (by rw [List.length_append, Hlo.out, Hm6.out]; omega)
        clear hg7
        go_roundw
        case rel => exact ⟨k + 1, _, by omega, by go_num, hO7, Hst, Hl7, hb7⟩
        case measure => simp [Go.RowKit.intOf]; omega
    · obtain rfl : k = n := by omega
      have hd1 : decide (k < k) = false := by simp
      have hfin := Ho.out
      rw [List.drop_of_length_le (by rw [Hn.out]; exact Nat.le_refl _)] at hfin
      have Hfin := Lib.hid (show o = R from hfin)
      have HO := Lib.hid hO
      clear hfin hO
      go_wp2_with fail
      go_ret
      exact ⟨_, rfl, by rw [← Hfin.out]; exact HO.out, hbr⟩

end Go.Proofs.Ytkepfigoeaheaaa

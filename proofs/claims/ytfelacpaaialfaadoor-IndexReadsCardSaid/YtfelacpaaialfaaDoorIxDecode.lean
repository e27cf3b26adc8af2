/-
  The index of bytes: the code's Decode.
-/
import Derived.Test.YtfelacpaaialfaaDoorIxNew
import Derived.Test.YtfelacpaaialfaaDoorFrom
import Derived.Test.YtfelacpaaialfaaDoorInWrong
namespace Go.Proofs.YtfelacpaaialfaaDoor
open Go.RowKit
set_option linter.unusedVariables false
set_option linter.unusedSimpArgs false

theorem wpList_atD {P : Program} {ops : Array Oper} {rest : List Oper} {o : Oper} {a : Act} {w : World} {Q : Exit → Act → World → Prop} (n : Nat) (hd : o.dst = some n) (h : wpList P ops Q (o :: rest) a w) : wpList P ops Q (o :: rest) a w := h
/-- 'm[k] = v' in a region that draws its order. -/
theorem wp_mapUpdate_to {H : Type} {P : Program} {o : Oper} {a : Act} {w : World} {K : Act → World → Prop} {Q : Exit → Act → World → Prop} (hd : o.dst = none) (m x v : Operand) (t : TypeId) (hop : o.op = Op.mapUpdate t m x v)
    (k e : TypeId) (KK : Go.Maps.Keyed P k) (ht : P.underlying t = some (.map k e)) (R : Value → Option (DataW H × List MemPlace)) (b n : Nat) (D : DataW H)
    (hm : a.eval m = .map (some b)) (hown : w.ownsMap P k R b n D) (hn : n < maxLen) (key val : Value) (kl : Lit) (hx : a.eval x = key) (hv : a.eval v = val) (hkey : keyOf P k key = some kl)
    (d : DataW H) (ps : List MemPlace) (hval : R val = some (d, ps))
    (hK : ∀ w', w'.ownsMap P k R b (n + 1) (D.put kl d) → w.grownBy w' (some b) → K a w') : o.wp P a w K Q := by
  obtain ⟨w', hrun, r1, r2⟩ := World.ownsMap.update hown KK ht hn hkey hval
  have he : a.put o.dst undef = a := by rw [hd]; rfl
  have hk : K (a.put o.dst undef) w' := by rw [he]; exact hK w' r1 r2
  unfold Oper.wp
  simp [execOp, hop, hm, hx, hv, hrun, Result.andThen]
  exact hk
theorem World.ownsMap.tight {H : Type} {P : Program} {k : TypeId} {R : Value → Option (DataW H × List MemPlace)} {w : World} {b n : Nat} {D : DataW H} (h : w.ownsMap P k R b n D) : w.ownsMap P k R b (Maps.size D) D := by
  obtain ⟨es, clock, hb, F, hs, rfl⟩ := h
  exact ⟨es, clock, hb, F, by simp [Maps.size, length_sorted], rfl⟩
theorem ixD_size (L : List Ix) : Maps.size (ixD L) = L.length := by
  unfold ixD
  rw [Maps.size_eq, List.length_map]

theorem Below.setR {a b : World} (h : Below a.heap.size a b) {g : Nat} (hg : a.heap.size ≤ g) (c : Array Value) : Below a.heap.size a (b.setRow g c) :=
  ((Only.of_below h).setRow (.inr hg) c).below (R := fun _ => False) (Nat.le_refl _) (fun _ h => h.elim)
def lastI (acc : List Ix) : List UInt8 := match acc.getLast? with | none => zeros | some x => x.d
theorem lastI_len {acc : List Ix} (h : OkI acc) : (lastI acc).length = 32 := by
  unfold lastI
  cases hl : acc.getLast? with
  | none => rfl
  | some x => exact (h.1 x (List.mem_of_getLast? hl)).1.1
theorem nowKept {B : Nat} {w w' : World} {L : List Value} (h : w.rangeAt 0 0 L) (hb : Below B w w') (hB : 0 < B) : w'.rangeAt 0 0 L := fun j v hj => by rw [← h j v hj]; exact World.cell?_of_block (hb.block 0 hB)
def IDecPost (n : Nat) (b : List UInt8) (w : World) (e : Ending) (w' : World) : Prop :=
  Below w.heap.size w w' ∧ ((decI b = none ∧ e = .returned (.tuple #[.pointer none, .int .i64 3])) ∨
    ∃ s mb L, decI b = some L ∧ e = .returned (.tuple #[.pointer (some ⟨s, 0, none⟩), .int .i64 0]) ∧ IxQ w' s mb L ∧ w.heap.size ≤ mb ∧ w.heap.size ≤ s)

set_option maxHeartbeats 8000000 in
set_option maxRecDepth 100000 in
theorem idecode_any (A : Option Addr) (n c : Nat) (b : List UInt8) (hn : b.length = n) (hc : n ≤ c) (hm : c ≤ maxLen) (hlim : n ≤ 100000) (w : World) (hb : Bs w w.heap.size A b) (h0 : 0 < w.heap.size) (hno : w.rangeAt 0 0 (plC (-1) 0)) :
    Calls Tryd.prog 5 #[.slice A n c] w (IDecPost n b w) := by
  have Hfrom := Lib.hid (from_anyL w.heap.size A c b w hb (by omega))
  rw [hn] at Hfrom
  obtain ⟨R, hR⟩ : ∃ z, decI b = z := ⟨_, rfl⟩
  have HR := Lib.hid hR
  obtain ⟨N, hN⟩ : ∃ z, (numS n (b, false)).1 = z := ⟨_, rfl⟩
  obtain ⟨s1, hs1⟩ : ∃ z, (numS n (b, false)).2 = z := ⟨_, rfl⟩
  have HRv := Lib.hid (show finI (itemsS N ([], s1)) = R by rw [← hR, ← hN, ← hs1, ← hn]; rfl)
  have hNn : N ≤ n := by rw [← hN]; exact numS_le _ _
  have Hnum := Lib.hid (fun (lo p : Nat) (w : World) (h : PInL lo w p b false) => show Calls Tryd.prog 15 #[.pointer (some ⟨p, 0, none⟩), .int .u64 (n : Nat)] w fun e w' => e = .returned (.int .u64 (N : Nat)) ∧ PInL lo w' p s1.1 s1.2 ∧ Turn p w w' by have := inumber_fl (lo := lo) p n (b, false) w h (by omega); rw [hN, hs1] at this; exact this)
  clear hb hN hs1 hR hn
  go_enter Tryd.func5, Tryd.ntmps5
  go_wp2_with fail
  refine Calls.mono Hfrom.out ?_
  rintro e w1 ⟨p, rfl, hp1, hP1, hb1⟩
  have hp1s := hP1.lt
  go_wp2_with fail
  refine Calls.mono (inew_any w1) ?_
  rintro e w2 ⟨rfl, hQ2, hb2⟩
  obtain ⟨mb, hmb⟩ : ∃ z, z = w1.heap.size := ⟨_, rfl⟩
  rw [← hmb] at hQ2 ⊢
  have hpm : p < mb := by omega
  have hwm : w.heap.size ≤ mb := by have := hb1.size; omega
  have hP2 : PInL w.heap.size w2 p b false := hP1.kept fun i hi => hb2.block i (by omega)
  have hbw2 : Below w.heap.size w w2 := hb1.trans (hb2.mono hb1.size)
  clear hP1 hb1 hb2 Hfrom hmb
  go_upto_region 4 with fail
  obtain ⟨gl, hgl⟩ : ∃ z, z = w2.heap.size := ⟨_, rfl⟩
  rw [← hgl]
  obtain ⟨w3, hw3⟩ : ∃ z, z = w2.alloc (.cells (Lib.byteCells zeros).toArray 39) := ⟨_, rfl⟩
  change Code.wp _ _ _ _ (w2.alloc (.cells (Lib.byteCells zeros).toArray 39))
  rw [← hw3]
  have hb23 : Below w2.heap.size w2 w3 := by rw [hw3]; exact (Below.refl _ _).alloc (Nat.le_refl _) _
  have hl3 : Arr w3 gl 39 (Lib.byteCells zeros) := by rw [hw3, hgl]; exact Arr.new w2 _ _
  have hQ3 := hQ2.up hb23
  have hml := hQ2.lt
  have hP3 : PInL w.heap.size w3 p b false := hP2.kept fun i hi => hb23.block i (by omega)
  have hbw3 : Below w.heap.size w w3 := hbw2.trans (hb23.mono hbw2.size)
  have hmg : mb + 1 < gl := by omega
  clear hw3 hb23 hQ2 hml hP2 hbw2 hgl
  go_wp2_with fail
  refine Calls.mono (Hnum.out _ p w3 hP3) ?_
  rintro e w4 ⟨rfl, hP4, ht4⟩
  have hl4 : Arr w4 gl 39 (Lib.byteCells zeros) := (ht4.block _ hl3.lt (fun e => by injection e; omega)).trans hl3
  have hQ4 : IxQ w4 (mb + 1) mb [] := hQ3.kept (ht4.block _ hQ3.lt.1 (fun e => by injection e; omega)) (ht4.block _ hQ3.lt.2 (fun e => by injection e; omega))
  have hbw4 : Below w.heap.size w w4 := hbw3.trans (ht4.below hbw3.size hp1)
  clear hl3 hQ3 hP3 hbw3 ht4 Hnum
  go_wp2_with fail
  go_loopw [19] (fun i wr => ∃ (k : Nat) (acc : List Ix) (s4 : St), k ≤ N ∧ i = .int .u64 (k : Nat) ∧ Arr wr gl 39 (Lib.byteCells (lastI acc)) ∧ IxQ wr (mb + 1) mb acc ∧ PInL w.heap.size wr p s4.1 s4.2 ∧ Hid (finI (itemsS (N - k) (acc, s4)) = R) ∧ Hid (OkI acc ∧ acc.length = k) ∧ Below w.heap.size w wr) (fun i _ => N - (Go.RowKit.intOf i).toNat)
  case atStart => exact ⟨0, [], s1, Nat.zero_le _, rfl, hl4, hQ4, hP4, Lib.hid HRv.out, Lib.hid ⟨⟨fun x hx => (by cases hx), .nil⟩, rfl⟩, hbw4⟩
  case round =>
    clear hl4 hQ4 hP4 hbw4
    obtain ⟨k, acc, s4, hk, rfl, hla, hQ, hP, Hrun, Hok, hbw⟩ := hrel
    have hpr := hP.lt
    by_cases hlt : k < N
    · have hd1 : decide ((k : Int) < (N : Int)) = true := by simp; omega
      have hd2 : decide (k < N) = true := by simp; omega
      have hrun := Hrun.out
      rw [show N - k = (N - (k + 1)) + 1 by omega] at hrun
      unfold itemsS at hrun
      have Hdg := Lib.hid (idigest_fl p s4 wr hP)
      have Hdl := Lib.hid (digS_length s4)
      obtain ⟨d, hd⟩ : ∃ z, (digS s4).1 = z := ⟨_, rfl⟩
      obtain ⟨s5, hs5⟩ : ∃ z, (digS s4).2 = z := ⟨_, rfl⟩
      have Htk := Lib.hid (fun (w' : World) (h : PInL w.heap.size w' p s5.1 s5.2) => itake_any p s5 w' h)
      have hit : itemS s4 = (⟨d, (takeI s5).1.1, (takeI s5).1.2.1, (takeI s5).1.2.2⟩, (takeI s5).2) := by unfold itemS; rw [hd, hs5]
      obtain ⟨tb, htb⟩ : ∃ z, (takeI s5).1.1 = z := ⟨_, rfl⟩
      obtain ⟨ts, hts⟩ : ∃ z, (takeI s5).1.2.1 = z := ⟨_, rfl⟩
      obtain ⟨tu, htu⟩ : ∃ z, (takeI s5).1.2.2 = z := ⟨_, rfl⟩
      obtain ⟨s6, hs6⟩ : ∃ z, (takeI s5).2 = z := ⟨_, rfl⟩
      have htb2 : tb ≤ 2147483648 := by rw [← htb]; exact numS_le _ _
      have hts2 : ts ≤ 65535 := by rw [← hts]; exact numS_le _ _
      have htu2 : tu ≤ 2147483647 := by rw [← htu]; exact numS_le _ _
      rw [htb, hts, htu, hs6] at hit
      rw [htb, hts, htu, hs6] at Htk
      rw [hd, hs5] at Hdg
      rw [hd] at Hdl
      rw [hit] at hrun
      dsimp only at hrun
      have Hr := Lib.hid hrun
      obtain ⟨DL, hDL⟩ : ∃ z, z = Lib.byteCells d := ⟨_, rfl⟩
      obtain ⟨VL, hVL⟩ : ∃ z, z = stC tb ts tu := ⟨_, rfl⟩
      rw [← hDL] at Hdg
      rw [← hVL] at Htk
      have HDi := Lib.hid (show (Tryd.prog.info? 39).map (·.size) = some DL.toArray.size ∧ (Lib.byteCells zeros).toArray.size = DL.toArray.size by rw [hDL, List.size_toArray, List.size_toArray, Lib.byteCells_length, Lib.byteCells_length, Hdl.out]; exact ⟨digInfo, rfl⟩)
      have HD1 := Lib.hid (show DL.toArray.all (·.oneCell') = true by rw [hDL]; exact dig_one _)
      have HVi := Lib.hid (show (Tryd.prog.info? 50).map (·.size) = some VL.toArray.size ∧ (#[.int .i64 0, .int .i64 0, .int .i64 0] : Array Value).size = VL.toArray.size by rw [hVL]; exact ⟨stInfo, rfl⟩)
      have HV1 := Lib.hid (show VL.toArray.all (·.oneCell') = true by rw [hVL]; simp [stC, Value.oneCell'])
      have HDL := Lib.hid hDL
      have HVL := Lib.hid hVL
      have HVl := Lib.hid (show (Tryd.prog.info? 50).map (·.size) = some VL.length by rw [hVL]; exact stInfo)
      clear hrun Hrun hd hs5 hit htb hts htu hs6 hP hDL hVL
      go_wp2_with fail
      refine Calls.mono Hdg.out ?_
      rintro e w5 ⟨rfl, hP5, ht5⟩
      have hla5 := (ht5.block _ hla.lt (fun e => by injection e; omega)).trans hla
      have hQ5 : IxQ w5 (mb + 1) mb acc := hQ.kept (ht5.block _ hQ.lt.1 (fun e => by injection e; omega)) (ht5.block _ hQ.lt.2 (fun e => by injection e; omega))
      have hbw5 : Below w.heap.size w w5 := hbw.trans (ht5.below hbw.size hp1)
      clear hla hQ hbw ht5 Hdg
      go_wp2_with fail
      refine Calls.mono (Htk.out w5 hP5) ?_
      rintro e w6 ⟨rfl, hP6, ht6⟩
      have hla6 : Arr w6 gl 39 (Lib.byteCells (lastI acc)) := (ht6.block _ (Arr.lt hla5) (fun e => by injection e; omega)).trans hla5
      have hQ6 : IxQ w6 (mb + 1) mb acc := hQ5.kept (ht6.block _ hQ5.lt.1 (fun e => by injection e; omega)) (ht6.block _ hQ5.lt.2 (fun e => by injection e; omega))
      have hbw6 : Below w.heap.size w w6 := hbw5.trans (ht6.below hbw5.size hp1)
      clear hla5 hQ5 hbw5 ht6 hP5 Htk
      obtain ⟨gd, hgd⟩ : ∃ z, z = w6.heap.size := ⟨_, rfl⟩
      obtain ⟨w7, hw7⟩ : ∃ z, z = (w6.alloc (.cells (Lib.byteCells zeros).toArray 39)).alloc (.cells #[.int .i64 0, .int .i64 0, .int .i64 0] 50) := ⟨_, rfl⟩
      have hd7 : Arr w7 gd 39 (Lib.byteCells zeros) := by rw [hw7, hgd]; exact (Arr.new w6 _ _).alloc _
      have hv7 : Arr w7 (gd + 1) 50 [.int .i64 0, .int .i64 0, .int .i64 0] := by
        have := Arr.new (w6.alloc (.cells (Lib.byteCells zeros).toArray 39)) 50 [.int .i64 0, .int .i64 0, .int .i64 0]
        rw [hw7, hgd]
        simpa using this
      have hb67 : Below w6.heap.size w6 w7 := by rw [hw7]; exact ((Below.refl _ _).alloc (Nat.le_refl _) _).alloc (by simp) _
      obtain ⟨w8, hw8⟩ : ∃ z, z = w7.setRow gd DL.toArray := ⟨_, rfl⟩
      have hd8 : Arr w8 gd 39 DL := by rw [hw8]; exact hd7.setRow DL
      have hv8 : Arr w8 (gd + 1) 50 [.int .i64 0, .int .i64 0, .int .i64 0] := by rw [hw8]; exact hv7.rowOther (by omega) _
      have hb68 : Below w6.heap.size w6 w8 := by rw [hw8]; exact Below.setR hb67 (by omega) _
      obtain ⟨w9, hw9⟩ : ∃ z, z = w8.setRow (gd + 1) VL.toArray := ⟨_, rfl⟩
      have hd9 : Arr w9 gd 39 DL := by rw [hw9]; exact hd8.rowOther (by omega) _
      have hv9 : Arr w9 (gd + 1) 50 VL := by rw [hw9]; exact hv8.setRow VL
      have hb69 : Below w6.heap.size w6 w9 := by rw [hw9]; exact Below.setR hb68 (by omega) _
      have Hw7 := Lib.hid hw7
      have Hw8 := Lib.hid hw8
      have Hw9 := Lib.hid hw9
      have Hgd := Lib.hid hgd
      clear hw7 hw8 hw9 hb67 hb68 hgd
      go_upto_region 8 with (first
        | (change wpList _ _ _ _ _ ((w6.alloc (.cells (Lib.byteCells zeros).toArray 39)).alloc (.cells #[.int .i64 0, .int .i64 0, .int .i64 0] 50)); rw [← Hw7.out, ← Hgd.out]; refine wpList_store_row rfl _ _ _ rfl gd DL.toArray rfl rfl 39 (Lib.byteCells zeros).toArray hd7 HDi.out.1 HDi.out.2 HD1.out ?_; rw [← Hw8.out])
        | (refine wpList_store_row rfl _ _ _ rfl (gd + 1) VL.toArray rfl rfl 50 _ hv8 HVi.out.1 HVi.out.2 HV1.out ?_; rw [← Hw9.out]))
      have hla9 := hla6.up hb69
      have hQ9 := hQ6.up hb69
      have hP9 : PInL w.heap.size w9 p s6.1 s6.2 := hP6.kept fun i hi => hb69.block i (by have := hP6.lt; omega)
      have hbw9 : Below w.heap.size w w9 := hbw6.trans (hb69.mono hbw6.size)
      have hgd : w6.heap.size = gd := Hgd.out.symm
      have hgg : gl < gd := by have := hla6.lt; omega
      clear hla6 hQ6 hP6 hbw6 hb69 hd7 hv7 hd8 hv8 hgd
      obtain ⟨rs, hrs⟩ : ∃ z, risesI acc d = z := ⟨_, rfl⟩
      obtain ⟨LL, hLL⟩ : ∃ z, z = Lib.byteCells (lastI acc) := ⟨_, rfl⟩
      have HLL := Lib.hid hLL
      have Hrs := Lib.hid hrs
      rw [← hLL] at hla9
      clear hLL hrs
      by_cases hk0 : k = 0
      · have hd3 : decide ((k : Int) = 0) = true := by simp; omega
        have hd4 : ((k : Int) == 0) = true := by simp; omega
        have hrt : rs = true := by
          rw [← Hrs.out]
          have h1 := Hok.out.2
          rw [hk0] at h1
          rw [List.length_eq_zero_iff.1 h1]
          rfl
        subst hrt
        refine wp_region_held_drew (S := (fun w' => Arr w' gl 39 LL ∧ Arr w' gd 39 DL)) (by kernel_rfl) ⟨hla9, hd9⟩ (fun hHeld => ?_)
        refine anyH_take (i := 0) (v := .int .u64 (k : Nat)) (some 26) rfl rfl (by kernel_rfl) (by kernel_rfl) (by kernel_rfl) (fun _ _ _ h => h) (Or.inl ⟨by rfl, fun w' hw => by (go_simp)⟩) (by assumption) ?_
        simp only [Act.put, List.setIfInBounds_toArray, List.set_cons_zero, List.set_cons_succ]
        refine anyH_take (i := 1) (v := .bool true) (some 27) rfl rfl (by kernel_rfl) (by kernel_rfl) (by kernel_rfl) (fun _ _ _ h => h) (Or.inl ⟨by rfl, fun w' hw => by (go_simp)⟩) (by assumption) ?_
        simp only [Act.put, List.setIfInBounds_toArray, List.set_cons_zero, List.set_cons_succ]
        refine anyH_take (i := 2) (v := .bool true) (some 28) rfl rfl (by kernel_rfl) (by kernel_rfl) (by kernel_rfl) (fun _ _ _ h => h) (Or.inl ⟨by rfl, fun w' hw => by (go_simp)⟩) (by assumption) ?_
        simp only [Act.put, List.setIfInBounds_toArray, List.set_cons_zero, List.set_cons_succ]
        refine anyH_take (i := 3) (v := undef) (some 29) rfl rfl (by kernel_rfl) (by kernel_rfl) (by kernel_rfl) (fun _ _ _ h => h) (Or.inr ⟨by rfl, rfl⟩) (by assumption) ?_
        simp only [Act.put, List.setIfInBounds_toArray, List.set_cons_zero, List.set_cons_succ]
        refine anyH_take (i := 4) (v := undef) (some 30) rfl rfl (by kernel_rfl) (by kernel_rfl) (by kernel_rfl) (fun _ _ _ h => h) (Or.inr ⟨by rfl, rfl⟩) (by assumption) ?_
        simp only [Act.put, List.setIfInBounds_toArray, List.set_cons_zero, List.set_cons_succ]
        refine anyH_take (i := 5) (v := undef) (some 31) rfl rfl (by kernel_rfl) (by kernel_rfl) (by kernel_rfl) (fun _ _ _ h => h) (Or.inr ⟨by rfl, rfl⟩) (by assumption) ?_
        simp only [Act.put, List.setIfInBounds_toArray, List.set_cons_zero, List.set_cons_succ]
        refine anyH_take (i := 6) (v := undef) (some 32) rfl rfl (by kernel_rfl) (by kernel_rfl) (by kernel_rfl) (fun _ _ _ h => h) (Or.inr ⟨by rfl, rfl⟩) (by assumption) ?_
        simp only [Act.put, List.setIfInBounds_toArray, List.set_cons_zero, List.set_cons_succ]
        refine anyH_take (i := 7) (v := .bool true) (some 33) rfl rfl (by kernel_rfl) (by kernel_rfl) (by kernel_rfl) (fun _ _ _ h => h) (Or.inl ⟨by rfl, fun w' hw => by (go_simp)⟩) (by assumption) ?_
        simp only [Act.put, List.setIfInBounds_toArray, List.set_cons_zero, List.set_cons_succ]
        refine anyH_take (i := 8) (v := .bool true) (some 10) rfl rfl (by kernel_rfl) (by kernel_rfl) (by kernel_rfl) (fun _ _ _ h => h) (Or.inl ⟨by rfl, fun w' hw => by (go_simp)⟩) (by assumption) ?_
        simp only [Act.put, List.setIfInBounds_toArray, List.set_cons_zero, List.set_cons_succ]
        refine wpAnyH_done (by kernel_rfl) ?_ _
        obtain ⟨wx, hwx⟩ : ∃ z, z = w9.drew := ⟨_, rfl⟩
        have hbx : Below w9.heap.size w9 wx := by rw [hwx]; exact Below.dN (Below.refl _ w9) 1
        have hlax := hla9.up hbx
        have hdx := hd9.up hbx
        have hvx := hv9.up hbx
        have hQx := hQ9.up hbx
        have hPx : PInL w.heap.size wx p s6.1 s6.2 := hP9.kept fun i hi => hbx.block i (by have := hP9.lt; omega)
        have hbwx : Below w.heap.size w wx := hbw9.trans (hbx.mono hbw9.size)
        have hnox := nowKept hno hbwx h0
        rw [← hwx]
        clear hHeld hwx hbx hla9 hd9 hv9 hQ9 hP9 hbw9 hd3 hd4
        go_wp2_with fail
        refine Calls.mono (wrong_in p s6.1 s6.2 wx hPx) ?_
        rintro e wy ⟨rfl, hwy⟩
        subst hwy
        obtain ⟨wf, hwf⟩ : ∃ z, s6.2 = z := ⟨_, rfl⟩
        rw [hwf] at Hr ⊢
        have Hwf := Lib.hid hwf
        clear hwf
        cases wf with
        | true =>
          have Hno := Lib.hid (show decI b = none by rw [HR.out, ← Hr.out, if_pos (.inl rfl)]; rfl)
          clear hlax hdx hvx hQx hPx Hr hnox
          go_wp2_with fail
          go_ret2
          exact ⟨hbwx, .inl ⟨Hno.out, rfl⟩⟩
        | false =>
          have Hmv := Lib.hid (imay_any tb ts tu htb2 hts2 htu2 VL HVL.out _ hnox (Nat.lt_of_lt_of_le h0 hbwx.size))
          obtain ⟨mv, hmv⟩ : ∃ z, (decide (0 < tu) && (decide (0 < tb) || decide (ts = 0))) = z := ⟨_, rfl⟩
          rw [hmv] at Hmv
          have Hm := Lib.hid hmv
          have hvr := hvx.range
          clear hmv
          go_wp2_with (first | ((with_reducible refine wpList_atD 41 (by rfl) ?_); refine wpList_load_mid_if (by rfl) _ _ rfl (gd + 1) 0 rfl VL _ hvr Tryd.underlying50 rfl HVl.out ?_))
          refine Calls.mono Hmv.out ?_
          rintro e wz ⟨rfl, hbz⟩
          have hbwz : Below w.heap.size w wz := hbwx.trans (hbz.mono hbwx.size)
          cases mv with
          | false =>
            have Hno := Lib.hid (show decI b = none by
              rw [HR.out, ← Hr.out, if_pos (.inr (.inr (by intro hmm; unfold mayI at hmm; have := Hm.out; obtain ⟨m1, m2⟩ := hmm; simp [m1] at this; rcases m2 with m2 | m2 <;> simp_all)))]; rfl)
            clear hlax hdx hvx hQx hPx Hr hnox Hmv hbz hvr
            go_wp2_with fail
            go_ret2
            exact ⟨hbwz, .inl ⟨Hno.out, rfl⟩⟩
          | true =>
            have hlaz := hlax.up hbz
            have hdz := hdx.up hbz
            have hvz := hvx.up hbz
            have hQz := hQx.up hbz
            have hPz : PInL w.heap.size wz p s6.1 s6.2 := hPx.kept fun i hi => hbz.block i (by have := hPx.lt; omega)
            clear hlax hdx hvx hQx hPx hnox Hmv hbz hvr hbwx
            obtain ⟨x, hx⟩ : ∃ x, x = (⟨d, tb, ts, tu⟩ : Ix) := ⟨_, rfl⟩
            have hmx : mayI x := by
              rw [hx]
              have := Hm.out
              simp only [Bool.and_eq_true, Bool.or_eq_true, decide_eq_true_eq] at this
              exact this
            have hNx : finI (itemsS (N - (k + 1)) (acc ++ [x], s6)) = R := by
              rw [hx]
              rw [← Hr.out, if_neg (by rw [Hrs.out]; rw [hx] at hmx; simp [hmx])]
            have Hnx := Lib.hid hNx
            have Hall := Lib.hid (show ∀ y ∈ acc, ltD y.d x.d = true by rw [hx]; exact rises_all Hok.out.1.2 Hrs.out)
            have Hokx := Lib.hid (show OkI (acc ++ [x]) ∧ (acc ++ [x]).length = k + 1 from ⟨okI_snoc Hok.out.1 (by rw [hx]; exact ⟨Hdl.out, htb2, hts2, htu2⟩) hmx (by rw [hx]; exact Hrs.out), by rw [List.length_append, Hok.out.2]; rfl⟩)
            have Hlast := Lib.hid (show lastI (acc ++ [x]) = d by unfold lastI; simp [hx])
            have Hput := Lib.hid (show (ixD acc).put (.string d) (stDx (tb, ts, tu)) = ixD (acc ++ [x]) by have := ixD_snoc Hall.out; rw [hx] at this ⊢; exact this)
            have hroom : acc.length < maxLen := by rw [Hok.out.2]; unfold maxLen; omega
            have Hkey := Lib.hid (show keyOf Tryd.prog 39 (.agg DL.toArray) = some (.string d) by rw [HDL.out]; exact keyOf_dg Hdl.out)
            have Hrd := Lib.hid (show stR (.agg VL.toArray) = some (stDx (tb, ts, tu), []) by rw [HVL.out]; exact stR_mk (tb, ts, tu))
            have HDn := Lib.hid (show (Tryd.prog.info? 39).map (·.size) = some DL.length by have := HDi.out.1; rw [List.size_toArray] at this; exact this)
            have hsz := hQz.hs
            have hmz := hQz.hm
            clear Hr hNx hmx hx
            go_upto_region 11 with fail
            refine wp_region_held_drew (S := (fun w' => Arr w' (mb + 1) 55 [.map (some mb)] ∧ Arr w' gd 39 DL ∧ Arr w' (gd + 1) 50 VL)) (by kernel_rfl) ⟨hsz, hdz, hvz⟩ (fun hHeld => ?_)
            refine anyH_take (i := 0) (v := (.pointer (some ⟨mb + 1, 0, none⟩))) (some 45) rfl rfl (by kernel_rfl) (by kernel_rfl) (by kernel_rfl) (fun _ _ _ h => h) (Or.inl ⟨by rfl, fun w' hw => by (go_simp)⟩) (by assumption) ?_
            simp only [Act.put, List.setIfInBounds_toArray, List.set_cons_zero, List.set_cons_succ]
            refine anyH_take (i := 1) (v := (.pointer (some ⟨mb + 1, 0, none⟩))) (some 46) rfl rfl (by kernel_rfl) (by kernel_rfl) (by kernel_rfl) (fun _ _ _ h => h) (Or.inl ⟨by rfl, fun w' hw => by (go_simp)⟩) (by assumption) ?_
            simp only [Act.put, List.setIfInBounds_toArray, List.set_cons_zero, List.set_cons_succ]
            refine anyH_take (i := 2) (v := (.pointer (some ⟨mb + 1, 0, none⟩))) (some 47) rfl rfl (by kernel_rfl) (by kernel_rfl) (by kernel_rfl) (fun _ _ _ h => h) (Or.inl ⟨by rfl, fun w' hw => by (go_simp)⟩) (by assumption) ?_
            simp only [Act.put, List.setIfInBounds_toArray, List.set_cons_zero, List.set_cons_succ]
            refine anyH_take (i := 3) (v := (.map (some mb))) (some 48) rfl rfl (by kernel_rfl) (by kernel_rfl) (by kernel_rfl) (fun _ _ _ h => h) (Or.inl ⟨by rfl, fun w' hw => by (have hcc := hw.1.cell 0; simp only [List.getElem?_cons_zero] at hcc; go_simp)⟩) (by assumption) ?_
            simp only [Act.put, List.setIfInBounds_toArray, List.set_cons_zero, List.set_cons_succ]
            refine anyH_take (i := 4) (some 49) rfl rfl (by kernel_rfl) (by kernel_rfl) (by kernel_rfl) (fun _ _ _ h => h) (yieldsIf_load_mid (by rfl) 39 (.tmp 8) rfl gd 0 rfl DL _ (fun w' h => (h.2.1).range) Tryd.underlying39 rfl HDn.out) (by assumption) ?_
            simp only [Act.put, List.setIfInBounds_toArray, List.set_cons_zero, List.set_cons_succ]
            refine anyH_take (i := 5) (some 50) rfl rfl (by kernel_rfl) (by kernel_rfl) (by kernel_rfl) (fun _ _ _ h => h) (yieldsIf_load_mid (by rfl) 50 (.tmp 9) rfl (gd + 1) 0 rfl VL _ (fun w' h => (h.2.2).range) Tryd.underlying50 rfl HVl.out) (by assumption) ?_
            simp only [Act.put, List.setIfInBounds_toArray, List.set_cons_zero, List.set_cons_succ]
            refine wpAnyH_ready (rs := [6]) (by kernel_rfl) (by simp) ?_
            refine AllReadyH.cons rfl (fun K hK => ?_) AllReadyH.nil
            try rw [if_pos (by rfl)]
            refine wp_mapUpdate_to rfl _ _ _ 53 rfl 39 50 dgKeyed Tryd.underlying53 stR mb acc.length (ixD acc) rfl (World.ownsMap.at_ hmz (by rfl)) hroom _ _ _ rfl rfl Hkey.out _ [] Hrd.out ?_
            intro wm hown hg8
            rw [Hput.out] at hown
            have hS8 : Arr wm (mb + 1) 55 [.map (some mb)] ∧ Arr wm gd 39 DL ∧ Arr wm (gd + 1) 50 VL := ⟨(hg8.block _ hsz.lt (fun e => by injection e; omega)).trans hsz, (hg8.block _ hdz.lt (fun e => by injection e; omega)).trans hdz, (hg8.block _ hvz.lt (fun e => by injection e; omega)).trans hvz⟩
            have hlm : Arr wm gl 39 LL := (hg8.block _ hlaz.lt (fun e => by injection e; omega)).trans hlaz
            refine hK.out _ _ hS8 (fun hHeldq => ?_)
            clear hK K hHeldq
            try simp only [Act.put, List.setIfInBounds_toArray, List.set_cons_zero, List.set_cons_succ]
            refine wpAnyH_done (by kernel_rfl) ?_ _
            have hown8 := World.ownsMap.tight hown
            rw [ixD_size] at hown8
            have hQm : IxQ wm (mb + 1) mb (acc ++ [x]) := ⟨hS8.1, hown8, by omega⟩
            have hPm : PInL w.heap.size wm p s6.1 s6.2 := hPz.kept fun i hi => hg8.block i (show i < wz.heap.size by have := hPz.lt; omega) (fun e => by injection e; omega)
            have hbwm : Below w.heap.size w wm := ⟨hg8.os.trans hbwz.os, hg8.tape.trans hbwz.tape, hg8.output.trans hbwz.output, Nat.le_trans hbwz.size hg8.size, fun i hi => (hg8.block i (Nat.lt_of_lt_of_le hi hbwz.size) (fun e => by injection e; omega)).trans (hbwz.block i hi)⟩
            have hdm := hS8.2.1
            obtain ⟨wn, hwn⟩ : ∃ z, z = wm.setRow gl DL.toArray := ⟨_, rfl⟩
            have hln : Arr wn gl 39 DL := by rw [hwn]; exact hlm.setRow DL
            have hwr : Wrote1 gl wm wn := by rw [hwn]; exact Wrote1.row _ _ _
            have hQn : IxQ wn (mb + 1) mb (acc ++ [x]) := hQm.kept (hwr.2 _ (by omega)) (hwr.2 _ (by omega))
            have hPn : PInL w.heap.size wn p s6.1 s6.2 := hPm.kept fun i hi => hwr.2 i (by omega)
            have hwgl : w.heap.size ≤ gl := by omega
            have hbwn : Below w.heap.size w wn := by rw [hwn]; exact Below.setR hbwm hwgl _
            have Hwn := Lib.hid hwn
            have HLs := Lib.hid (show LL.toArray.size = DL.toArray.size by rw [HLL.out, HDL.out, List.size_toArray, List.size_toArray, Lib.byteCells_length, Lib.byteCells_length, lastI_len Hok.out.1, Hdl.out])
            clear hown hg8 hS8 hown8 hQm hPm hbwm hwn hwr hHeld hlaz hdz hvz hQz hPz hsz hmz hbwz
            go_wp2_with (first
              | (refine wpList_load_row rfl _ _ rfl gd rfl 39 DL.toArray (0, 0) _ hdm Tryd.underlying39 rfl HDi.out.1 ?_)
              | (refine wpList_store_row rfl _ _ _ rfl gl DL.toArray rfl rfl 39 LL.toArray hlm HDi.out.1 HLs.out HD1.out ?_; rw [← Hwn.out]))
            go_roundw
            case rel => exact ⟨k + 1, acc ++ [x], s6, by omega, by go_num, by rw [Hlast.out, ← HDL.out]; exact hln, hQn, hPn, Hnx, Hokx, hbwn⟩
            case measure => simp [Go.RowKit.intOf]; omega
      · have hd3 : decide ((k : Int) = 0) = false := by simp; omega
        have hd4 : ((k : Int) == 0) = false := by simp; omega
        have hrl : decide (Lib.compareBytes (lastI acc) d < 0) = rs := by
          rw [cmp_lt _ _ (by rw [lastI_len Hok.out.1, Hdl.out]), ← Hrs.out]
          unfold lastI risesI
          cases hg : acc.getLast? with
          | none => have h1 := List.getLast?_eq_none_iff.1 hg; have h2 := Hok.out.2; rw [h1] at h2; exact absurd h2.symm hk0
          | some x => rfl
        obtain ⟨cq, hcq⟩ : ∃ z, Lib.compareBytes (lastI acc) d = z := ⟨_, rfl⟩
        rw [hcq] at hrl
        have Hcq := Lib.hid hcq
        clear hcq
        refine wp_region_held_drew (S := (fun w' => Arr w' gl 39 LL ∧ Arr w' gd 39 DL)) (by kernel_rfl) ⟨hla9, hd9⟩ (fun hHeld => ?_)
        refine anyH_take (i := 0) (v := .int .u64 (k : Nat)) (some 26) rfl rfl (by kernel_rfl) (by kernel_rfl) (by kernel_rfl) (fun _ _ _ h => h) (Or.inl ⟨by rfl, fun w' hw => by (go_simp)⟩) (by assumption) ?_
        simp only [Act.put, List.setIfInBounds_toArray, List.set_cons_zero, List.set_cons_succ]
        refine anyH_take (i := 1) (v := .bool false) (some 27) rfl rfl (by kernel_rfl) (by kernel_rfl) (by kernel_rfl) (fun _ _ _ h => h) (Or.inl ⟨by rfl, fun w' hw => by (go_simp)⟩) (by assumption) ?_
        simp only [Act.put, List.setIfInBounds_toArray, List.set_cons_zero, List.set_cons_succ]
        refine anyH_take (i := 2) (v := .bool false) (some 28) rfl rfl (by kernel_rfl) (by kernel_rfl) (by kernel_rfl) (fun _ _ _ h => h) (Or.inl ⟨by rfl, fun w' hw => by (go_simp)⟩) (by assumption) ?_
        simp only [Act.put, List.setIfInBounds_toArray, List.set_cons_zero, List.set_cons_succ]
        refine anyH_take (i := 3) (v := .slice (some ⟨gl, 0, none⟩) 32 32) (some 29) rfl rfl (by kernel_rfl) (by kernel_rfl) (by kernel_rfl) (fun _ _ _ h => h) (Or.inl ⟨by rfl, fun w' hw => by (go_simp)⟩) (by assumption) ?_
        simp only [Act.put, List.setIfInBounds_toArray, List.set_cons_zero, List.set_cons_succ]
        refine anyH_take (i := 4) (v := .slice (some ⟨gd, 0, none⟩) 32 32) (some 30) rfl rfl (by kernel_rfl) (by kernel_rfl) (by kernel_rfl) (fun _ _ _ h => h) (Or.inl ⟨by rfl, fun w' hw => by (go_simp)⟩) (by assumption) ?_
        simp only [Act.put, List.setIfInBounds_toArray, List.set_cons_zero, List.set_cons_succ]
        refine wpAnyH_ready (rs := [5]) (by kernel_rfl) (by simp) ?_
        refine AllReadyH.cons rfl (fun K hK => ?_) AllReadyH.nil
        go_simp
        go_at_call 18
        refine Calls.mono (cmp_any gl 0 gd 0 32 32 (lastI acc) d (lastI_len Hok.out.1) Hdl.out _ (by rw [← HLL.out]; exact hHeld.1.range) (by rw [← HDL.out]; exact hHeld.2.range)) ?_
        rintro e wq ⟨rfl, rfl⟩
        rw [Hcq.out]
        refine hK.out _ _ hHeld (fun hHeldx => ?_)
        clear hK K
        try simp only [Act.put, List.setIfInBounds_toArray, List.set_cons_zero, List.set_cons_succ]
        refine anyH_take (i := 6) (v := .bool rs) (some 32) rfl rfl (by kernel_rfl) (by kernel_rfl) (by kernel_rfl) (fun _ _ _ h => h) (Or.inl ⟨by rfl, fun w' hw => by (go_simp)⟩) (by assumption) ?_
        simp only [Act.put, List.setIfInBounds_toArray, List.set_cons_zero, List.set_cons_succ]
        refine anyH_take (i := 7) (v := .bool rs) (some 33) rfl rfl (by kernel_rfl) (by kernel_rfl) (by kernel_rfl) (fun _ _ _ h => h) (Or.inl ⟨by rfl, fun w' hw => by (go_simp)⟩) (by assumption) ?_
        simp only [Act.put, List.setIfInBounds_toArray, List.set_cons_zero, List.set_cons_succ]
        refine anyH_take (i := 8) (v := .bool rs) (some 10) rfl rfl (by kernel_rfl) (by kernel_rfl) (by kernel_rfl) (fun _ _ _ h => h) (Or.inl ⟨by rfl, fun w' hw => by (go_simp)⟩) (by assumption) ?_
        simp only [Act.put, List.setIfInBounds_toArray, List.set_cons_zero, List.set_cons_succ]
        refine wpAnyH_done (by kernel_rfl) ?_ _
        obtain ⟨wx, hwx⟩ : ∃ z, z = w9.drew := ⟨_, rfl⟩
        have hbx : Below w9.heap.size w9 wx := by rw [hwx]; exact Below.dN (Below.refl _ w9) 1
        have hlax := hla9.up hbx
        have hdx := hd9.up hbx
        have hvx := hv9.up hbx
        have hQx := hQ9.up hbx
        have hPx : PInL w.heap.size wx p s6.1 s6.2 := hP9.kept fun i hi => hbx.block i (by have := hP9.lt; omega)
        have hbwx : Below w.heap.size w wx := hbw9.trans (hbx.mono hbw9.size)
        have hnox := nowKept hno hbwx h0
        rw [← hwx]
        clear hHeld hwx hbx hla9 hd9 hv9 hQ9 hP9 hbw9 hd3 hd4 hHeldx hrl
        go_wp2_with fail
        refine Calls.mono (wrong_in p s6.1 s6.2 wx hPx) ?_
        rintro e wy ⟨rfl, hwy⟩
        subst hwy
        obtain ⟨wf, hwf⟩ : ∃ z, s6.2 = z := ⟨_, rfl⟩
        rw [hwf] at Hr ⊢
        have Hwf := Lib.hid hwf
        clear hwf
        cases wf with
        | true =>
          have Hno := Lib.hid (show decI b = none by rw [HR.out, ← Hr.out, if_pos (.inl rfl)]; rfl)
          clear hlax hdx hvx hQx hPx Hr hnox
          go_wp2_with fail
          go_ret2
          exact ⟨hbwx, .inl ⟨Hno.out, rfl⟩⟩
        | false =>
          cases rs with
          | false =>
            have Hno := Lib.hid (show decI b = none by rw [HR.out, ← Hr.out, if_pos (.inr (.inl Hrs.out))]; rfl)
            clear hlax hdx hvx hQx hPx Hr hnox
            go_wp2_with fail
            go_ret2
            exact ⟨hbwx, .inl ⟨Hno.out, rfl⟩⟩
          | true =>
            have Hmv := Lib.hid (imay_any tb ts tu htb2 hts2 htu2 VL HVL.out _ hnox (Nat.lt_of_lt_of_le h0 hbwx.size))
            obtain ⟨mv, hmv⟩ : ∃ z, (decide (0 < tu) && (decide (0 < tb) || decide (ts = 0))) = z := ⟨_, rfl⟩
            rw [hmv] at Hmv
            have Hm := Lib.hid hmv
            have hvr := hvx.range
            clear hmv
            go_wp2_with (first | ((with_reducible refine wpList_atD 41 (by rfl) ?_); refine wpList_load_mid_if (by rfl) _ _ rfl (gd + 1) 0 rfl VL _ hvr Tryd.underlying50 rfl HVl.out ?_))
            refine Calls.mono Hmv.out ?_
            rintro e wz ⟨rfl, hbz⟩
            have hbwz : Below w.heap.size w wz := hbwx.trans (hbz.mono hbwx.size)
            cases mv with
            | false =>
              have Hno := Lib.hid (show decI b = none by
                rw [HR.out, ← Hr.out, if_pos (.inr (.inr (by intro hmm; unfold mayI at hmm; have := Hm.out; obtain ⟨m1, m2⟩ := hmm; simp [m1] at this; rcases m2 with m2 | m2 <;> simp_all)))]; rfl)
              clear hlax hdx hvx hQx hPx Hr hnox Hmv hbz hvr
              go_wp2_with fail
              go_ret2
              exact ⟨hbwz, .inl ⟨Hno.out, rfl⟩⟩
            | true =>
              have hlaz := hlax.up hbz
              have hdz := hdx.up hbz
              have hvz := hvx.up hbz
              have hQz := hQx.up hbz
              have hPz : PInL w.heap.size wz p s6.1 s6.2 := hPx.kept fun i hi => hbz.block i (by have := hPx.lt; omega)
              clear hlax hdx hvx hQx hPx hnox Hmv hbz hvr hbwx
              obtain ⟨x, hx⟩ : ∃ x, x = (⟨d, tb, ts, tu⟩ : Ix) := ⟨_, rfl⟩
              have hmx : mayI x := by
                rw [hx]
                have := Hm.out
                simp only [Bool.and_eq_true, Bool.or_eq_true, decide_eq_true_eq] at this
                exact this
              have hNx : finI (itemsS (N - (k + 1)) (acc ++ [x], s6)) = R := by
                rw [hx]
                rw [← Hr.out, if_neg (by rw [Hrs.out]; rw [hx] at hmx; simp [hmx])]
              have Hnx := Lib.hid hNx
              have Hall := Lib.hid (show ∀ y ∈ acc, ltD y.d x.d = true by rw [hx]; exact rises_all Hok.out.1.2 Hrs.out)
              have Hokx := Lib.hid (show OkI (acc ++ [x]) ∧ (acc ++ [x]).length = k + 1 from ⟨okI_snoc Hok.out.1 (by rw [hx]; exact ⟨Hdl.out, htb2, hts2, htu2⟩) hmx (by rw [hx]; exact Hrs.out), by rw [List.length_append, Hok.out.2]; rfl⟩)
              have Hlast := Lib.hid (show lastI (acc ++ [x]) = d by unfold lastI; simp [hx])
              have Hput := Lib.hid (show (ixD acc).put (.string d) (stDx (tb, ts, tu)) = ixD (acc ++ [x]) by have := ixD_snoc Hall.out; rw [hx] at this ⊢; exact this)
              have hroom : acc.length < maxLen := by rw [Hok.out.2]; unfold maxLen; omega
              have Hkey := Lib.hid (show keyOf Tryd.prog 39 (.agg DL.toArray) = some (.string d) by rw [HDL.out]; exact keyOf_dg Hdl.out)
              have Hrd := Lib.hid (show stR (.agg VL.toArray) = some (stDx (tb, ts, tu), []) by rw [HVL.out]; exact stR_mk (tb, ts, tu))
              have HDn := Lib.hid (show (Tryd.prog.info? 39).map (·.size) = some DL.length by have := HDi.out.1; rw [List.size_toArray] at this; exact this)
              have hsz := hQz.hs
              have hmz := hQz.hm
              clear Hr hNx hmx hx
              go_upto_region 11 with fail
              refine wp_region_held_drew (S := (fun w' => Arr w' (mb + 1) 55 [.map (some mb)] ∧ Arr w' gd 39 DL ∧ Arr w' (gd + 1) 50 VL)) (by kernel_rfl) ⟨hsz, hdz, hvz⟩ (fun hHeld => ?_)
              refine anyH_take (i := 0) (v := (.pointer (some ⟨mb + 1, 0, none⟩))) (some 45) rfl rfl (by kernel_rfl) (by kernel_rfl) (by kernel_rfl) (fun _ _ _ h => h) (Or.inl ⟨by rfl, fun w' hw => by (go_simp)⟩) (by assumption) ?_
              simp only [Act.put, List.setIfInBounds_toArray, List.set_cons_zero, List.set_cons_succ]
              refine anyH_take (i := 1) (v := (.pointer (some ⟨mb + 1, 0, none⟩))) (some 46) rfl rfl (by kernel_rfl) (by kernel_rfl) (by kernel_rfl) (fun _ _ _ h => h) (Or.inl ⟨by rfl, fun w' hw => by (go_simp)⟩) (by assumption) ?_
              simp only [Act.put, List.setIfInBounds_toArray, List.set_cons_zero, List.set_cons_succ]
              refine anyH_take (i := 2) (v := (.pointer (some ⟨mb + 1, 0, none⟩))) (some 47) rfl rfl (by kernel_rfl) (by kernel_rfl) (by kernel_rfl) (fun _ _ _ h => h) (Or.inl ⟨by rfl, fun w' hw => by (go_simp)⟩) (by assumption) ?_
              simp only [Act.put, List.setIfInBounds_toArray, List.set_cons_zero, List.set_cons_succ]
              refine anyH_take (i := 3) (v := (.map (some mb))) (some 48) rfl rfl (by kernel_rfl) (by kernel_rfl) (by kernel_rfl) (fun _ _ _ h => h) (Or.inl ⟨by rfl, fun w' hw => by (have hcc := hw.1.cell 0; simp only [List.getElem?_cons_zero] at hcc; go_simp)⟩) (by assumption) ?_
              simp only [Act.put, List.setIfInBounds_toArray, List.set_cons_zero, List.set_cons_succ]
              refine anyH_take (i := 4) (some 49) rfl rfl (by kernel_rfl) (by kernel_rfl) (by kernel_rfl) (fun _ _ _ h => h) (yieldsIf_load_mid (by rfl) 39 (.tmp 8) rfl gd 0 rfl DL _ (fun w' h => (h.2.1).range) Tryd.underlying39 rfl HDn.out) (by assumption) ?_
              simp only [Act.put, List.setIfInBounds_toArray, List.set_cons_zero, List.set_cons_succ]
              refine anyH_take (i := 5) (some 50) rfl rfl (by kernel_rfl) (by kernel_rfl) (by kernel_rfl) (fun _ _ _ h => h) (yieldsIf_load_mid (by rfl) 50 (.tmp 9) rfl (gd + 1) 0 rfl VL _ (fun w' h => (h.2.2).range) Tryd.underlying50 rfl HVl.out) (by assumption) ?_
              simp only [Act.put, List.setIfInBounds_toArray, List.set_cons_zero, List.set_cons_succ]
              refine wpAnyH_ready (rs := [6]) (by kernel_rfl) (by simp) ?_
              refine AllReadyH.cons rfl (fun K hK => ?_) AllReadyH.nil
              try rw [if_pos (by rfl)]
              refine wp_mapUpdate_to rfl _ _ _ 53 rfl 39 50 dgKeyed Tryd.underlying53 stR mb acc.length (ixD acc) rfl (World.ownsMap.at_ hmz (by rfl)) hroom _ _ _ rfl rfl Hkey.out _ [] Hrd.out ?_
              intro wm hown hg8
              rw [Hput.out] at hown
              have hS8 : Arr wm (mb + 1) 55 [.map (some mb)] ∧ Arr wm gd 39 DL ∧ Arr wm (gd + 1) 50 VL := ⟨(hg8.block _ hsz.lt (fun e => by injection e; omega)).trans hsz, (hg8.block _ hdz.lt (fun e => by injection e; omega)).trans hdz, (hg8.block _ hvz.lt (fun e => by injection e; omega)).trans hvz⟩
              have hlm : Arr wm gl 39 LL := (hg8.block _ hlaz.lt (fun e => by injection e; omega)).trans hlaz
              refine hK.out _ _ hS8 (fun hHeldq => ?_)
              clear hK K hHeldq
              try simp only [Act.put, List.setIfInBounds_toArray, List.set_cons_zero, List.set_cons_succ]
              refine wpAnyH_done (by kernel_rfl) ?_ _
              have hown8 := World.ownsMap.tight hown
              rw [ixD_size] at hown8
              have hQm : IxQ wm (mb + 1) mb (acc ++ [x]) := ⟨hS8.1, hown8, by omega⟩
              have hPm : PInL w.heap.size wm p s6.1 s6.2 := hPz.kept fun i hi => hg8.block i (show i < wz.heap.size by have := hPz.lt; omega) (fun e => by injection e; omega)
              have hbwm : Below w.heap.size w wm := ⟨hg8.os.trans hbwz.os, hg8.tape.trans hbwz.tape, hg8.output.trans hbwz.output, Nat.le_trans hbwz.size hg8.size, fun i hi => (hg8.block i (Nat.lt_of_lt_of_le hi hbwz.size) (fun e => by injection e; omega)).trans (hbwz.block i hi)⟩
              have hdm := hS8.2.1
              obtain ⟨wn, hwn⟩ : ∃ z, z = wm.setRow gl DL.toArray := ⟨_, rfl⟩
              have hln : Arr wn gl 39 DL := by rw [hwn]; exact hlm.setRow DL
              have hwr : Wrote1 gl wm wn := by rw [hwn]; exact Wrote1.row _ _ _
              have hQn : IxQ wn (mb + 1) mb (acc ++ [x]) := hQm.kept (hwr.2 _ (by omega)) (hwr.2 _ (by omega))
              have hPn : PInL w.heap.size wn p s6.1 s6.2 := hPm.kept fun i hi => hwr.2 i (by omega)
              have hwgl : w.heap.size ≤ gl := by omega
              have hbwn : Below w.heap.size w wn := by rw [hwn]; exact Below.setR hbwm hwgl _
              have Hwn := Lib.hid hwn
              have HLs := Lib.hid (show LL.toArray.size = DL.toArray.size by rw [HLL.out, HDL.out, List.size_toArray, List.size_toArray, Lib.byteCells_length, Lib.byteCells_length, lastI_len Hok.out.1, Hdl.out])
              clear hown hg8 hS8 hown8 hQm hPm hbwm hwn hwr hHeld hlaz hdz hvz hQz hPz hsz hmz hbwz
              go_wp2_with (first
                | (refine wpList_load_row rfl _ _ rfl gd rfl 39 DL.toArray (0, 0) _ hdm Tryd.underlying39 rfl HDi.out.1 ?_)
                | (refine wpList_store_row rfl _ _ _ rfl gl DL.toArray rfl rfl 39 LL.toArray hlm HDi.out.1 HLs.out HD1.out ?_; rw [← Hwn.out]))
              go_roundw
              case rel => exact ⟨k + 1, acc ++ [x], s6, by omega, by go_num, by rw [Hlast.out, ← HDL.out]; exact hln, hQn, hPn, Hnx, Hokx, hbwn⟩
              case measure => simp [Go.RowKit.intOf]; omega
    · obtain rfl : k = N := by omega
      have hd1 : decide ((k : Int) < (k : Int)) = false := by simp
      have hd2 : decide (k < k) = false := by simp
      have Hfin := Lib.hid (show finI (some (acc, s4)) = R by have h := Hrun.out; rw [Nat.sub_self] at h; exact h)
      go_wp2_with fail
      refine Calls.mono (done_in p s4.1 s4.2 wr hP) ?_
      rintro e w7 ⟨rfl, hwx⟩
      subst hwx
      by_cases hdn : s4.2 = true ∨ 0 < s4.1.length
      · have Hno := Lib.hid (show R = none by rw [← Hfin.out]; unfold finI; exact if_pos (hdn.imp id fun h e => by rw [e] at h; exact absurd h (by simp)))
        have hdf : doneF s4.1 s4.2 = 3 := if_pos hdn
        rw [hdf]
        clear hdn hdf
        go_wp2_with fail
        go_ret2
        exact ⟨hbw, .inl ⟨by rw [HR.out]; exact Hno.out, rfl⟩⟩
      · have Hyes := Lib.hid (show R = some acc by
          rw [← Hfin.out]; unfold finI; exact if_neg (fun h => hdn (h.imp id fun h => List.length_pos_iff.2 h)))
        have hdf : doneF s4.1 s4.2 = 0 := if_neg hdn
        rw [hdf]
        clear hdn hdf
        go_wp2_with fail
        go_ret2
        exact ⟨hbw, .inr ⟨mb + 1, mb, acc, by rw [HR.out]; exact Hyes.out, rfl, hQ, hwm, by omega⟩⟩

end Go.Proofs.YtfelacpaaialfaaDoor

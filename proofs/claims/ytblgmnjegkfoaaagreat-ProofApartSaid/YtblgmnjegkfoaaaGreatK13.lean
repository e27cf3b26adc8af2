/-
  R8Put TrieSort TrieWay TrieTree R8Part R8Rest R8Shared: texts on the way to the laws, as one.
-/
import Derived.Test.YtblgmnjegkfoaaaGreatK12
import Derived.Deep.DeepCutAuto
import Derived.Deep.CutBlock
import Derived.Deep.RegionHeld3
import Derived.IntWalk
import Derived.Test.YtblgmnjegkfoaaaGreatK05
import Derived.Test.YtblgmnjegkfoaaaGreatK08
set_option maxRecDepth 100000
namespace Go.Proofs.YtblgmnjegkfoaaaGreat
open Go.RowKit
set_option linter.unusedVariables false
set_option linter.unusedSimpArgs false

/-- One step of Put: the items so far, and whether the new one is among them. -/
def putS (key : List UInt8) (y : Itm) (s : List Itm × Bool) (x : Itm) : List Itm × Bool :=
  (s.1 ++ (if s.2 = false ∧ lessF x.key key = false then [y] else []) ++ (if x.key = key then [] else [x]), s.2 || !lessF x.key key)
def putL (key : List UInt8) (y : Itm) (xs : List Itm) : List Itm × Bool := xs.foldl (putS key y) ([], false)
/-- The items with one more, or another value. -/
def putI (key : List UInt8) (y : Itm) (xs : List Itm) : List Itm := if (putL key y xs).2 then (putL key y xs).1 else (putL key y xs).1 ++ [y]
theorem wpList_builtP8 {P : Program} {ops : Array Oper} {rest : List Oper} {o : Oper} {a : Act} {w : World} {Q : Exit → Act → World → Prop} (hg : o.guard = none) (t : TypeId) (parts : Array (Nat × Operand)) (ho : o.op = .build t parts)
    (ps : List (Nat × Value)) (hp : parts.toList.map (fun x => (x.1, a.eval x.2)) = ps) (cells : Array Value) (hf : P.built t ps = some cells)
    (h : wpList P ops Q rest (a.put o.dst (.agg cells)) w) : wpList P ops Q (o :: rest) a w :=
  wpList_buildTo hg t parts ho _ rfl cells (by rw [← hf, ← hp]; simp) h
theorem putL_take {xs : List Itm} {i : Nat} {x : Itm} (h : xs[i]? = some x) (key : List UInt8) (y : Itm) : putL key y (xs.take (i + 1)) = putS key y (putL key y (xs.take i)) x := by
  obtain ⟨hi, he⟩ := List.getElem?_eq_some_iff.1 h
  unfold putL
  rw [List.take_succ_eq_append_getElem hi, List.foldl_append, he]
  rfl
theorem putL_len (key : List UInt8) (y : Itm) : ∀ (xs : List Itm) (s : List Itm × Bool), (xs.foldl (putS key y) s).1.length ≤ s.1.length + 2 * xs.length
  | [], s => Nat.le_refl _
  | x :: xs, s => by
    have h := putL_len key y xs (putS key y s x)
    have h1 : (putS key y s x).1.length ≤ s.1.length + 2 := by
      unfold putS
      simp only [List.length_append]
      split <;> split <;> simp
    rw [List.foldl_cons, List.length_cons]
    omega

set_option maxHeartbeats 16000000 in
set_option maxRecDepth 100000 in
theorem put_runI (key : List UInt8) (hk : key.length = 32) (KL : List Value) (hKL : KL = Lib.byteCells key) (xs : List Itm) (A Av : Option Addr) (n c nv cv : Nat) (val : List UInt8) (hnv : val.length = nv) (w : World) (hn : xs.length = n) (hc : n ≤ c) (hm : n ≤ 100000) (hIt : ItsAt w A xs) (y : Itm) (hy : y = ⟨key, val, Av, cv⟩) :
    Calls Tryz.prog 25 #[.slice A n c, .agg KL.toArray, .slice Av nv cv] w fun e w' => ∃ v, e = .returned v ∧ IRow w' w.heap.size v (putI key y xs) ∧ Below w.heap.size w w' := by
  obtain ⟨W1, hW1⟩ : ∃ W1, W1 = w.alloc (.cells KL.toArray 24) := ⟨_, rfl⟩
  have hK1 : Arr W1 w.heap.size 24 KL := by rw [hW1]; exact Arr.new w _ _
  have hb1 : Below w.heap.size w W1 := by rw [hW1]; exact (Below.refl _ w).alloc (Nat.le_refl _) _
  have HW1 := Lib.hid hW1
  have HKi := Lib.hid (show (Tryz.prog.info? 24).map (·.size) = some KL.length by rw [hKL, Lib.byteCells_length, hk]; kernel_rfl)
  have HIt := Lib.hid hIt
  obtain ⟨W2, hW2⟩ : ∃ W2, W2 = W1.alloc (.cells #[] 40) := ⟨_, rfl⟩
  obtain ⟨g2, hg2⟩ : ∃ g2, g2 = W1.heap.size := ⟨_, rfl⟩
  have hO2 : IRow W2 w.heap.size (.slice (some ⟨g2, 0, none⟩) 0 0) (putL key y (xs.take 0)).1 := by rw [hW2, hg2]; exact IRow.empty W1 _ hb1.size
  have hK2 : Arr W2 w.heap.size 24 KL := by rw [hW2]; exact hK1.alloc _
  have hb12 : Below W1.heap.size W1 W2 := by rw [hW2]; exact (Below.refl _ W1).alloc (Nat.le_refl _) _
  have hb2 := hb1.trans (hb12.mono hb1.size)
  obtain ⟨TL, hTL⟩ : ∃ TL, TL = KL ++ [Value.slice Av nv cv] := ⟨_, rfl⟩
  have hTy : TL = itC y := by rw [hTL, hy, hKL, ← hnv]; rfl
  have hyk : y.key.length = 32 := by rw [hy]; exact hk
  have hTl : TL.length = 33 := by rw [hTy, itC_length hyk]
  have HTb := Lib.hid (show Tryz.prog.built 40 [(0, .agg KL.toArray), (1, .slice Av nv cv)] = some TL.toArray by rw [hTL]; exact it_built key hk KL hKL Av nv cv)
  have HTy := Lib.hid hTy
  have Hyk := Lib.hid hyk
  have HTl := Lib.hid hTl
  have HW2 := Lib.hid hW2
  have Hg2 := Lib.hid hg2
  have Hn := Lib.hid hn
  have HKL := Lib.hid hKL
  clear hW1 hW2 hg2 hKL hn hIt hK1 hb1 hb12 hTL hTy hTl hyk hy hnv
  go_enter Tryz.func25, Tryz.ntmps25
  go_upto_region 1 with fail
  change Code.wp _ _ _ _ (w.alloc (.cells KL.toArray 24))
  rw [← HW1.out]
  clear HW1
  go_upto_region 2 with fail
  rw [← Hg2.out]
  change Code.wp _ _ _ _ (W1.alloc (.cells #[] 40))
  rw [← HW2.out]
  clear HW2 Hg2
  go_upto_region 4 with fail
  go_loopw [7, 8, 9] (fun v q s wr => ∃ i : Nat, i ≤ n ∧ s = .int .i64 i ∧ q = .bool (putL key y (xs.take i)).2 ∧ Arr wr w.heap.size 24 KL ∧ Below w.heap.size w wr ∧ IRow wr w.heap.size v (putL key y (xs.take i)).1) (fun _ _ s _ => n - (intOf s).toNat)
  case atStart => exact ⟨0, by omega, rfl, rfl, hK2, hb2, hO2⟩
  case round =>
    clear hK2 hb2 hO2
    obtain ⟨i, hin, rfl, rfl, hKr, hbr, hO⟩ := hrel
    obtain ⟨so, hso⟩ : ∃ s, putL key y (xs.take i) = s := ⟨_, rfl⟩
    rw [hso] at hO ⊢
    obtain ⟨so, dn⟩ := so
    have hslen : so.length ≤ 200000 := by
      have h := putL_len key y (xs.take i) ([], false)
      rw [show (xs.take i).foldl (putS key y) ([], false) = (so, dn) from hso, List.length_take] at h
      simp only [List.length_nil] at h
      omega
    have Hso := Lib.hid hso
    have Hslen := Lib.hid hslen
    simp only at hO ⊢
    clear hso hslen
    by_cases hlt : i < n
    · have hd1 : decide (i < n) = true := by simpa using hlt
      obtain ⟨x, hx⟩ : ∃ x, xs[i]? = some x := ⟨xs[i]'(by rw [Hn.out]; exact hlt), List.getElem?_eq_getElem _⟩
      obtain ⟨b, off, hAe, hbl, hrow⟩ := HIt.out (by rw [Hn.out]; omega)
      obtain ⟨hxk, hrg⟩ := hrow i x hx
      have Hrow := Lib.hid hrow
      have HAe := Lib.hid hAe
      obtain ⟨YL, hYL⟩ : ∃ YL, YL = Lib.byteCells x.key := ⟨_, rfl⟩
      have hrk := ItsAt.key hrg YL hYL
      have HYi := Lib.hid (show (Tryz.prog.info? 24).map (·.size) = some YL.length by rw [hYL, Lib.byteCells_length, hxk]; kernel_rfl)
      have Hx := Lib.hid hx
      have HYL := Lib.hid hYL
      have Hxk := Lib.hid hxk
      obtain ⟨r0, hr0⟩ : ∃ r0, decide (x.key = key) = r0 := ⟨_, rfl⟩
      have Hcmp := Lib.hid (fun w => digCmpI x.key key hxk hk YL KL hYL HKL.out r0 hr0 w)
      have Hr0 := Lib.hid hr0
      obtain ⟨ls, hls⟩ : ∃ ls, lessF x.key key = ls := ⟨_, rfl⟩
      have Hls := Lib.hid hls
      have hstep : putL key y (xs.take (i + 1)) = (so ++ (if dn = false ∧ ls = false then [y] else []) ++ (if x.key = key then [] else [x]), dn || !ls) := by
        rw [putL_take hx, Hso.out]
        unfold putS
        rw [hls]
      have Hstep := Lib.hid hstep
      obtain ⟨VL, hVL⟩ : ∃ VL, VL = itC x := ⟨_, rfl⟩
      have hVl : VL.length = 33 := by rw [hVL, itC_length hxk]
      have HVi := Lib.hid (show (Tryz.prog.info? 40).map (·.size) = some VL.length by rw [hVl]; exact itSize)
      rw [← hVL] at hrg
      have HVL := Lib.hid hVL
      have HVl := Lib.hid hVl
      have Hrk : Hid (∀ w', Below w.heap.size w w' → w'.rangeAt b (off + i * 33) YL ∧ w'.rangeAt b (off + i * 33) VL) := fun w' hb' =>
        ⟨fun j v hj => by rw [← hrk j v hj]; exact World.cell?_of_block (hb'.block b hbl), fun j v hj => by rw [← hrg j v hj]; exact World.cell?_of_block (hb'.block b hbl)⟩
      subst hAe
      clear hx hrow hxk hYL hr0 hVL hVl hls hstep hrk hrg
      go_upto_region 6 with fail
      cases dn with
      | true =>
        refine wp_region_held_drew (S := fun w' => True) (by kernel_rfl) trivial (fun hHeld => ?_)
        refine anyH_take (i := 0) (v := .bool true) (some 17) rfl rfl (by kernel_rfl) (by kernel_rfl) (by kernel_rfl) (fun _ _ _ h => h) (Or.inl ⟨by rfl, fun w' hw => by go_simp⟩) (by assumption) ?_
        simp only [Act.put, List.setIfInBounds_toArray, List.set_cons_zero, List.set_cons_succ]
        refine anyH_take (i := 1) (v := .bool false) (some 18) rfl rfl (by kernel_rfl) (by kernel_rfl) (by kernel_rfl) (fun _ _ _ h => h) (Or.inl ⟨by rfl, fun w' hw => by go_simp⟩) (by assumption) ?_
        simp only [Act.put, List.setIfInBounds_toArray, List.set_cons_zero, List.set_cons_succ]
        refine anyH_take (i := 2) (v := .bool false) (some 19) rfl rfl (by kernel_rfl) (by kernel_rfl) (by kernel_rfl) (fun _ _ _ h => h) (Or.inl ⟨by rfl, fun w' hw => by go_simp⟩) (by assumption) ?_
        simp only [Act.put, List.setIfInBounds_toArray, List.set_cons_zero, List.set_cons_succ]
        refine anyH_take (i := 3) (v := undef) (some 20) rfl rfl (by kernel_rfl) (by kernel_rfl) (by kernel_rfl) (fun _ _ _ h => h) (Or.inr ⟨by rfl, rfl⟩) (by assumption) ?_
        simp only [Act.put, List.setIfInBounds_toArray, List.set_cons_zero, List.set_cons_succ]
        refine anyH_take (i := 4) (v := undef) (some 21) rfl rfl (by kernel_rfl) (by kernel_rfl) (by kernel_rfl) (fun _ _ _ h => h) (Or.inr ⟨by rfl, rfl⟩) (by assumption) ?_
        simp only [Act.put, List.setIfInBounds_toArray, List.set_cons_zero, List.set_cons_succ]
        refine anyH_take (i := 5) (v := undef) (some 22) rfl rfl (by kernel_rfl) (by kernel_rfl) (by kernel_rfl) (fun _ _ _ h => h) (Or.inr ⟨by rfl, rfl⟩) (by assumption) ?_
        simp only [Act.put, List.setIfInBounds_toArray, List.set_cons_zero, List.set_cons_succ]
        refine anyH_take (i := 6) (v := undef) (some 23) rfl rfl (by kernel_rfl) (by kernel_rfl) (by kernel_rfl) (fun _ _ _ h => h) (Or.inr ⟨by rfl, rfl⟩) (by assumption) ?_
        simp only [Act.put, List.setIfInBounds_toArray, List.set_cons_zero, List.set_cons_succ]
        refine anyH_take (i := 7) (v := undef) (some 24) rfl rfl (by kernel_rfl) (by kernel_rfl) (by kernel_rfl) (fun _ _ _ h => h) (Or.inr ⟨by rfl, rfl⟩) (by assumption) ?_
        simp only [Act.put, List.setIfInBounds_toArray, List.set_cons_zero, List.set_cons_succ]
        refine anyH_take (i := 8) (v := undef) (some 25) rfl rfl (by kernel_rfl) (by kernel_rfl) (by kernel_rfl) (fun _ _ _ h => h) (Or.inr ⟨by rfl, rfl⟩) (by assumption) ?_
        simp only [Act.put, List.setIfInBounds_toArray, List.set_cons_zero, List.set_cons_succ]
        refine anyH_take (i := 9) (v := undef) (some 26) rfl rfl (by kernel_rfl) (by kernel_rfl) (by kernel_rfl) (fun _ _ _ h => h) (Or.inr ⟨by rfl, rfl⟩) (by assumption) ?_
        simp only [Act.put, List.setIfInBounds_toArray, List.set_cons_zero, List.set_cons_succ]
        refine anyH_take (i := 10) (v := undef) (some 27) rfl rfl (by kernel_rfl) (by kernel_rfl) (by kernel_rfl) (fun _ _ _ h => h) (Or.inr ⟨by rfl, rfl⟩) (by assumption) ?_
        simp only [Act.put, List.setIfInBounds_toArray, List.set_cons_zero, List.set_cons_succ]
        refine anyH_take (i := 11) (v := .bool false) (some 28) rfl rfl (by kernel_rfl) (by kernel_rfl) (by kernel_rfl) (fun _ _ _ h => h) (Or.inl ⟨by rfl, fun w' hw => by go_simp⟩) (by assumption) ?_
        simp only [Act.put, List.setIfInBounds_toArray, List.set_cons_zero, List.set_cons_succ]
        refine wpAnyH_done (by kernel_rfl) ?_ _
        clear hHeld
        obtain ⟨wq, hwq⟩ : ∃ W, W = wr.drew := ⟨_, rfl⟩
        rw [← hwq]
        have hKq : Arr wq w.heap.size 24 KL := by rw [hwq]; exact hKr
        have hbq : Below w.heap.size w wq := by rw [hwq]; exact Below.dN hbr 1
        have hOq := hO.up (Below.dN (Below.refl wr.heap.size wr) 1)
        rw [show wr.drewN 1 = wq from hwq.symm] at hOq
        have hbrq : Below wr.heap.size wr wq := by rw [hwq]; exact Below.dN (Below.refl _ wr) 1
        have hsl : so.length ≤ 300000 := by have := Hslen.out; omega
        have hst1 : putL key y (xs.take (i + 1)) = (so ++ (if x.key = key then [] else [x]), true) := by rw [Hstep.out]; simp
        have Hst1 := Lib.hid hst1
        clear hwq hKr hbr hO hst1
        go_upto_region 9 with fail
        refine wp_region_held_drew (S := fun w' => Arr w' w.heap.size 24 KL ∧ w'.rangeAt b (off + i * 33) YL) (by kernel_rfl) ⟨hKq.drewN 1, (Hrk.out _ hbq).1⟩ (fun hHeld => ?_)
        refine anyH_take (i := 0) (v := .slice (some ⟨b, off, none⟩) n c) (some 35) rfl rfl (by kernel_rfl) (by kernel_rfl) (by kernel_rfl) (fun _ _ _ h => h) (Or.inl ⟨by rfl, fun w' hw => by go_simp⟩) (by assumption) ?_
        simp only [Act.put, List.setIfInBounds_toArray, List.set_cons_zero, List.set_cons_succ]
        refine anyH_take (i := 1) (v := .int .i64 (i : Nat)) (some 36) rfl rfl (by kernel_rfl) (by kernel_rfl) (by kernel_rfl) (fun _ _ _ h => h) (Or.inl ⟨by rfl, fun w' hw => by go_simp⟩) (by assumption) ?_
        simp only [Act.put, List.setIfInBounds_toArray, List.set_cons_zero, List.set_cons_succ]
        refine anyH_take (i := 2) (v := .pointer (some ⟨b, off + i * 33, none⟩)) (some 37) rfl rfl (by kernel_rfl) (by kernel_rfl) (by kernel_rfl) (fun _ _ _ h => h) (Or.inl ⟨by rfl, fun w' hw => by (go_simp; try (intro h; omega))⟩) (by assumption) ?_
        simp only [Act.put, List.setIfInBounds_toArray, List.set_cons_zero, List.set_cons_succ]
        refine anyH_take (i := 3) (v := .pointer (some ⟨b, off + i * 33, none⟩)) (some 38) rfl rfl (by kernel_rfl) (by kernel_rfl) (by kernel_rfl) (fun _ _ _ h => h) (Or.inl ⟨by rfl, fun w' hw => by go_simp⟩) (by assumption) ?_
        simp only [Act.put, List.setIfInBounds_toArray, List.set_cons_zero, List.set_cons_succ]
        refine anyH_take (i := 4) (some 39) rfl rfl (by kernel_rfl) (by kernel_rfl) (by kernel_rfl) (fun _ _ _ h => h) (yieldsIf_load_mid (by rfl) 24 (.tmp 38) rfl b (off + i * 33) rfl YL _ (fun w' h => h.2) Tryz.underlying24 rfl HYi.out) (by assumption) ?_
        simp only [Act.put, List.setIfInBounds_toArray, List.set_cons_zero, List.set_cons_succ]
        refine anyH_take (i := 5) (some 40) rfl rfl (by kernel_rfl) (by kernel_rfl) (by kernel_rfl) (fun _ _ _ h => h) (yieldsIf_load_mid (by rfl) 24 (.tmp 4) rfl w.heap.size 0 rfl KL _ (fun w' h => h.1.range) Tryz.underlying24 rfl HKi.out) (by assumption) ?_
        simp only [Act.put, List.setIfInBounds_toArray, List.set_cons_zero, List.set_cons_succ]
        cases r0 with
        | true =>
          refine anyH_take (i := 6) (v := .bool false) (some 41) rfl rfl (by kernel_rfl) (by kernel_rfl) (by kernel_rfl) (fun _ _ _ h => h) (Or.inl ⟨by rfl, fun w' hw => by (have hc := Hcmp.out; have hg := gt32I; go_simp)⟩) (by assumption) ?_
          simp only [Act.put, List.setIfInBounds_toArray, List.set_cons_zero, List.set_cons_succ]
          refine wpAnyH_done (by kernel_rfl) ?_ _
          clear hHeld
          have hq : x.key = key := by simpa using Hr0.out
          have hst := Hst1.out
          rw [if_pos hq, List.append_nil] at hst
          have hO' := hOq.up (Below.dN (Below.refl wq.heap.size wq) 1)
          have Hst := Lib.hid hst
          clear hst hq
          go_wp2_with fail
          go_roundw
          case rel => exact ⟨i + 1, by omega, by go_num, by rw [Hst.out], hKq.drewN 1, Below.dN hbq 1, by rw [Hst.out]; exact hO'⟩
          case measure => simp [intOf]; omega
        | false =>
          refine anyH_take (i := 6) (v := .bool true) (some 41) rfl rfl (by kernel_rfl) (by kernel_rfl) (by kernel_rfl) (fun _ _ _ h => h) (Or.inl ⟨by rfl, fun w' hw => by (have hc := Hcmp.out; have hg := gt32I; go_simp)⟩) (by assumption) ?_
          simp only [Act.put, List.setIfInBounds_toArray, List.set_cons_zero, List.set_cons_succ]
          refine wpAnyH_done (by kernel_rfl) ?_ _
          clear hHeld
          have hq : x.key ≠ key := by simpa using Hr0.out
          have hst := Hst1.out
          rw [if_neg hq] at hst
          have Hst := Lib.hid hst
          clear hst hq
          obtain ⟨wx, hwx⟩ : ∃ wx, wx = wq.drew := ⟨_, rfl⟩
          rw [← hwx]
          have hKx : Arr wx w.heap.size 24 KL := by rw [hwx]; exact hKq
          have hbx : Below w.heap.size w wx := by rw [hwx]; exact Below.dN hbq 1
          have hOx := hOq.up (Below.dN (Below.refl wq.heap.size wq) 1)
          rw [show wq.drewN 1 = wx from hwx.symm] at hOx
          have hrgx : wx.rangeAt b (off + i * 33) VL := by rw [hwx]; exact (Hrk.out _ hbq).2
          have Hlen : Hid ((so).length ≤ 1000000) := by show _ ≤ _; have := Hslen.out; first | omega | (simp only [List.length_append, List.length_cons, List.length_nil]; omega)
          clear hwx
          obtain ⟨wl, hwl⟩ : ∃ W, W = wx.alloc (.cells VL.toArray 40) := ⟨_, rfl⟩
          have hVg : Arr wl wx.heap.size 40 VL := by rw [hwl]; exact Arr.new wx _ _
          have hblx : Below wx.heap.size wx wl := by rw [hwl]; exact (Below.refl _ wx).alloc (Nat.le_refl _) _
          have hOl := hOx.up hblx
          have Hwl := Lib.hid hwl
          clear hwl hOx
          go_wp2_with (first
            | (refine wpList_load_mid rfl _ _ rfl b (off + i * 33) rfl VL _ hrgx Tryz.underlying40 rfl HVi.out ?_)
            | (refine wpList_build_it rfl _ rfl VL HVl.out rfl ?_; rw [← Hwl.out])
            | (at_builtin; refine wpList_append_it rfl _ _ rfl hOl (Nat.le_trans hbx.size hblx.size) rfl wx.heap.size 1 rfl x Hxk.out VL HVL.out hVg Hlen.out ?_; intro v' w3 hO3 hg3; have hlt1 : ∀ k, Value.ownBlock _ = some k → w.heap.size ≤ k ∧ k < wl.heap.size := hOl.lt))
          have hb3 : Below w.heap.size w w3 := hbx.trans ((hblx.mono hbx.size).trans ((Below.refl _ _).grown hg3 (Nat.le_trans hbx.size hblx.size) (fun k hk => (hOl.lt k hk).1)))
          have hK3 : Arr w3 w.heap.size 24 KL := (hg3.block w.heap.size (hKx.up hblx).lt (fun e => hOl.apartI (hKx.up hblx) (by decide) _ e.symm rfl)).trans (hKx.up hblx)
          rw [show so ++ [x] = (putL key y (xs.take (i + 1))).1 by rw [Hst.out]] at hO3
          go_roundw
          case rel => exact ⟨i + 1, by omega, by go_num, by rw [Hst.out], hK3, hb3, hO3⟩
          case measure => simp [intOf]; omega
      | false =>
        refine wp_region_held_drew (S := fun w' => Arr w' w.heap.size 24 KL ∧ w'.rangeAt b (off + i * 33) YL) (by kernel_rfl) ⟨hKr.drewN 1, (Hrk.out _ (Below.dN hbr 1)).1⟩ (fun hHeld => ?_)
        refine anyH_take (i := 0) (v := .bool false) (some 17) rfl rfl (by kernel_rfl) (by kernel_rfl) (by kernel_rfl) (fun _ _ _ h => h) (Or.inl ⟨by rfl, fun w' hw => by go_simp⟩) (by assumption) ?_
        simp only [Act.put, List.setIfInBounds_toArray, List.set_cons_zero, List.set_cons_succ]
        refine anyH_take (i := 1) (v := .bool true) (some 18) rfl rfl (by kernel_rfl) (by kernel_rfl) (by kernel_rfl) (fun _ _ _ h => h) (Or.inl ⟨by rfl, fun w' hw => by go_simp⟩) (by assumption) ?_
        simp only [Act.put, List.setIfInBounds_toArray, List.set_cons_zero, List.set_cons_succ]
        refine anyH_take (i := 2) (v := .bool true) (some 19) rfl rfl (by kernel_rfl) (by kernel_rfl) (by kernel_rfl) (fun _ _ _ h => h) (Or.inl ⟨by rfl, fun w' hw => by go_simp⟩) (by assumption) ?_
        simp only [Act.put, List.setIfInBounds_toArray, List.set_cons_zero, List.set_cons_succ]
        refine anyH_take (i := 3) (v := .slice (some ⟨b, off, none⟩) n c) (some 20) rfl rfl (by kernel_rfl) (by kernel_rfl) (by kernel_rfl) (fun _ _ _ h => h) (Or.inl ⟨by rfl, fun w' hw => by go_simp⟩) (by assumption) ?_
        simp only [Act.put, List.setIfInBounds_toArray, List.set_cons_zero, List.set_cons_succ]
        refine anyH_take (i := 4) (v := .int .i64 (i : Nat)) (some 21) rfl rfl (by kernel_rfl) (by kernel_rfl) (by kernel_rfl) (fun _ _ _ h => h) (Or.inl ⟨by rfl, fun w' hw => by go_simp⟩) (by assumption) ?_
        simp only [Act.put, List.setIfInBounds_toArray, List.set_cons_zero, List.set_cons_succ]
        refine anyH_take (i := 5) (v := .pointer (some ⟨b, off + i * 33, none⟩)) (some 22) rfl rfl (by kernel_rfl) (by kernel_rfl) (by kernel_rfl) (fun _ _ _ h => h) (Or.inl ⟨by rfl, fun w' hw => by (go_simp; try (intro h; omega))⟩) (by assumption) ?_
        simp only [Act.put, List.setIfInBounds_toArray, List.set_cons_zero, List.set_cons_succ]
        refine anyH_take (i := 6) (v := .pointer (some ⟨b, off + i * 33, none⟩)) (some 23) rfl rfl (by kernel_rfl) (by kernel_rfl) (by kernel_rfl) (fun _ _ _ h => h) (Or.inl ⟨by rfl, fun w' hw => by go_simp⟩) (by assumption) ?_
        simp only [Act.put, List.setIfInBounds_toArray, List.set_cons_zero, List.set_cons_succ]
        refine anyH_take (i := 7) (some 24) rfl rfl (by kernel_rfl) (by kernel_rfl) (by kernel_rfl) (fun _ _ _ h => h) (yieldsIf_load_mid (by rfl) 24 (.tmp 23) rfl b (off + i * 33) rfl YL _ (fun w' h => h.2) Tryz.underlying24 rfl HYi.out) (by assumption) ?_
        simp only [Act.put, List.setIfInBounds_toArray, List.set_cons_zero, List.set_cons_succ]
        refine anyH_take (i := 8) (some 25) rfl rfl (by kernel_rfl) (by kernel_rfl) (by kernel_rfl) (fun _ _ _ h => h) (yieldsIf_load_mid (by rfl) 24 (.tmp 4) rfl w.heap.size 0 rfl KL _ (fun w' h => h.1.range) Tryz.underlying24 rfl HKi.out) (by assumption) ?_
        simp only [Act.put, List.setIfInBounds_toArray, List.set_cons_zero, List.set_cons_succ]
        refine wpAnyH_ready (rs := [9]) (by kernel_rfl) (by simp) ?_
        refine AllReadyH.cons rfl (fun K hK => ?_) AllReadyH.nil
        go_simp
        go_at_call 47
        refine Calls.mono (less_run x.key key Hxk.out hk YL KL HYL.out HKL.out ls Hls.out (wr.drewN 1)) ?_
        rintro e wq ⟨rfl, hbrq'⟩
        have hbrq : Below wr.heap.size wr wq := ⟨hbrq'.os, hbrq'.tape, hbrq'.output, hbrq'.size, hbrq'.block⟩
        have hKq := hKr.up hbrq
        have hbq : Below w.heap.size w wq := hbr.trans (hbrq.mono hbr.size)
        have hOq := hO.up hbrq
        clear hbrq' hKr hbr hO
        dsimp only
        go_wp2_with fail
        refine hK.out _ _ ⟨hKq, (Hrk.out _ hbq).1⟩ (fun hHeldx => ?_)
        clear hK K
        try simp only [Act.put, List.setIfInBounds_toArray, List.set_cons_zero, List.set_cons_succ]
        cases ls with
        | true =>
          refine anyH_take (i := 10) (v := .bool false) (some 27) rfl rfl (by kernel_rfl) (by kernel_rfl) (by kernel_rfl) (fun _ _ _ h => h) (Or.inl ⟨by rfl, fun w' hw => by go_simp⟩) (by assumption) ?_
          simp only [Act.put, List.setIfInBounds_toArray, List.set_cons_zero, List.set_cons_succ]
          refine anyH_take (i := 11) (v := .bool false) (some 28) rfl rfl (by kernel_rfl) (by kernel_rfl) (by kernel_rfl) (fun _ _ _ h => h) (Or.inl ⟨by rfl, fun w' hw => by go_simp⟩) (by assumption) ?_
          simp only [Act.put, List.setIfInBounds_toArray, List.set_cons_zero, List.set_cons_succ]
          refine wpAnyH_done (by kernel_rfl) ?_ _
          clear hHeld hHeldx
          have hsl : so.length ≤ 300000 := by have := Hslen.out; omega
          have hst1 : putL key y (xs.take (i + 1)) = (so ++ (if x.key = key then [] else [x]), false) := by rw [Hstep.out]; simp
          have Hst1 := Lib.hid hst1
          clear hst1
          go_upto_region 9 with fail
          refine wp_region_held_drew (S := fun w' => Arr w' w.heap.size 24 KL ∧ w'.rangeAt b (off + i * 33) YL) (by kernel_rfl) ⟨hKq.drewN 1, (Hrk.out _ hbq).1⟩ (fun hHeld => ?_)
          refine anyH_take (i := 0) (v := .slice (some ⟨b, off, none⟩) n c) (some 35) rfl rfl (by kernel_rfl) (by kernel_rfl) (by kernel_rfl) (fun _ _ _ h => h) (Or.inl ⟨by rfl, fun w' hw => by go_simp⟩) (by assumption) ?_
          simp only [Act.put, List.setIfInBounds_toArray, List.set_cons_zero, List.set_cons_succ]
          refine anyH_take (i := 1) (v := .int .i64 (i : Nat)) (some 36) rfl rfl (by kernel_rfl) (by kernel_rfl) (by kernel_rfl) (fun _ _ _ h => h) (Or.inl ⟨by rfl, fun w' hw => by go_simp⟩) (by assumption) ?_
          simp only [Act.put, List.setIfInBounds_toArray, List.set_cons_zero, List.set_cons_succ]
          refine anyH_take (i := 2) (v := .pointer (some ⟨b, off + i * 33, none⟩)) (some 37) rfl rfl (by kernel_rfl) (by kernel_rfl) (by kernel_rfl) (fun _ _ _ h => h) (Or.inl ⟨by rfl, fun w' hw => by (go_simp; try (intro h; omega))⟩) (by assumption) ?_
          simp only [Act.put, List.setIfInBounds_toArray, List.set_cons_zero, List.set_cons_succ]
          refine anyH_take (i := 3) (v := .pointer (some ⟨b, off + i * 33, none⟩)) (some 38) rfl rfl (by kernel_rfl) (by kernel_rfl) (by kernel_rfl) (fun _ _ _ h => h) (Or.inl ⟨by rfl, fun w' hw => by go_simp⟩) (by assumption) ?_
          simp only [Act.put, List.setIfInBounds_toArray, List.set_cons_zero, List.set_cons_succ]
          refine anyH_take (i := 4) (some 39) rfl rfl (by kernel_rfl) (by kernel_rfl) (by kernel_rfl) (fun _ _ _ h => h) (yieldsIf_load_mid (by rfl) 24 (.tmp 38) rfl b (off + i * 33) rfl YL _ (fun w' h => h.2) Tryz.underlying24 rfl HYi.out) (by assumption) ?_
          simp only [Act.put, List.setIfInBounds_toArray, List.set_cons_zero, List.set_cons_succ]
          refine anyH_take (i := 5) (some 40) rfl rfl (by kernel_rfl) (by kernel_rfl) (by kernel_rfl) (fun _ _ _ h => h) (yieldsIf_load_mid (by rfl) 24 (.tmp 4) rfl w.heap.size 0 rfl KL _ (fun w' h => h.1.range) Tryz.underlying24 rfl HKi.out) (by assumption) ?_
          simp only [Act.put, List.setIfInBounds_toArray, List.set_cons_zero, List.set_cons_succ]
          cases r0 with
          | true =>
            refine anyH_take (i := 6) (v := .bool false) (some 41) rfl rfl (by kernel_rfl) (by kernel_rfl) (by kernel_rfl) (fun _ _ _ h => h) (Or.inl ⟨by rfl, fun w' hw => by (have hc := Hcmp.out; have hg := gt32I; go_simp)⟩) (by assumption) ?_
            simp only [Act.put, List.setIfInBounds_toArray, List.set_cons_zero, List.set_cons_succ]
            refine wpAnyH_done (by kernel_rfl) ?_ _
            clear hHeld
            have hq : x.key = key := by simpa using Hr0.out
            have hst := Hst1.out
            rw [if_pos hq, List.append_nil] at hst
            have hO' := hOq.up (Below.dN (Below.refl wq.heap.size wq) 1)
            have Hst := Lib.hid hst
            clear hst hq
            go_wp2_with fail
            go_roundw
            case rel => exact ⟨i + 1, by omega, by go_num, by rw [Hst.out], hKq.drewN 1, Below.dN hbq 1, by rw [Hst.out]; exact hO'⟩
            case measure => simp [intOf]; omega
          | false =>
            refine anyH_take (i := 6) (v := .bool true) (some 41) rfl rfl (by kernel_rfl) (by kernel_rfl) (by kernel_rfl) (fun _ _ _ h => h) (Or.inl ⟨by rfl, fun w' hw => by (have hc := Hcmp.out; have hg := gt32I; go_simp)⟩) (by assumption) ?_
            simp only [Act.put, List.setIfInBounds_toArray, List.set_cons_zero, List.set_cons_succ]
            refine wpAnyH_done (by kernel_rfl) ?_ _
            clear hHeld
            have hq : x.key ≠ key := by simpa using Hr0.out
            have hst := Hst1.out
            rw [if_neg hq] at hst
            have Hst := Lib.hid hst
            clear hst hq
            obtain ⟨wx, hwx⟩ : ∃ wx, wx = wq.drew := ⟨_, rfl⟩
            rw [← hwx]
            have hKx : Arr wx w.heap.size 24 KL := by rw [hwx]; exact hKq
            have hbx : Below w.heap.size w wx := by rw [hwx]; exact Below.dN hbq 1
            have hOx := hOq.up (Below.dN (Below.refl wq.heap.size wq) 1)
            rw [show wq.drewN 1 = wx from hwx.symm] at hOx
            have hrgx : wx.rangeAt b (off + i * 33) VL := by rw [hwx]; exact (Hrk.out _ hbq).2
            have Hlen : Hid ((so).length ≤ 1000000) := by show _ ≤ _; have := Hslen.out; first | omega | (simp only [List.length_append, List.length_cons, List.length_nil]; omega)
            clear hwx
            obtain ⟨wl, hwl⟩ : ∃ W, W = wx.alloc (.cells VL.toArray 40) := ⟨_, rfl⟩
            have hVg : Arr wl wx.heap.size 40 VL := by rw [hwl]; exact Arr.new wx _ _
            have hblx : Below wx.heap.size wx wl := by rw [hwl]; exact (Below.refl _ wx).alloc (Nat.le_refl _) _
            have hOl := hOx.up hblx
            have Hwl := Lib.hid hwl
            clear hwl hOx
            go_wp2_with (first
              | (refine wpList_load_mid rfl _ _ rfl b (off + i * 33) rfl VL _ hrgx Tryz.underlying40 rfl HVi.out ?_)
              | (refine wpList_build_it rfl _ rfl VL HVl.out rfl ?_; rw [← Hwl.out])
              | (at_builtin; refine wpList_append_it rfl _ _ rfl hOl (Nat.le_trans hbx.size hblx.size) rfl wx.heap.size 1 rfl x Hxk.out VL HVL.out hVg Hlen.out ?_; intro v' w3 hO3 hg3; have hlt1 : ∀ k, Value.ownBlock _ = some k → w.heap.size ≤ k ∧ k < wl.heap.size := hOl.lt))
            have hb3 : Below w.heap.size w w3 := hbx.trans ((hblx.mono hbx.size).trans ((Below.refl _ _).grown hg3 (Nat.le_trans hbx.size hblx.size) (fun k hk => (hOl.lt k hk).1)))
            have hK3 : Arr w3 w.heap.size 24 KL := (hg3.block w.heap.size (hKx.up hblx).lt (fun e => hOl.apartI (hKx.up hblx) (by decide) _ e.symm rfl)).trans (hKx.up hblx)
            rw [show so ++ [x] = (putL key y (xs.take (i + 1))).1 by rw [Hst.out]] at hO3
            go_roundw
            case rel => exact ⟨i + 1, by omega, by go_num, by rw [Hst.out], hK3, hb3, hO3⟩
            case measure => simp [intOf]; omega
        | false =>
          refine anyH_take (i := 10) (v := .bool true) (some 27) rfl rfl (by kernel_rfl) (by kernel_rfl) (by kernel_rfl) (fun _ _ _ h => h) (Or.inl ⟨by rfl, fun w' hw => by go_simp⟩) (by assumption) ?_
          simp only [Act.put, List.setIfInBounds_toArray, List.set_cons_zero, List.set_cons_succ]
          refine anyH_take (i := 11) (v := .bool true) (some 28) rfl rfl (by kernel_rfl) (by kernel_rfl) (by kernel_rfl) (fun _ _ _ h => h) (Or.inl ⟨by rfl, fun w' hw => by go_simp⟩) (by assumption) ?_
          simp only [Act.put, List.setIfInBounds_toArray, List.set_cons_zero, List.set_cons_succ]
          refine wpAnyH_done (by kernel_rfl) ?_ _
          clear hHeld hHeldx
          have hst1 : putL key y (xs.take (i + 1)) = ((so ++ [y]) ++ (if x.key = key then [] else [x]), true) := by rw [Hstep.out]; simp
          have Hst1 := Lib.hid hst1
          have hlen1 : so.length ≤ 1000000 := by have := Hslen.out; omega
          have Hlen1 := Lib.hid hlen1
          clear hst1 hlen1
          obtain ⟨wl, hwl⟩ : ∃ W, W = wq.alloc (.cells TL.toArray 40) := ⟨_, rfl⟩
          have hVg : Arr wl wq.heap.size 40 TL := by rw [hwl]; exact Arr.new wq _ _
          have hblq : Below wq.heap.size wq wl := by rw [hwl]; exact (Below.refl _ wq).alloc (Nat.le_refl _) _
          have hOl := hOq.up hblq
          have Hwl := Lib.hid hwl
          have hki := hKq.range
          clear hwl hOq
          go_upto_region 9 with (first
            | (refine wpList_load_mid rfl _ _ rfl w.heap.size 0 rfl KL _ hki Tryz.underlying24 rfl HKi.out ?_)
            | (refine wpList_builtP8 rfl _ _ rfl [(0, .agg KL.toArray), (1, .slice Av nv cv)] rfl TL.toArray HTb.out ?_)
            | (refine wpList_build_it rfl _ rfl TL HTl.out rfl ?_; rw [← Hwl.out])
            | (at_builtin; refine wpList_append_it rfl _ _ rfl hOl (Nat.le_trans hbq.size hblq.size) rfl wq.heap.size 1 rfl y Hyk.out TL HTy.out hVg Hlen1.out ?_; intro v1 w1 hO1 hg1))
          have hb1 : Below w.heap.size w w1 := hbq.trans ((hblq.mono hbq.size).trans ((Below.refl _ _).grown hg1 (Nat.le_trans hbq.size hblq.size) (fun k hk => (hOl.lt k hk).1)))
          have hK1 : Arr w1 w.heap.size 24 KL := (hg1.block w.heap.size (hKq.up hblq).lt (fun e => hOl.apartI (hKq.up hblq) (by decide) _ e.symm rfl)).trans (hKq.up hblq)
          have hrw1 : w1.rangeAt b (off + i * 33) YL ∧ w1.rangeAt b (off + i * 33) VL := Hrk.out _ hb1
          clear hVg hblq hOl Hwl hki hg1
          go_upto_region 9 with fail
          refine wp_region_held_drew (S := fun w' => Arr w' w.heap.size 24 KL ∧ w'.rangeAt b (off + i * 33) YL) (by kernel_rfl) ⟨hK1.drewN 1, hrw1.1⟩ (fun hHeld => ?_)
          refine anyH_take (i := 0) (v := .slice (some ⟨b, off, none⟩) n c) (some 35) rfl rfl (by kernel_rfl) (by kernel_rfl) (by kernel_rfl) (fun _ _ _ h => h) (Or.inl ⟨by rfl, fun w' hw => by go_simp⟩) (by assumption) ?_
          simp only [Act.put, List.setIfInBounds_toArray, List.set_cons_zero, List.set_cons_succ]
          refine anyH_take (i := 1) (v := .int .i64 (i : Nat)) (some 36) rfl rfl (by kernel_rfl) (by kernel_rfl) (by kernel_rfl) (fun _ _ _ h => h) (Or.inl ⟨by rfl, fun w' hw => by go_simp⟩) (by assumption) ?_
          simp only [Act.put, List.setIfInBounds_toArray, List.set_cons_zero, List.set_cons_succ]
          refine anyH_take (i := 2) (v := .pointer (some ⟨b, off + i * 33, none⟩)) (some 37) rfl rfl (by kernel_rfl) (by kernel_rfl) (by kernel_rfl) (fun _ _ _ h => h) (Or.inl ⟨by rfl, fun w' hw => by (go_simp; try (intro h; omega))⟩) (by assumption) ?_
          simp only [Act.put, List.setIfInBounds_toArray, List.set_cons_zero, List.set_cons_succ]
          refine anyH_take (i := 3) (v := .pointer (some ⟨b, off + i * 33, none⟩)) (some 38) rfl rfl (by kernel_rfl) (by kernel_rfl) (by kernel_rfl) (fun _ _ _ h => h) (Or.inl ⟨by rfl, fun w' hw => by go_simp⟩) (by assumption) ?_
          simp only [Act.put, List.setIfInBounds_toArray, List.set_cons_zero, List.set_cons_succ]
          refine anyH_take (i := 4) (some 39) rfl rfl (by kernel_rfl) (by kernel_rfl) (by kernel_rfl) (fun _ _ _ h => h) (yieldsIf_load_mid (by rfl) 24 (.tmp 38) rfl b (off + i * 33) rfl YL _ (fun w' h => h.2) Tryz.underlying24 rfl HYi.out) (by assumption) ?_
          simp only [Act.put, List.setIfInBounds_toArray, List.set_cons_zero, List.set_cons_succ]
          refine anyH_take (i := 5) (some 40) rfl rfl (by kernel_rfl) (by kernel_rfl) (by kernel_rfl) (fun _ _ _ h => h) (yieldsIf_load_mid (by rfl) 24 (.tmp 4) rfl w.heap.size 0 rfl KL _ (fun w' h => h.1.range) Tryz.underlying24 rfl HKi.out) (by assumption) ?_
          simp only [Act.put, List.setIfInBounds_toArray, List.set_cons_zero, List.set_cons_succ]
          cases r0 with
          | true =>
            refine anyH_take (i := 6) (v := .bool false) (some 41) rfl rfl (by kernel_rfl) (by kernel_rfl) (by kernel_rfl) (fun _ _ _ h => h) (Or.inl ⟨by rfl, fun w' hw => by (have hc := Hcmp.out; have hg := gt32I; go_simp)⟩) (by assumption) ?_
            simp only [Act.put, List.setIfInBounds_toArray, List.set_cons_zero, List.set_cons_succ]
            refine wpAnyH_done (by kernel_rfl) ?_ _
            clear hHeld
            have hq : x.key = key := by simpa using Hr0.out
            have hst := Hst1.out
            rw [if_pos hq, List.append_nil] at hst
            have hO' := hO1.up (Below.dN (Below.refl w1.heap.size w1) 1)
            have Hst := Lib.hid hst
            clear hst hq
            go_wp2_with fail
            go_roundw
            case rel => exact ⟨i + 1, by omega, by go_num, by rw [Hst.out], hK1.drewN 1, Below.dN hb1 1, by rw [Hst.out]; exact hO'⟩
            case measure => simp [intOf]; omega
          | false =>
            refine anyH_take (i := 6) (v := .bool true) (some 41) rfl rfl (by kernel_rfl) (by kernel_rfl) (by kernel_rfl) (fun _ _ _ h => h) (Or.inl ⟨by rfl, fun w' hw => by (have hc := Hcmp.out; have hg := gt32I; go_simp)⟩) (by assumption) ?_
            simp only [Act.put, List.setIfInBounds_toArray, List.set_cons_zero, List.set_cons_succ]
            refine wpAnyH_done (by kernel_rfl) ?_ _
            clear hHeld
            have hq : x.key ≠ key := by simpa using Hr0.out
            have hst := Hst1.out
            rw [if_neg hq] at hst
            have Hst := Lib.hid hst
            clear hst hq
            obtain ⟨wx, hwx⟩ : ∃ wx, wx = w1.drew := ⟨_, rfl⟩
            rw [← hwx]
            have hKx : Arr wx w.heap.size 24 KL := by rw [hwx]; exact hK1
            have hbx : Below w.heap.size w wx := by rw [hwx]; exact Below.dN hb1 1
            have hOx := hO1.up (Below.dN (Below.refl w1.heap.size w1) 1)
            rw [show w1.drewN 1 = wx from hwx.symm] at hOx
            have hrgx : wx.rangeAt b (off + i * 33) VL := by rw [hwx]; exact hrw1.2
            have Hlen : Hid (((so ++ [y])).length ≤ 1000000) := by show _ ≤ _; have := Hslen.out; first | omega | (simp only [List.length_append, List.length_cons, List.length_nil]; omega)
            clear hwx
            obtain ⟨wl, hwl⟩ : ∃ W, W = wx.alloc (.cells VL.toArray 40) := ⟨_, rfl⟩
            have hVg : Arr wl wx.heap.size 40 VL := by rw [hwl]; exact Arr.new wx _ _
            have hblx : Below wx.heap.size wx wl := by rw [hwl]; exact (Below.refl _ wx).alloc (Nat.le_refl _) _
            have hOl := hOx.up hblx
            have Hwl := Lib.hid hwl
            clear hwl hOx
            go_wp2_with (first
              | (refine wpList_load_mid rfl _ _ rfl b (off + i * 33) rfl VL _ hrgx Tryz.underlying40 rfl HVi.out ?_)
              | (refine wpList_build_it rfl _ rfl VL HVl.out rfl ?_; rw [← Hwl.out])
              | (at_builtin; refine wpList_append_it rfl _ _ rfl hOl (Nat.le_trans hbx.size hblx.size) rfl wx.heap.size 1 rfl x Hxk.out VL HVL.out hVg Hlen.out ?_; intro v' w3 hO3 hg3; have hlt1 : ∀ k, Value.ownBlock _ = some k → w.heap.size ≤ k ∧ k < wl.heap.size := hOl.lt))
            have hb3 : Below w.heap.size w w3 := hbx.trans ((hblx.mono hbx.size).trans ((Below.refl _ _).grown hg3 (Nat.le_trans hbx.size hblx.size) (fun k hk => (hOl.lt k hk).1)))
            have hK3 : Arr w3 w.heap.size 24 KL := (hg3.block w.heap.size (hKx.up hblx).lt (fun e => hOl.apartI (hKx.up hblx) (by decide) _ e.symm rfl)).trans (hKx.up hblx)
            rw [show (so ++ [y]) ++ [x] = (putL key y (xs.take (i + 1))).1 by rw [Hst.out]] at hO3
            go_roundw
            case rel => exact ⟨i + 1, by omega, by go_num, by rw [Hst.out], hK3, hb3, hO3⟩
            case measure => simp [intOf]; omega
    · obtain rfl : i = n := by omega
      have hd1 : decide (i < i) = false := by simp
      have hx := Hso.out
      rw [List.take_of_length_le (by rw [Hn.out]; exact Nat.le_refl _)] at hx
      cases dn with
      | true =>
        have Hres : Hid (putI key y xs = so) := by show _ = _; unfold putI; rw [hx]; rfl
        clear hx
        go_wp2_with fail
        go_ret
        exact ⟨_, rfl, by rw [Hres.out]; exact hO, hbr⟩
      | false =>
        have Hres : Hid (putI key y xs = so ++ [y]) := by show _ = _; unfold putI; rw [hx]; rfl
        have Hlen1 : Hid (so.length ≤ 1000000) := by show _ ≤ _; have := Hslen.out; omega
        clear hx
        obtain ⟨wl, hwl⟩ : ∃ W, W = wr.alloc (.cells TL.toArray 40) := ⟨_, rfl⟩
        have hVg : Arr wl wr.heap.size 40 TL := by rw [hwl]; exact Arr.new wr _ _
        have hblq : Below wr.heap.size wr wl := by rw [hwl]; exact (Below.refl _ wr).alloc (Nat.le_refl _) _
        have hOl := hO.up hblq
        have Hwl := Lib.hid hwl
        have hki := hKr.range
        clear hwl hO
        go_wp2_with (first
          | (refine wpList_load_mid rfl _ _ rfl w.heap.size 0 rfl KL _ hki Tryz.underlying24 rfl HKi.out ?_)
          | (refine wpList_builtP8 rfl _ _ rfl [(0, .agg KL.toArray), (1, .slice Av nv cv)] rfl TL.toArray HTb.out ?_)
          | (refine wpList_build_it rfl _ rfl TL HTl.out rfl ?_; rw [← Hwl.out])
          | (at_builtin; refine wpList_append_it rfl _ _ rfl hOl (Nat.le_trans hbr.size hblq.size) rfl wr.heap.size 1 rfl y Hyk.out TL HTy.out hVg Hlen1.out ?_; intro v1 w1 hO1 hg1))
        have hb1 : Below w.heap.size w w1 := hbr.trans ((hblq.mono hbr.size).trans ((Below.refl _ _).grown hg1 (Nat.le_trans hbr.size hblq.size) (fun k hk => (hOl.lt k hk).1)))
        go_ret
        exact ⟨_, rfl, by rw [Hres.out]; exact hO1, hb1⟩

end Go.Proofs.YtblgmnjegkfoaaaGreat

namespace Go.Proofs.YtblgmnjegkfoaaaGreat
open Go.RowKit
set_option linter.unusedVariables false
set_option linter.unusedSimpArgs false

theorem lessF_irrefl : ∀ a : List UInt8, lessF a a = false
  | [] => rfl
  | x :: xs => by rw [lessF_cons, if_pos rfl]; exact lessF_irrefl xs
theorem lessF_trans : ∀ a b c : List UInt8, lessF a b = true → lessF b c = true → lessF a c = true
  | [], _, _, h, _ => by cases h
  | _ :: _, [], _, h, _ => by cases h
  | _ :: _, _ :: _, [], _, h => by cases h
  | x :: xs, y :: ys, z :: zs, h1, h2 => by
    rw [lessF_cons] at h1 h2 ⊢
    by_cases e1 : x = y
    · subst e1
      rw [if_pos rfl] at h1
      by_cases e2 : x = z
      · subst e2
        rw [if_pos rfl] at h2 ⊢
        exact lessF_trans xs ys zs h1 h2
      · rw [if_neg e2] at h2 ⊢; exact h2
    · rw [if_neg e1] at h1
      have k1 := of_decide_eq_true h1
      by_cases e2 : y = z
      · subst e2
        rw [if_neg e1]; exact h1
      · rw [if_neg e2] at h2
        have k2 := of_decide_eq_true h2
        rw [if_neg (fun e => by subst e; omega)]
        exact decide_eq_true (by omega)
theorem lessF_tri : ∀ a b : List UInt8, a.length = b.length → a ≠ b → lessF a b = true ∨ lessF b a = true
  | [], [], _, h => absurd rfl h
  | [], _ :: _, h, _ => by simp at h
  | _ :: _, [], h, _ => by simp at h
  | x :: xs, y :: ys, h, hne => by
    rw [lessF_cons, lessF_cons]
    by_cases e : x = y
    · subst e
      rw [if_pos rfl, if_pos rfl]
      exact lessF_tri xs ys (by simpa using h) (fun e => hne (by rw [e]))
    · rw [if_neg e, if_neg (fun e2 => e e2.symm)]
      have : x.toNat ≠ y.toNat := fun e2 => e (UInt8.toNat_inj.1 e2)
      rcases Nat.lt_or_gt_of_ne this with h | h
      · exact .inl (decide_eq_true h)
      · exact .inr (decide_eq_true h)
theorem lessF_anti {a b : List UInt8} (h : lessF a b = true) : lessF b a = false := by
  cases hb : lessF b a with
  | false => rfl
  | true => have := lessF_trans a b a h hb; rw [lessF_irrefl] at this; cases this
theorem lessF_ne {a b : List UInt8} (h : lessF a b = true) : a ≠ b := fun e => by rw [e, lessF_irrefl] at h; cases h

/-- Items whose keys rise. -/
def Rise (l : List It) : Prop := l.Pairwise fun x y => lessF x.1 y.1 = true
theorem Rise.sub {l : List It} (h : Rise l) (t n : Nat) : Rise (subF l t n) := h.filter _
theorem Rise.good {l : List It} (h : Rise l) (h32 : ∀ x ∈ l, x.1.length = 32) : Good l := ⟨h32, h.imp fun h => lessF_ne h⟩
/-- Rising rows of the same items are one. -/
theorem rise_ext : ∀ {l m : List It}, Rise l → Rise m → (∀ x, x ∈ l ↔ x ∈ m) → l = m
  | [], [], _, _, _ => rfl
  | [], y :: m, _, _, h => by have := (h y).2 (by simp); cases this
  | x :: l, [], _, _, h => by have := (h x).1 (by simp); cases this
  | x :: l, y :: m, hl, hm, h => by
    obtain ⟨hx, hl'⟩ := List.pairwise_cons.1 hl
    obtain ⟨hy, hm'⟩ := List.pairwise_cons.1 hm
    have e : x = y := by
      rcases List.mem_cons.1 ((h x).1 (by simp)) with e | e
      · exact e
      · rcases List.mem_cons.1 ((h y).2 (by simp)) with e2 | e2
        · exact e2.symm
        · have k1 := hx y e2
          have k2 := hy x e
          rw [lessF_anti k1] at k2; cases k2
    subst e
    rw [rise_ext hl' hm' fun z => ?_]
    constructor
    · intro hz
      rcases List.mem_cons.1 ((h z).1 (List.mem_cons_of_mem _ hz)) with e | e
      · subst e
        have := hx z hz
        rw [lessF_irrefl] at this; cases this
      · exact e
    · intro hz
      rcases List.mem_cons.1 ((h z).2 (List.mem_cons_of_mem _ hz)) with e | e
      · subst e
        have := hy z hz
        rw [lessF_irrefl] at this; cases this
      · exact e

/-- With one more, or another value. -/
def putF (key val : List UInt8) (l : List It) : List It := l.filter (fun x => lessF x.1 key) ++ (key, val) :: l.filter (fun x => lessF key x.1)
def dropF (key : List UInt8) (l : List It) : List It := l.filter fun x => decide (x.1 ≠ key)
theorem mem_putF {key val : List UInt8} (hk : key.length = 32) {l : List It} (h32 : ∀ x ∈ l, x.1.length = 32) (x : It) : x ∈ putF key val l ↔ x = (key, val) ∨ (x ∈ l ∧ x.1 ≠ key) := by
  unfold putF
  simp only [List.mem_append, List.mem_cons, List.mem_filter]
  constructor
  · rintro (⟨h1, h2⟩ | h | ⟨h1, h2⟩)
    · exact .inr ⟨h1, lessF_ne h2⟩
    · exact .inl h
    · exact .inr ⟨h1, fun e => lessF_ne h2 e.symm⟩
  · rintro (h | ⟨h1, h2⟩)
    · exact .inr (.inl h)
    · rcases lessF_tri x.1 key ((h32 x h1).trans hk.symm) h2 with h | h
      · exact .inl ⟨h1, h⟩
      · exact .inr (.inr ⟨h1, h⟩)
theorem mem_dropF {key : List UInt8} {l : List It} (x : It) : x ∈ dropF key l ↔ x ∈ l ∧ x.1 ≠ key := by simp [dropF]
theorem Rise.put {l : List It} (h : Rise l) (key val : List UInt8) : Rise (putF key val l) := by
  unfold Rise putF
  rw [List.pairwise_append]
  refine ⟨h.filter _, List.pairwise_cons.2 ⟨fun y hy => by simpa using (List.mem_filter.1 hy).2, h.filter _⟩, fun x hx y hy => ?_⟩
  have h1 : lessF x.1 key = true := by simpa using (List.mem_filter.1 hx).2
  rcases List.mem_cons.1 hy with rfl | hy
  · exact h1
  · exact lessF_trans _ _ _ h1 (by simpa using (List.mem_filter.1 hy).2)
theorem Rise.drop {l : List It} (h : Rise l) (key : List UInt8) : Rise (dropF key l) := h.filter _
theorem putF_32 {key val : List UInt8} (hk : key.length = 32) {l : List It} (h32 : ∀ x ∈ l, x.1.length = 32) : ∀ x ∈ putF key val l, x.1.length = 32 := fun x hx => by
  rcases (mem_putF hk h32 x).1 hx with rfl | h
  · exact hk
  · exact h32 x h.1
theorem sub_32 {l : List It} (h32 : ∀ x ∈ l, x.1.length = 32) (t n : Nat) : ∀ x ∈ subF l t n, x.1.length = 32 := fun x hx => h32 x (mem_subF.1 hx).1
/-- The part where the key stands; the other ones. -/
theorem subF_put {key val : List UInt8} (hk : key.length = 32) {l : List It} (h : Rise l) (h32 : ∀ x ∈ l, x.1.length = 32) (t n : Nat) : subF (putF key val l) t n = if nibF key t = n then putF key val (subF l t n) else subF l t n := by
  refine rise_ext ((h.put key val).sub t n) (by split; exact (h.sub t n).put key val; exact h.sub t n) fun x => ?_
  rw [mem_subF, mem_putF hk h32]
  split
  · rename_i hn
    rw [mem_putF hk (sub_32 h32 t n), mem_subF]
    constructor
    · rintro ⟨h1 | h1, h2⟩
      · exact .inl h1
      · exact .inr ⟨⟨h1.1, h2⟩, h1.2⟩
    · rintro (h1 | ⟨⟨h1, h2⟩, h3⟩)
      · exact ⟨.inl h1, by rw [h1]; exact hn⟩
      · exact ⟨.inr ⟨h1, h3⟩, h2⟩
  · rename_i hn
    rw [mem_subF]
    constructor
    · rintro ⟨h1 | h1, h2⟩
      · rw [h1] at h2; exact absurd h2 hn
      · exact ⟨h1.1, h2⟩
    · rintro ⟨h1, h2⟩
      exact ⟨.inr ⟨h1, fun e => hn (by rw [← e]; exact h2)⟩, h2⟩
theorem subF_drop (key : List UInt8) (l : List It) (t n : Nat) : subF (dropF key l) t n = dropF key (subF l t n) := by
  unfold subF dropF
  rw [List.filter_filter, List.filter_filter]
  congr 1
  funext x
  exact Bool.and_comm _ _
theorem drop_off {key : List UInt8} {l : List It} (h : ∀ x ∈ l, x.1 ≠ key) : dropF key l = l := List.filter_eq_self.2 fun x hx => decide_eq_true (h x hx)
theorem drop_put {key val : List UInt8} (hk : key.length = 32) {l : List It} (h : Rise l) (h32 : ∀ x ∈ l, x.1.length = 32) (hn : ∀ x ∈ l, x.1 ≠ key) : dropF key (putF key val l) = l := by
  refine rise_ext ((h.put key val).drop key) h fun x => ?_
  rw [mem_dropF, mem_putF hk h32]
  constructor
  · rintro ⟨h1 | h1, h2⟩
    · rw [h1] at h2; exact absurd rfl h2
    · exact h1.1
  · intro hx
    exact ⟨.inr ⟨hx, hn x hx⟩, hn x hx⟩
theorem put_drop {key val : List UInt8} (hk : key.length = 32) {l : List It} (h : Rise l) (h32 : ∀ x ∈ l, x.1.length = 32) (hm : (key, val) ∈ l) : putF key val (dropF key l) = l := by
  refine rise_ext ((h.drop key).put key val) h fun x => ?_
  rw [mem_putF hk (fun x hx => h32 x ((mem_dropF x).1 hx).1), mem_dropF]
  constructor
  · rintro (h1 | h1)
    · rw [h1]; exact hm
    · exact h1.1.1
  · intro hx
    by_cases e : x.1 = key
    · left
      have hu := (h.good h32).uniq
      by_cases e2 : x = (key, val)
      · exact e2
      · exfalso
        have hp : ∀ {l : List It}, l.Pairwise (fun x y => x.1 ≠ y.1) → ∀ a ∈ l, ∀ b ∈ l, a ≠ b → a.1 ≠ b.1 := by
          intro l hl
          induction hl with
          | nil => intro a ha; cases ha
          | cons hx' _ ih =>
            intro a ha b hb hab
            rcases List.mem_cons.1 ha with e1 | ha1 <;> rcases List.mem_cons.1 hb with e2 | hb1
            · exact absurd (e1.trans e2.symm) hab
            · rw [e1]; exact hx' b hb1
            · rw [e2]; exact fun e => hx' a ha1 e.symm
            · exact ih a ha1 b hb1 hab
        exact hp hu x hx _ hm e2 e
    · exact .inr ⟨⟨hx, e⟩, e⟩
/-- Two values of one key: the later one. -/
theorem put_put {key v1 v2 : List UInt8} (hk : key.length = 32) {l : List It} (h : Rise l) (h32 : ∀ x ∈ l, x.1.length = 32) : putF key v2 (putF key v1 l) = putF key v2 l := by
  refine rise_ext ((h.put key v1).put key v2) (h.put key v2) fun x => ?_
  rw [mem_putF hk (putF_32 hk h32), mem_putF hk h32, mem_putF hk h32]
  constructor
  · rintro (h1 | ⟨h1 | h1, h2⟩)
    · exact .inl h1
    · rw [h1] at h2; exact absurd rfl h2
    · exact .inr h1
  · rintro (h1 | h1)
    · exact .inl h1
    · exact .inr ⟨.inr h1, h1.2⟩

/-- Where nibbles part, keys part so. -/
theorem lessF_nib {a b : List UInt8} (ha : a.length = 32) (hb : b.length = 32) {t : Nat} (ht : t < 64) (hag : ∀ i, i < t → nibF a i = nibF b i) (hlt : nibF a t < nibF b t) : lessF a b = true := by
  have key : ∀ (n i : Nat), n = t / 2 - i → i ≤ t / 2 → (∀ j, i ≤ j → j < t / 2 → a.getD j 0 = b.getD j 0) → lessF (a.drop i) (b.drop i) = true := by
    intro n
    induction n with
    | zero =>
      intro i hn hi _
      have hit : i = t / 2 := by omega
      rw [lessF_drop (i := i) (by omega) (by omega) rfl rfl]
      have h0 := hag (2 * i)
      unfold nibF at hlt h0
      have hx : (a.getD i 0).toNat < (b.getD i 0).toNat := by
        rcases Nat.mod_two_eq_zero_or_one t with hm | hm
        · rw [if_pos hm, if_pos hm, ← hit] at hlt
          omega
        · rw [if_neg (by omega), if_neg (by omega), ← hit] at hlt
          have := h0 (by omega)
          rw [if_pos (by omega), if_pos (by omega), show 2 * i / 2 = i by omega] at this
          omega
      rw [if_neg (by omega)]
      exact decide_eq_true hx
    | succ n ih =>
      intro i hn hi hj
      rw [lessF_drop (i := i) (by omega) (by omega) rfl rfl, hj i (Nat.le_refl _) (by omega), if_pos rfl]
      exact ih (i + 1) (by omega) (by omega) (fun j h1 h2 => hj j (by omega) h2)
  have h := key (t / 2) 0 (by omega) (Nat.zero_le _) (fun j _ hj => by
    have e0 := hag (2 * j) (by omega)
    have e1 := hag (2 * j + 1) (by omega)
    unfold nibF at e0 e1
    rw [if_pos (by omega), if_pos (by omega), show 2 * j / 2 = j by omega] at e0
    rw [if_neg (by omega), if_neg (by omega), show (2 * j + 1) / 2 = j by omega] at e1
    exact UInt8.toNat_inj.1 (by omega))
  simpa using h
/-- Parts, one behind the other, are the whole. -/
theorem parts_rise {l : List It} (h : Rise l) (h32 : ∀ x ∈ l, x.1.length = 32) {t : Nat} (ht : t < 64) (hag : ∀ i, i < t → agreeF l i = true) : ∀ n : Nat, Rise ((List.range n).flatMap (subF l t)) ∧ ∀ x, x ∈ (List.range n).flatMap (subF l t) ↔ x ∈ l ∧ nibF x.1 t < n
  | 0 => ⟨List.Pairwise.nil, fun x => by simp⟩
  | n + 1 => by
    obtain ⟨h1, h2⟩ := parts_rise h h32 ht hag n
    have e : (List.range (n + 1)).flatMap (subF l t) = (List.range n).flatMap (subF l t) ++ subF l t n := by rw [List.range_succ, List.flatMap_append]; simp
    rw [e]
    refine ⟨?_, fun x => ?_⟩
    · unfold Rise
      rw [List.pairwise_append]
      refine ⟨h1, h.sub t n, fun x hx y hy => ?_⟩
      obtain ⟨x1, x2⟩ := (h2 x).1 hx
      obtain ⟨y1, y2⟩ := mem_subF.1 hy
      exact lessF_nib (h32 x x1) (h32 y y1) ht (fun i hi => agreeF_iff.1 (hag i hi) x x1 y y1) (by omega)
    · rw [List.mem_append, h2, mem_subF]
      constructor
      · rintro (⟨h3, h4⟩ | ⟨h3, h4⟩)
        · exact ⟨h3, by omega⟩
        · exact ⟨h3, by omega⟩
      · rintro ⟨h3, h4⟩
        by_cases hn : nibF x.1 t = n
        · exact .inr ⟨h3, hn⟩
        · exact .inl ⟨h3, by omega⟩
theorem parts_all {l : List It} (h : Rise l) (h32 : ∀ x ∈ l, x.1.length = 32) {t : Nat} (ht : t < 64) (hag : ∀ i, i < t → agreeF l i = true) : (List.range 16).flatMap (subF l t) = l := by
  obtain ⟨h1, h2⟩ := parts_rise h h32 ht hag 16
  refine rise_ext h1 h fun x => ?_
  rw [h2]
  exact ⟨fun h => h.1, fun h => ⟨h, nibF_lt _ _⟩⟩

end Go.Proofs.YtblgmnjegkfoaaaGreat

namespace Go.Proofs.YtblgmnjegkfoaaaGreat
open Go.RowKit
set_option linter.unusedVariables false
set_option linter.unusedSimpArgs false

/-- Two items tell where a row parts. -/
theorem shared_two {l : List It} {t e : Nat} (h1 : t ≤ e) (he : e < 64) (hin : ∀ i, t ≤ i → i < e → agreeF l i = true) {x y : It} (hx : x ∈ l) (hy : y ∈ l) (hxy : nibF x.1 e ≠ nibF y.1 e) : sharedF l t = e := by
  refine sharedF_is h1 (by omega) hin (fun _ => ?_)
  cases h : agreeF l e with
  | false => rfl
  | true => exact absurd (agreeF_iff.1 h x hx y hy) hxy
/-- A branch has items that part. -/
theorem shared_parts {l : List It} {t : Nat} (hs : sharedF l t < 64) : ∃ x ∈ l, ∃ y ∈ l, nibF x.1 (sharedF l t) ≠ nibF y.1 (sharedF l t) := by
  have h := sharedF_end hs
  by_cases hc : ∃ x ∈ l, ∃ y ∈ l, nibF x.1 (sharedF l t) ≠ nibF y.1 (sharedF l t)
  · exact hc
  · rw [agreeF_iff.2 fun x hx y hy => by
      by_cases e : nibF x.1 (sharedF l t) = nibF y.1 (sharedF l t)
      · exact e
      · exact absurd ⟨x, hx, y, hy, e⟩ hc] at h
    cases h
theorem putF_one (key v val : List UInt8) : putF key val [(key, v)] = [(key, val)] := by
  simp [putF, lessF_irrefl]
theorem putF_none (key val : List UInt8) : putF key val [] = [(key, val)] := rfl
theorem putF_ne (key val : List UInt8) (l : List It) : putF key val l ≠ [] := by simp [putF]

/-- Where a key goes on as all items do, up to their place, the place is kept. -/
theorem shared_put {key val : List UInt8} (hk : key.length = 32) {l : List It} (h32 : ∀ x ∈ l, x.1.length = 32) {t : Nat} (hs : sharedF l t < 64) (hkey : ∀ x ∈ l, ∀ i, t ≤ i → i < sharedF l t → nibF x.1 i = nibF key i) : sharedF (putF key val l) t = sharedF l t := by
  obtain ⟨x, hx, y, hy, hxy⟩ := shared_parts hs
  -- one of the two isn't the key, or neither is: two items of the new row part
  have hin : ∀ i, t ≤ i → i < sharedF l t → agreeF (putF key val l) i = true := fun i h1 h2 => agreeF_iff.2 fun a ha b hb => by
    have q : ∀ a ∈ putF key val l, nibF a.1 i = nibF key i := fun a ha => by
      rcases (mem_putF hk h32 a).1 ha with rfl | ⟨h, _⟩
      · rfl
      · exact hkey a h i h1 h2
    rw [q a ha, q b hb]
  have hkp : ((key, val) : It) ∈ putF key val l := (mem_putF hk h32 _).2 (.inl rfl)
  have hget : ∀ a ∈ l, ∃ b ∈ putF key val l, b.1 = a.1 := fun a ha => by
    by_cases e : a.1 = key
    · exact ⟨_, hkp, e.symm⟩
    · exact ⟨a, (mem_putF hk h32 a).2 (.inr ⟨ha, e⟩), rfl⟩
  obtain ⟨x', hx', ex⟩ := hget x hx
  obtain ⟨y', hy', ey⟩ := hget y hy
  exact shared_two (sharedF_ge l t) hs hin hx' hy' (by rw [ex, ey]; exact hxy)
/-- Where it leaves them earlier, that is the place: all of them stand in one part, the key in another one. -/
theorem shared_off {key val : List UInt8} (hk : key.length = 32) {l : List It} (h32 : ∀ x ∈ l, x.1.length = 32) (hr : Rise l) {t e : Nat} (hte : t ≤ e) (he : e < 64) (hl : l ≠ []) (hag : ∀ i, t ≤ i → i ≤ e → agreeF l i = true) (hkey : ∀ x ∈ l, ∀ i, t ≤ i → i < e → nibF x.1 i = nibF key i) (hoff : ∀ x ∈ l, nibF x.1 e ≠ nibF key e) :
    sharedF (putF key val l) t = e ∧ subF (putF key val l) e (nibF key e) = [(key, val)] ∧ (∀ x ∈ l, subF (putF key val l) e (nibF x.1 e) = l) ∧ (∀ n, n ≠ nibF key e → (∀ x ∈ l, n ≠ nibF x.1 e) → subF (putF key val l) e n = []) := by
  obtain ⟨z, hz⟩ := List.exists_mem_of_ne_nil l hl
  have hne : ∀ x ∈ l, x.1 ≠ key := fun x hx e2 => hoff x hx (by rw [e2])
  have hzp : z ∈ putF key val l := (mem_putF hk h32 z).2 (.inr ⟨hz, hne z hz⟩)
  have hkp : ((key, val) : It) ∈ putF key val l := (mem_putF hk h32 _).2 (.inl rfl)
  refine ⟨shared_two hte he (fun i h1 h2 => agreeF_iff.2 fun a ha b hb => ?_) hzp hkp (hoff z hz), ?_, fun x hx => ?_, fun n hn1 hn2 => ?_⟩
  · have q : ∀ a ∈ putF key val l, nibF a.1 i = nibF key i := fun a ha => by
      rcases (mem_putF hk h32 a).1 ha with rfl | ⟨h, _⟩
      · rfl
      · exact hkey a h i h1 h2
    rw [q a ha, q b hb]
  · rw [subF_put hk hr h32, if_pos rfl]
    have : subF l e (nibF key e) = [] := by
      refine List.eq_nil_iff_forall_not_mem.2 fun x hx => ?_
      obtain ⟨h1, h2⟩ := mem_subF.1 hx
      exact hoff x h1 h2
    rw [this]; rfl
  · rw [subF_put hk hr h32, if_neg (fun e2 => hoff x hx e2.symm)]
    refine List.filter_eq_self.2 fun y hy => ?_
    simpa using agreeF_iff.1 (hag e hte (Nat.le_refl _)) y hy x hx
  · rw [subF_put hk hr h32, if_neg (fun e2 => hn1 e2.symm)]
    refine List.eq_nil_iff_forall_not_mem.2 fun x hx => ?_
    obtain ⟨h1, h2⟩ := mem_subF.1 hx
    exact hn2 x h1 h2.symm
/-- A key taken out: where two parts are left, the place is kept. -/
theorem shared_drop {key : List UInt8} {l : List It} {t : Nat} (hs : sharedF l t < 64) {x y : It} (hx : x ∈ dropF key l) (hy : y ∈ dropF key l) (hxy : nibF x.1 (sharedF l t) ≠ nibF y.1 (sharedF l t)) : sharedF (dropF key l) t = sharedF l t :=
  shared_two (sharedF_ge l t) hs (fun i h1 h2 => agreeF_iff.2 fun a ha b hb => agreeF_iff.1 (sharedF_in h1 h2) a ((mem_dropF a).1 ha).1 b ((mem_dropF b).1 hb).1) hx hy hxy
/-- One part alone is the whole. -/
theorem part_whole {l : List It} {e n : Nat} (h : ∀ x ∈ l, nibF x.1 e = n) : subF l e n = l := List.filter_eq_self.2 fun x hx => by simpa using h x hx

/-- The document's put and drop on items are these. -/
theorem putI_items {key : List UInt8} (hk : key.length = 32) (y : Itm) (hy : y.key = key) : ∀ (xs : List Itm), Rise (xs.map Itm.it) → (∀ x ∈ xs, x.key.length = 32) → (putI key y xs).map Itm.it = putF key y.val (xs.map Itm.it) := by
  have step : ∀ (xs : List Itm) (s : List Itm × Bool), Rise (xs.map Itm.it) → (∀ x ∈ xs, x.key.length = 32) → (s.2 = true → ∀ x ∈ xs, lessF key x.key = true ∨ x.key = key) →
      ((xs.foldl (putS key y) s).1 ++ if (xs.foldl (putS key y) s).2 then [] else [y]) = s.1 ++ (if s.2 then xs.filter (fun x => decide (x.key ≠ key)) else xs.filter (fun x => lessF x.key key) ++ y :: xs.filter (fun x => lessF key x.key)) := by
    intro xs
    induction xs with
    | nil => intro s _ _ _; obtain ⟨o, d⟩ := s; cases d <;> simp
    | cons x xs ih =>
      intro s hr h32 hs
      obtain ⟨hx, hr'⟩ := List.pairwise_cons.1 (show ((x.it) :: xs.map Itm.it).Pairwise _ from hr)
      have hlt : ∀ z ∈ xs, lessF x.key z.key = true := fun z hz => hx z.it (List.mem_map.2 ⟨z, hz, rfl⟩)
      have h32' : ∀ z ∈ xs, z.key.length = 32 := fun z hz => h32 z (List.mem_cons_of_mem _ hz)
      rw [List.foldl_cons]
      obtain ⟨o, d⟩ := s
      have e0 : putS key y (o, d) x = (o ++ (if d = false ∧ lessF x.key key = false then [y] else []) ++ (if x.key = key then [] else [x]), d || !lessF x.key key) := rfl
      rw [e0]
      by_cases hc : lessF x.key key = true
      · have hxk : x.key ≠ key := lessF_ne hc
        have hkx : lessF key x.key = false := lessF_anti hc
        cases d with
        | true =>
          rcases hs rfl x (by simp) with h | h
          · rw [h] at hkx; cases hkx
          · exact absurd h hxk
        | false =>
          rw [ih _ hr' h32' (by simp [hc])]
          simp [hc, hxk, hkx]
      · have hc' : lessF x.key key = false := by simpa using hc
        have hge : lessF key x.key = true ∨ x.key = key := by
          by_cases e : x.key = key
          · exact .inr e
          · rcases lessF_tri x.key key ((h32 x (by simp)).trans hk.symm) e with h | h
            · exact absurd h hc
            · exact .inl h
        have hall : ∀ z ∈ xs, lessF key z.key = true := fun z hz => by
          rcases hge with h | h
          · exact lessF_trans _ _ _ h (hlt z hz)
          · rw [← h]; exact hlt z hz
        rw [ih _ hr' h32' (fun _ z hz => .inl (hall z hz))]
        have f1 : xs.filter (fun z => lessF z.key key) = [] := List.filter_eq_nil_iff.2 fun z hz => by rw [lessF_anti (hall z hz)]; simp
        have f2 : xs.filter (fun z => lessF key z.key) = xs := List.filter_eq_self.2 hall
        have f3 : xs.filter (fun z => decide (z.key ≠ key)) = xs := List.filter_eq_self.2 fun z hz => decide_eq_true fun e => lessF_ne (hall z hz) e.symm
        rcases hge with h | h
        · have hxk : x.key ≠ key := fun e => lessF_ne h e.symm
          cases d <;> simp [hc', hxk, h, f1, f2, f3] <;> exact fun a ha e => lessF_ne (hall a ha) e.symm
        · have hxk : lessF key x.key = false := by rw [h]; exact lessF_irrefl key
          cases d <;> simp [hc', h, hxk, f1, f2, f3, lessF_irrefl] <;> exact fun a ha e => lessF_ne (hall a ha) e.symm
  intro xs hr h32
  have h := step xs ([], false) hr h32 (by simp)
  have e : putI key y xs = (xs.foldl (putS key y) ([], false)).1 ++ if (xs.foldl (putS key y) ([], false)).2 then [] else [y] := by
    unfold putI putL
    split <;> simp_all
  rw [e, h]
  unfold putF
  simp only [Bool.false_eq_true, if_false, List.nil_append, List.map_append, List.map_cons, List.filter_map]
  have ey : y.it = (key, y.val) := by rw [← hy]; rfl
  rw [ey]
  rfl
theorem dropI_items (key : List UInt8) (xs : List Itm) : (dropI xs key).map Itm.it = dropF key (xs.map Itm.it) := by
  unfold dropI dropF
  rw [List.filter_map]
  congr 1

end Go.Proofs.YtblgmnjegkfoaaaGreat

namespace Go.Proofs.YtblgmnjegkfoaaaGreat
open Go.RowKit
set_option linter.unusedVariables false
set_option linter.unusedSimpArgs false

/-- A node: its items, where it begins, the key that stands in it; a leaf's value, as a slice; a branch's row of nodes, and what stands in that. -/
structure Nd where
  l : List It
  f : Nat
  key : List UInt8
  adr : Option Addr
  len : Nat
  cap : Nat
  arr : Nat
  kids : List (Option Addr)
abbrev Wood := Nat → Option Nd
/-- A leaf's items, and its value. -/
structure LeafAt (w : World) (n : Nd) : Prop where
  one : ∃ val : List UInt8, n.l = [(n.key, val)] ∧ val.length = n.len ∧ Bs w w.heap.size n.adr val
  le : n.len ≤ n.cap
  lim : n.cap ≤ maxLen
/-- A branch's items, and the nodes of its parts. -/
structure BranchAt (M : Wood) (w : World) (b : Nat) (n : Nd) : Prop where
  two : 2 ≤ n.l.length
  way : ∀ x ∈ n.l, ∀ i, i < sharedF n.l n.f → nibF x.1 i = nibF n.key i
  ne : n.arr ≠ b
  k16 : n.kids.length = 16
  row : Arr w n.arr 132 (n.kids.map .pointer)
  off : ∀ i, i < 16 → subF n.l (sharedF n.l n.f) i = [] → n.kids[i]? = some none
  on : ∀ i, i < 16 → subF n.l (sharedF n.l n.f) i ≠ [] → ∃ b' n', n.kids[i]? = some (some ⟨b', 0, none⟩) ∧ M b' = some n' ∧ n'.l = subF n.l (sharedF n.l n.f) i ∧ n'.f = sharedF n.l n.f + 1
/-- A node in a block. -/
structure NdAt (M : Wood) (w : World) (b : Nat) (n : Nd) : Prop where
  k32 : n.key.length = 32
  rise : Rise n.l
  l32 : ∀ x ∈ n.l, x.1.length = 32
  vals : ∀ x ∈ n.l, x.2.length ≤ 1000
  f64 : n.f ≤ 64
  agree : ∀ i, i < n.f → agreeF n.l i = true
  cells : ∃ (d s : Int) (dig : List UInt8), dig.length = 32 ∧ (d = 0 ∨ (d = 1 ∧ dig = nodeD n.l n.f)) ∧
    ((Arr w b 87 (nodeC n.key (n.f : Nat) 64 (.slice n.adr n.len n.cap) (.pointer none) d 0 s dig) ∧ LeafAt w n) ∨
      (Arr w b 87 (nodeC n.key (n.f : Nat) (sharedF n.l n.f : Nat) (.slice none 0 0) (.pointer (some ⟨n.arr, 0, none⟩)) d 0 s dig) ∧ BranchAt M w b n))
def Stand (M : Wood) (w : World) : Prop := ∀ b n, M b = some n → NdAt M w b n
/-- The blocks that a wood is of. -/
def Foot (M : Wood) (k : Nat) : Prop := ∃ b n, M b = some n ∧ (k = b ∨ k = n.arr ∨ ∃ a : Addr, n.adr = some a ∧ 0 < n.len ∧ k = a.block)
def Wood.le (M M' : Wood) : Prop := ∀ b n, M b = some n → M' b = some n

/-- What turns none of its blocks keeps a wood. -/
theorem Stand.only {M : Wood} {w w' : World} {R : Nat → Prop} (h : Stand M w) (ho : Only R w w') (hR : ∀ k, Foot M k → ¬ R k) : Stand M w' := fun b n hb => by
  have hn := h b n hb
  have keep : ∀ g T cs, Arr w g T cs → ¬ R g → Arr w' g T cs := fun g T cs ha hg => (ho.block g (Array.getElem?_eq_some_iff.1 ha).1 hg).trans ha
  obtain ⟨d, s, dig, hd, hs, hc⟩ := hn.cells
  refine ⟨hn.k32, hn.rise, hn.l32, hn.vals, hn.f64, hn.agree, d, s, dig, hd, hs, ?_⟩
  rcases hc with ⟨ha, hl⟩ | ⟨ha, hr⟩
  · refine .inl ⟨keep _ _ _ ha (hR b ⟨b, n, hb, .inl rfl⟩), ?_, hl.le, hl.lim⟩
    obtain ⟨val, h1, h2, h3⟩ := hl.one
    refine ⟨val, h1, h2, fun hp => ?_⟩
    obtain ⟨k, off, e, hlt, hcell⟩ := h3 hp
    refine ⟨k, off, e, Nat.lt_of_lt_of_le hlt ho.size, fun j hj => ?_⟩
    rw [← hcell j hj]
    exact World.cell?_of_block (ho.block k hlt (hR k ⟨b, n, hb, .inr (.inr ⟨_, e, by omega, rfl⟩)⟩))
  · exact .inr ⟨keep _ _ _ ha (hR b ⟨b, n, hb, .inl rfl⟩), hr.two, hr.way, hr.ne, hr.k16, keep _ _ _ hr.row (hR _ ⟨b, n, hb, .inr (.inl rfl)⟩), hr.off, hr.on⟩

theorem BranchAt.more {M M' : Wood} {w : World} {b : Nat} {n : Nd} (h : BranchAt M w b n) (hM : M.le M') : BranchAt M' w b n :=
  ⟨h.two, h.way, h.ne, h.k16, h.row, h.off, fun i hi he => by obtain ⟨b', n', h1, h2, h3⟩ := h.on i hi he; exact ⟨b', n', h1, hM b' n' h2, h3⟩⟩
theorem NdAt.more {M M' : Wood} {w : World} {b : Nat} {n : Nd} (h : NdAt M w b n) (hM : M.le M') : NdAt M' w b n := by
  obtain ⟨d, s, dig, hd, hs, hc⟩ := h.cells
  refine ⟨h.k32, h.rise, h.l32, h.vals, h.f64, h.agree, d, s, dig, hd, hs, ?_⟩
  rcases hc with hc | ⟨ha, hr⟩
  · exact .inl hc
  · exact .inr ⟨ha, hr.more hM⟩
def Wood.set (M : Wood) (b : Nat) (n : Nd) : Wood := fun k => if k = b then some n else M k
theorem Wood.set_le {M : Wood} {b : Nat} (n : Nd) (h : M b = none) : M.le (M.set b n) := fun k n' hk => by
  unfold Wood.set
  rw [if_neg (fun e => by rw [e, h] at hk; cases hk)]
  exact hk
theorem Wood.set_at (M : Wood) (b : Nat) (n : Nd) : M.set b n b = some n := if_pos rfl
theorem Wood.le_refl (M : Wood) : M.le M := fun _ _ h => h
theorem Wood.le_trans {M M' M'' : Wood} (h : M.le M') (k : M'.le M'') : M.le M'' := fun b n hb => k b n (h b n hb)
/-- One more node. -/
theorem Stand.add {M : Wood} {w : World} {b : Nat} {n : Nd} (h : Stand M w) (hb : M b = none) (hn : NdAt M w b n) : Stand (M.set b n) w := fun k n' hk => by
  have hle := Wood.set_le n hb
  by_cases e : k = b
  · subst e
    rw [Wood.set_at] at hk
    injection hk with hk
    subst hk
    exact hn.more hle
  · unfold Wood.set at hk
    rw [if_neg e] at hk
    exact (h k n' hk).more hle
theorem NdAt.lt {M : Wood} {w : World} {b : Nat} {n : Nd} (h : NdAt M w b n) : b < w.heap.size := by
  obtain ⟨d, s, dig, _, _, hc⟩ := h.cells
  rcases hc with ⟨ha, _⟩ | ⟨ha, _⟩ <;> exact ha.lt
theorem Stand.fresh {M : Wood} {w : World} {b : Nat} (h : Stand M w) (hb : w.heap.size ≤ b) : M b = none := by
  cases e : M b with
  | none => rfl
  | some n => have := (h b n e).lt; omega

/-- A new leaf. -/
theorem NdAt.leaf (M : Wood) {w : World} {b : Nat} {key val : List UInt8} {f n c : Nat} {A : Option Addr} (hk : key.length = 32) (hf : f ≤ 64) (hn : val.length = n) (hc : n ≤ c) (hm : c ≤ maxLen) (hv : val.length ≤ 1000) (hb : Bs w w.heap.size A val)
    (ha : Arr w b 87 (nodeC key (f : Nat) 64 (.slice A n c) (.pointer none) 0 0 0 z32)) : NdAt M w b ⟨[(key, val)], f, key, A, n, c, b, []⟩ := by
  refine ⟨hk, List.pairwise_singleton _ _, fun x hx => ?_, fun x hx => ?_, hf, fun i _ => ?_, 0, 0, z32, by simp [z32], .inl rfl, .inl ⟨ha, ⟨val, rfl, hn, hb⟩, hc, hm⟩⟩
  · rw [List.mem_singleton] at hx; subst hx; exact hk
  · rw [List.mem_singleton] at hx; subst hx; exact hv
  · exact agreeF_iff.2 fun x hx y hy => by
      rw [List.mem_singleton] at hx hy
      rw [hx, hy]
/-- The node of the same items, begun elsewhere. -/
theorem NdAt.begun {M : Wood} {w : World} {b b' : Nat} {n : Nd} (h : NdAt M w b n) {f' : Nat} (hf : f' ≤ 64) (hag : ∀ i, i < f' → agreeF n.l i = true) (hsh : 2 ≤ n.l.length → sharedF n.l f' = sharedF n.l n.f) (hne : b' ≠ n.arr)
    (ha : ∀ (t : Int) (vv nn : Value) (d s : Int) (dig : List UInt8), Arr w b 87 (nodeC n.key (n.f : Nat) t vv nn d 0 s dig) → Arr w b' 87 (nodeC n.key (f' : Nat) t vv nn 0 0 0 z32)) : NdAt M w b' { n with f := f' } := by
  obtain ⟨d, s, dig, hd, hs, hc⟩ := h.cells
  refine ⟨h.k32, h.rise, h.l32, h.vals, hf, hag, 0, 0, z32, by simp [z32], .inl rfl, ?_⟩
  rcases hc with ⟨h1, h2⟩ | ⟨h1, h2⟩
  · exact .inl ⟨ha _ _ _ _ _ _ h1, h2.one, h2.le, h2.lim⟩
  · have e := hsh h2.two
    refine .inr ⟨?_, ?_⟩
    · show Arr w b' _ (nodeC n.key (f' : Nat) (sharedF n.l f' : Nat) (.slice none 0 0) _ 0 0 0 z32)
      rw [e]
      exact ha _ _ _ _ _ _ h1
    · refine ⟨h2.two, ?_, fun q => hne q.symm, h2.k16, h2.row, ?_, ?_⟩
      · show ∀ x ∈ n.l, ∀ i, i < sharedF n.l f' → _
        rw [e]; exact h2.way
      · show ∀ i, i < 16 → subF n.l (sharedF n.l f') i = [] → _
        rw [e]; exact h2.off
      · show ∀ i, i < 16 → subF n.l (sharedF n.l f') i ≠ [] → ∃ b' n', n.kids[i]? = some (some ⟨b', 0, none⟩) ∧ M b' = some n' ∧ n'.l = subF n.l (sharedF n.l f') i ∧ n'.f = sharedF n.l f' + 1
        rw [e]; exact h2.on

/-- A branch in which another node, or none, stands for a nibble. -/
theorem NdAt.put {M : Wood} {w : World} {b b' g' : Nat} {n : Nd} (h : NdAt M w b n) (h2 : 2 ≤ n.l.length) {L : List It} (hr : Rise L) (h32 : ∀ x ∈ L, x.1.length = 32) (hv : ∀ x ∈ L, x.2.length ≤ 1000) (hag : ∀ i, i < n.f → agreeF L i = true) (hL2 : 2 ≤ L.length) {sh at' : Nat} (hs : sharedF n.l n.f = sh) (hsh : sharedF L n.f = sh) (hat : at' < 16)
    (hkey : ∀ x ∈ L, ∀ i, i < sh → nibF x.1 i = nibF n.key i) (hoff : ∀ i, i < 16 → i ≠ at' → subF L sh i = subF n.l sh i) (kid : Option Addr) (hkid : (subF L sh at' = [] ∧ kid = none) ∨ (subF L sh at' ≠ [] ∧ ∃ c n', kid = some ⟨c, 0, none⟩ ∧ M c = some n' ∧ n'.l = subF L sh at' ∧ n'.f = sh + 1)) (hne : g' ≠ b')
    (ha : Arr w b' 87 (nodeC n.key (n.f : Nat) (sh : Nat) (.slice none 0 0) (.pointer (some ⟨g', 0, none⟩)) 0 0 0 z32)) (hrow : Arr w g' 132 ((n.kids.set at' kid).map .pointer)) : NdAt M w b' ⟨L, n.f, n.key, none, 0, 0, g', n.kids.set at' kid⟩ := by
  obtain ⟨d, s, dig, hd, hs', hc⟩ := h.cells
  rcases hc with ⟨_, hl⟩ | ⟨_, hb⟩
  · obtain ⟨val, e, _⟩ := hl.one
    rw [e] at h2
    simp at h2
  · refine ⟨h.k32, hr, h32, hv, h.f64, hag, 0, 0, z32, by simp [z32], .inl rfl, .inr ⟨?_, ?_⟩⟩
    · show Arr w b' _ (nodeC n.key (n.f : Nat) (sharedF L n.f : Nat) (.slice none 0 0) _ 0 0 0 z32)
      rw [hsh]; exact ha
    · have k16 := hb.k16
      have ho := hb.off
      have hn := hb.on
      rw [hs] at ho hn
      refine ⟨hL2, ?_, hne, by show (n.kids.set at' kid).length = 16; rw [List.length_set]; exact k16, hrow, ?_, ?_⟩
      · show ∀ x ∈ L, ∀ i, i < sharedF L n.f → _
        rw [hsh]; exact hkey
      · show ∀ i, i < 16 → subF L (sharedF L n.f) i = [] → (n.kids.set at' kid)[i]? = some none
        rw [hsh]
        intro i hi he
        by_cases hia : i = at'
        · subst hia
          rcases hkid with ⟨_, rfl⟩ | ⟨h0, _⟩
          · rw [List.getElem?_set_self (by omega)]
          · exact absurd he h0
        · rw [List.getElem?_set_ne (fun q => hia q.symm)]
          exact ho i hi (by rw [← hoff i hi hia]; exact he)
      · show ∀ i, i < 16 → subF L (sharedF L n.f) i ≠ [] → ∃ c n', (n.kids.set at' kid)[i]? = some (some ⟨c, 0, none⟩) ∧ M c = some n' ∧ n'.l = subF L (sharedF L n.f) i ∧ n'.f = sharedF L n.f + 1
        rw [hsh]
        intro i hi he
        by_cases hia : i = at'
        · subst hia
          rcases hkid with ⟨h0, _⟩ | ⟨_, c, n', rfl, k2, k3, k4⟩
          · exact absurd h0 he
          · exact ⟨c, n', List.getElem?_set_self (by omega), k2, k3, k4⟩
        · rw [List.getElem?_set_ne (fun q => hia q.symm), hoff i hi hia]
          exact hn i hi (by rw [← hoff i hi hia]; exact he)

end Go.Proofs.YtblgmnjegkfoaaaGreat

namespace Go.Proofs.YtblgmnjegkfoaaaGreat
open Go.RowKit
set_option linter.unusedVariables false
set_option linter.unusedSimpArgs false

theorem rnib_atI (key : List UInt8) (hk : key.length = 32) (KL : List Value) (hKL : KL = Lib.byteCells key) (i : Nat) (hi : i < 64) (r : Nat) (hr : nibF key i = r) (w : World) :
    Calls Tryz.prog 35 #[.agg KL.toArray, .int .i64 (i : Nat)] w fun e w' => e = .returned (.int .u8 (r : Nat)) ∧ Below w.heap.size w w' :=
  rnibble_run key hk KL hKL i hi _ rfl r (by rw [← hr]; rfl) w
/-- The items with a nibble at a place. -/
def partI (xs : List Itm) (t m : Nat) : List Itm := xs.filter fun x => nibF x.key t == m
theorem partI_take {xs : List Itm} {i : Nat} {x : Itm} (h : xs[i]? = some x) (t m : Nat) : partI (xs.take (i + 1)) t m = partI (xs.take i) t m ++ if nibF x.key t = m then [x] else [] := by
  obtain ⟨hi, he⟩ := List.getElem?_eq_some_iff.1 h
  unfold partI
  rw [List.take_succ_eq_append_getElem hi, List.filter_append, he]
  congr 1
  by_cases e : nibF x.key t = m
  · rw [if_pos e]; simp [e]
  · rw [if_neg e]; simp [e]
theorem partI_len (xs : List Itm) (t m : Nat) : (partI xs t m).length ≤ xs.length := List.length_filter_le _ _

set_option maxHeartbeats 8000000 in
set_option maxRecDepth 100000 in
theorem part_run (xs : List Itm) (A : Option Addr) (n c t m : Nat) (w : World) (hn : xs.length = n) (hc : n ≤ c) (hm : n ≤ 100000) (ht : t < 64) (hm16 : m < 256) (hIt : ItsAt w A xs) :
    Calls Tryz.prog 34 #[.slice A n c, .int .i64 (t : Nat), .int .u8 (m : Nat)] w fun e w' => ∃ v, e = .returned v ∧ IRow w' w.heap.size v (partI xs t m) ∧ Below w.heap.size w w' := by
  obtain ⟨W2, hW2⟩ : ∃ W2, W2 = w.alloc (.cells #[] 40) := ⟨_, rfl⟩
  have hO2 : IRow W2 w.heap.size (.slice (some ⟨w.heap.size, 0, none⟩) 0 0) (partI (xs.take 0) t m) := by rw [hW2]; exact IRow.empty w _ (Nat.le_refl _)
  have hb2 : Below w.heap.size w W2 := by rw [hW2]; exact (Below.refl _ w).alloc (Nat.le_refl _) _
  have HIt := Lib.hid hIt
  have HW2 := Lib.hid hW2
  have Hn := Lib.hid hn
  clear hW2 hn hIt
  go_enter Tryz.func34, Tryz.ntmps34
  go_upto_region 2 with fail
  change Code.wp _ _ _ _ (w.alloc (.cells #[] 40))
  rw [← HW2.out]
  clear HW2
  go_upto_region 3 with fail
  go_loopw [7, 8] (fun v s wr => ∃ i : Nat, i ≤ n ∧ s = .int .i64 i ∧ Below w.heap.size w wr ∧ IRow wr w.heap.size v (partI (xs.take i) t m)) (fun _ s _ => n - (intOf s).toNat)
  case atStart => exact ⟨0, by omega, rfl, hb2, hO2⟩
  case round =>
    clear hb2 hO2
    obtain ⟨i, hin, rfl, hbr, hO⟩ := hrel
    have hItr := HIt.out.up hbr
    by_cases hlt : i < n
    · have hd1 : decide (i < n) = true := by simpa using hlt
      obtain ⟨x, hx⟩ : ∃ x, xs[i]? = some x := ⟨xs[i]'(by rw [Hn.out]; exact hlt), List.getElem?_eq_getElem _⟩
      obtain ⟨b, off, hAe, hbl, hrow⟩ := hItr (by rw [Hn.out]; omega)
      obtain ⟨hxk, hrg⟩ := hrow i x hx
      have Hrow := Lib.hid hrow
      have HAe := Lib.hid hAe
      obtain ⟨YL, hYL⟩ : ∃ YL, YL = Lib.byteCells x.key := ⟨_, rfl⟩
      have hrk := ItsAt.key hrg YL hYL
      have HYi := Lib.hid (show (Tryz.prog.info? 24).map (·.size) = some YL.length by rw [hYL, Lib.byteCells_length, hxk]; kernel_rfl)
      have Hx := Lib.hid hx
      have HYL := Lib.hid hYL
      have Hxk := Lib.hid hxk
      have Hstep := Lib.hid (partI_take hx t m)
      obtain ⟨y, hy⟩ : ∃ y, nibF x.key t = y := ⟨_, rfl⟩
      have Hy := Lib.hid hy
      obtain ⟨VL, hVL⟩ : ∃ VL, VL = itC x := ⟨_, rfl⟩
      have hVl : VL.length = 33 := by rw [hVL, itC_length hxk]
      have HVi := Lib.hid (show (Tryz.prog.info? 40).map (·.size) = some VL.length by rw [hVl]; exact itSize)
      rw [← hVL] at hrg
      have HVL := Lib.hid hVL
      have HVl := Lib.hid hVl
      have hlen : (partI (xs.take i) t m).length ≤ 1000000 := by
        have h1 := partI_len (xs.take i) t m
        rw [List.length_take] at h1
        omega
      have Hlen := Lib.hid hlen
      subst hAe
      clear hx hrow hxk hYL hVL hVl hlen hy
      go_wp2_with (refine wpList_load_mid rfl _ _ rfl b (off + i * 33) rfl YL _ hrk Tryz.underlying24 rfl HYi.out ?_)
      go_at_call 35
      refine Calls.mono (rnib_atI x.key Hxk.out YL HYL.out t ht y Hy.out wr) ?_
      rintro e wx ⟨rfl, hbrx⟩
      have hbx : Below w.heap.size w wx := hbr.trans (hbrx.mono hbr.size)
      have hOx := hO.up hbrx
      have hrgx : wx.rangeAt b (off + i * 33) VL := fun j v hj => by
        rw [← hrg j v hj]
        exact World.cell?_of_block (hbrx.block b hbl)
      clear hbr hO hItr hbrx hrg hrk hbl
      dsimp only
      by_cases hym : y = m
      · have Hym := Lib.hid hym
        have hd2 : ((y : Int) == (m : Int)) = true := by rw [beq_iff_eq]; omega
        clear hym
        obtain ⟨wl, hwl⟩ : ∃ W, W = wx.alloc (.cells VL.toArray 40) := ⟨_, rfl⟩
        have hVg : Arr wl wx.heap.size 40 VL := by rw [hwl]; exact Arr.new wx _ _
        have hblx : Below wx.heap.size wx wl := by rw [hwl]; exact (Below.refl _ wx).alloc (Nat.le_refl _) _
        have hOl := hOx.up hblx
        have Hwl := Lib.hid hwl
        clear hwl hOx
        go_wp2_with (first
          | (refine wpList_load_mid rfl _ _ rfl b (off + i * 33) rfl VL _ hrgx Tryz.underlying40 rfl HVi.out ?_)
          | (refine wpList_build_it rfl _ rfl VL HVl.out rfl ?_; rw [← Hwl.out])
          | (at_builtin; refine wpList_append_it rfl _ _ rfl hOl (Nat.le_trans hbx.size hblx.size) rfl wx.heap.size 1 rfl x Hxk.out VL HVL.out hVg Hlen.out ?_; intro v' w1 hO1 hg1; have hlt1 : ∀ k, Value.ownBlock _ = some k → w.heap.size ≤ k ∧ k < wl.heap.size := hOl.lt))
        have hb1 : Below w.heap.size w w1 := hbx.trans ((hblx.mono hbx.size).trans ((Below.refl _ _).grown hg1 (Nat.le_trans hbx.size hblx.size) (fun k hk => (hOl.lt k hk).1)))
        rw [show partI (xs.take i) t m ++ [x] = partI (xs.take (i + 1)) t m by rw [Hstep.out, if_pos (by rw [Hy.out, Hym.out])]] at hO1
        go_roundw
        case rel => exact ⟨i + 1, by omega, by go_num, hb1, hO1⟩
        case measure => simp [intOf]; omega
      · have hd2 : ((y : Int) == (m : Int)) = false := by rw [beq_eq_false_iff_ne]; omega
        rw [show partI (xs.take i) t m = partI (xs.take (i + 1)) t m by rw [Hstep.out, if_neg (by rw [Hy.out]; exact hym), List.append_nil]] at hOx
        go_wp2_with fail
        go_roundw
        case rel => exact ⟨i + 1, by omega, by go_num, hbx, hOx⟩
        case measure => simp [intOf]; omega
    · obtain rfl : i = n := by omega
      have hd1 : decide (i < i) = false := by simp
      rw [List.take_of_length_le (by rw [Hn.out]; exact Nat.le_refl _)] at hO
      go_wp2_with fail
      go_ret
      exact ⟨_, rfl, hO, hbr⟩

end Go.Proofs.YtblgmnjegkfoaaaGreat

namespace Go.Proofs.YtblgmnjegkfoaaaGreat
open Go.RowKit
set_option linter.unusedVariables false
set_option linter.unusedSimpArgs false

set_option maxHeartbeats 8000000 in
set_option maxRecDepth 100000 in
theorem rest_run (key : List UInt8) (hk : key.length = 32) (KL : List Value) (hKL : KL = Lib.byteCells key) (t u : Nat) (htu : t ≤ u) (hu : u ≤ 64) (w : World) :
    Calls Tryz.prog 33 #[.agg KL.toArray, .int .i64 (t : Nat), .int .i64 (u : Nat)] w fun e w' => ∃ v, e = .returned v ∧ Owns w' w.heap.size 5 v (restF key t u) ∧ Below w.heap.size w w' := by
  obtain ⟨i0, hi, hz0, hz1, hz2⟩ := info_parts byteInfo
  obtain ⟨W1, hW1⟩ : ∃ W1, W1 = w.alloc (.cells KL.toArray 24) := ⟨_, rfl⟩
  have hK1 : Arr W1 w.heap.size 24 KL := by rw [hW1]; exact Arr.new w _ _
  have hb1 : Below w.heap.size w W1 := by rw [hW1]; exact (Below.refl _ w).alloc (Nat.le_refl _) _
  have HW1 := Lib.hid hW1
  have HKi := Lib.hid (show (Tryz.prog.info? 24).map (·.size) = some KL.length by rw [hKL, Lib.byteCells_length, hk]; kernel_rfl)
  obtain ⟨W2, hW2⟩ : ∃ W2, W2 = W1.alloc (.cells #[] 5) := ⟨_, rfl⟩
  obtain ⟨g2, hg2⟩ : ∃ g2, g2 = W1.heap.size := ⟨_, rfl⟩
  have hO2 : Owns W2 (w.heap.size + 1) 5 (.slice (some ⟨g2, 0, none⟩) 0 0) (restF key t t) := by
    rw [hW2, hg2, show restF key t t = [] by simp [restF]]
    exact ⟨by simp [Lib.byteCells], .inr ⟨W1.heap.size, 0, #[], rfl, hK1.lt, heap_alloc_new W1 _, Nat.le_refl _, by unfold maxLen; omega, by simp, by simp [Lib.byteCells]⟩⟩
  have hK2 : Arr W2 w.heap.size 24 KL := by rw [hW2]; exact hK1.alloc _
  have hb2 : Below w.heap.size w W2 := by rw [hW2]; exact hb1.alloc hb1.size _
  have HW2 := Lib.hid hW2
  have Hg2 := Lib.hid hg2
  have HKL := Lib.hid hKL
  clear hW1 hW2 hg2 hKL hK1 hb1
  go_enter Tryz.func33, Tryz.ntmps33
  go_upto_region 1 with fail
  change Code.wp _ _ _ _ (w.alloc (.cells KL.toArray 24))
  rw [← HW1.out]
  clear HW1
  go_upto_region 2 with fail
  rw [← Hg2.out]
  change Code.wp _ _ _ _ (W1.alloc (.cells #[] 5))
  rw [← HW2.out]
  clear HW2 Hg2
  go_upto_region 3 with fail
  go_loopw [7, 8] (fun v s wr => ∃ i : Nat, t ≤ i ∧ i ≤ u ∧ s = .int .i64 i ∧ Arr wr w.heap.size 24 KL ∧ Below w.heap.size w wr ∧ Owns wr (w.heap.size + 1) 5 v (restF key t i)) (fun _ s _ => u - (intOf s).toNat)
  case atStart => exact ⟨t, Nat.le_refl _, htu, rfl, hK2, hb2, hO2⟩
  case round =>
    clear hK2 hb2 hO2
    obtain ⟨i, hti, hiu, rfl, hKr, hbr, hO⟩ := hrel
    have hrl := restF_length key t i
    by_cases hlt : i < u
    · have hd1 : decide (i < u) = true := by simpa using hlt
      obtain ⟨y, hy⟩ : ∃ y, nibF key i = y := ⟨_, rfl⟩
      have hy16 : y < 16 := by rw [← hy]; exact nibF_lt _ _
      have Hy := Lib.hid hy
      have hri := hKr.range
      clear hy
      go_wp2_with (refine wpList_load_mid rfl _ _ rfl w.heap.size 0 rfl KL _ hri Tryz.underlying24 rfl HKi.out ?_)
      go_at_call 35
      refine Calls.mono (rnib_atI key hk KL HKL.out i (by omega) y Hy.out wr) ?_
      rintro e wx ⟨rfl, hbrx⟩
      have hbx : Below w.heap.size w wx := hbr.trans (hbrx.mono hbr.size)
      have hKx := hKr.up hbrx
      have hOx := hO.below hbrx (fun k hk => (hO.lt k hk).2)
      clear hri hbrx hbr hO hKr
      dsimp only
      go_wp2_with (at_builtin; refine wpList_append_own_at _ rfl _ _ 38 rfl (w.heap.size + 1) 5 i0 (.int .u8 0) 1 1 Tryz.underlying38 hi hz0 hz1 hz2 rfl (by decide) _ _ _ rfl (World.ownsRow.alloc hOx _) ⟨wx.heap.size, 0, none⟩ 1 1 [Value.int .u8 (y : Nat)] rfl rfl ?c1 ?c2 ?c3 ?c4 ?c5 ?_)
      case c1 =>
        intro j u hj
        match j, hj with
        | 0, hj => simp at hj; subst hj; simp [Addr.add]
      case c2 => intro u hu; simp at hu; subst hu; rfl
      case c3 => unfold maxLen; omega
      case c4 => omega
      case c5 => have := hKx.lt; simp; omega
      intro v' w1 hown' hgrow _ hplace
      have hbn : Below w.heap.size w w1 := (hbx.alloc hbx.size _).grown hgrow (by have := hbx.size; simp; omega) (fun k hk => by have := (hOx.lt k hk).1; omega)
      have hon : Owns w1 (w.heap.size + 1) 5 v' (restF key t (i + 1)) := by
        rw [restF_snoc key hti, Hy.out]
        exact Owns.snoc (by omega) (by rw [hrl]) rfl hown'
      have hK1 : Arr w1 w.heap.size 24 KL := (hgrow.block w.heap.size (by have := hKx.lt; simp; omega) (fun e => by have := (hOx.lt _ e.symm).1; omega)).trans (hKx.alloc _)
      clear hOx hown' hgrow hplace hbx hKx
      go_wp2
      go_roundw
      case rel => exact ⟨i + 1, by omega, by omega, by go_num, hK1, hbn, hon⟩
      case measure => simp [intOf]; omega
    · obtain rfl : i = u := by omega
      have hd1 : decide (i < i) = false := by simp
      go_wp2_with fail
      go_ret
      exact ⟨_, rfl, hO.base (Nat.le_succ _), hbr⟩

end Go.Proofs.YtblgmnjegkfoaaaGreat

namespace Go.Proofs.YtblgmnjegkfoaaaGreat
open Go.RowKit
set_option linter.unusedVariables false
set_option linter.unusedSimpArgs false

theorem sharedN_yes {l : List It} {u : Nat} (h : u < 64) (ha : agreeF l u = true) : sharedN l (64 - u) u = sharedN l (64 - (u + 1)) (u + 1) := by
  rw [show 64 - u = (64 - (u + 1)) + 1 by omega]
  conv => lhs; unfold sharedN
  rw [if_pos ha]
theorem sharedN_no {l : List It} {u : Nat} (h : u < 64) (ha : agreeF l u = false) : sharedN l (64 - u) u = u := by
  rw [show 64 - u = (64 - (u + 1)) + 1 by omega]
  unfold sharedN
  rw [ha]
  simp
/-- Up to which place all keys have the same nibbles. -/
def sharedI (xs : List Itm) (t : Nat) : Nat := sharedF (xs.map Itm.it) t
theorem agree_no {xs : List Itm} {x0 x : Itm} {i u : Nat} (h0 : xs[0]? = some x0) (hx : xs[i]? = some x) (h : nibF x.key u ≠ nibF x0.key u) : agreeF (xs.map Itm.it) u = false := by
  cases hq : agreeF (xs.map Itm.it) u with
  | false => rfl
  | true =>
    exfalso
    exact h (agreeF_iff.1 hq x.it (List.mem_map.2 ⟨x, List.mem_of_getElem? hx, rfl⟩) x0.it (List.mem_map.2 ⟨x0, List.mem_of_getElem? h0, rfl⟩))
theorem agree_yes {xs : List Itm} {x0 : Itm} {u : Nat} (h : ∀ (i : Nat) (x : Itm), xs[i]? = some x → nibF x.key u = nibF x0.key u) : agreeF (xs.map Itm.it) u = true := by
  rw [agreeF_iff]
  intro a ha b hb
  obtain ⟨x, hx, rfl⟩ := List.mem_map.1 ha
  obtain ⟨y, hy, rfl⟩ := List.mem_map.1 hb
  obtain ⟨i, hi⟩ := List.getElem?_of_mem hx
  obtain ⟨j, hj⟩ := List.getElem?_of_mem hy
  show nibF x.key u = nibF y.key u
  rw [h i x hi, h j y hj]

set_option maxHeartbeats 8000000 in
set_option maxRecDepth 100000 in
theorem shared_run (xs : List Itm) (A : Option Addr) (n c t : Nat) (w : World) (hn : xs.length = n) (hn0 : 0 < n) (hc : n ≤ c) (hm : n ≤ 100000) (ht : t ≤ 64) (hIt : ItsAt w A xs) (e0 : Nat) (he0 : sharedI xs t = e0) :
    Calls Tryz.prog 32 #[.slice A n c, .int .i64 (t : Nat)] w fun e w' => e = .returned (.int .i64 (e0 : Nat)) ∧ Below w.heap.size w w' := by
  obtain ⟨x0, hx0⟩ : ∃ x, xs[0]? = some x := ⟨xs[0]'(by omega), List.getElem?_eq_getElem _⟩
  have HIt := Lib.hid hIt
  have Hn := Lib.hid hn
  have Hx0 := Lib.hid hx0
  have He0 : Hid (sharedN (xs.map Itm.it) (64 - t) t = e0) := he0
  clear hn hIt hx0 he0
  go_enter Tryz.func32, Tryz.ntmps32
  go_upto_region 2 with fail
  go_loopw [5] (fun s wr => ∃ u : Nat, t ≤ u ∧ u ≤ 64 ∧ s = .int .i64 u ∧ Below w.heap.size w wr ∧ Hid (sharedN (xs.map Itm.it) (64 - u) u = e0)) (fun s _ => 64 - (intOf s).toNat)
  case atStart => exact ⟨t, Nat.le_refl _, ht, rfl, Below.refl _ _, He0⟩
  case round =>
    obtain ⟨u, htu, hu64, rfl, hbr, He⟩ := hrel
    by_cases hlu : u < 64
    · have hd1 : decide ((u : Int) < (64 : Int)) = true := by simp; omega
      obtain ⟨y0, hy0⟩ : ∃ y, nibF x0.key u = y := ⟨_, rfl⟩
      have Hy0 := Lib.hid hy0
      clear hy0
      obtain ⟨wu, hwu⟩ : ∃ W, W = wr := ⟨_, rfl⟩
      subst hwu
      go_upto_region 4 with fail
      go_loopw [6] (fun s wr => ∃ i : Nat, i ≤ n ∧ s = .int .i64 i ∧ Below w.heap.size w wr ∧ Hid (∀ j x, j < i → xs[j]? = some x → nibF x.key u = y0)) (fun s _ => n - (intOf s).toNat)
      case atStart => exact ⟨0, by omega, rfl, hbr, fun j x hj => by omega⟩
      case round =>
        clear hbr
        obtain ⟨i, hin, rfl, hbr, Hall⟩ := hrel
        have hItr := HIt.out.up hbr
        by_cases hlt : i < n
        · have hd2 : decide (i < n) = true := by simpa using hlt
          obtain ⟨x, hx⟩ : ∃ x, xs[i]? = some x := ⟨xs[i]'(by rw [Hn.out]; exact hlt), List.getElem?_eq_getElem _⟩
          obtain ⟨b, off, hAe, hbl, hrow⟩ := hItr (by rw [Hn.out]; omega)
          obtain ⟨hxk, hrg⟩ := hrow i x hx
          have Hrow := Lib.hid hrow
          have HAe := Lib.hid hAe
          obtain ⟨YL, hYL⟩ : ∃ YL, YL = Lib.byteCells x.key := ⟨_, rfl⟩
          have hrk := ItsAt.key hrg YL hYL
          have HYi := Lib.hid (show (Tryz.prog.info? 24).map (·.size) = some YL.length by rw [hYL, Lib.byteCells_length, hxk]; kernel_rfl)
          have Hx := Lib.hid hx
          have HYL := Lib.hid hYL
          have Hxk := Lib.hid hxk
          obtain ⟨hxk0, hrg0⟩ := hrow 0 x0 Hx0.out
          rw [Nat.zero_mul, Nat.add_zero] at hrg0
          obtain ⟨ZL, hZL⟩ : ∃ ZL, ZL = Lib.byteCells x0.key := ⟨_, rfl⟩
          have hrk0 : wr.rangeAt b off ZL := by
            have h := ItsAt.key (i := 0) (x := x0) (w := wr) (b := b) (off := off) (by rw [Nat.zero_mul, Nat.add_zero]; exact hrg0) ZL hZL
            rwa [Nat.zero_mul, Nat.add_zero] at h
          have HZi := Lib.hid (show (Tryz.prog.info? 24).map (·.size) = some ZL.length by rw [hZL, Lib.byteCells_length, hxk0]; kernel_rfl)
          have HZL := Lib.hid hZL
          have Hxk0 := Lib.hid hxk0
          obtain ⟨y, hy⟩ : ∃ y, nibF x.key u = y := ⟨_, rfl⟩
          have Hy := Lib.hid hy
          subst hAe
          clear hx hrow hxk hYL hrg hrg0 hxk0 hZL hy hItr
          go_upto_region 6 with fail
          refine wp_region_held_drew (S := fun w' => w'.rangeAt b (off + i * 33) YL ∧ w'.rangeAt b off ZL) (by kernel_rfl) ⟨hrk, hrk0⟩ (fun hHeld => ?_)
          refine anyH_take (i := 0) (v := .slice (some ⟨b, off, none⟩) n c) (some 16) rfl rfl (by kernel_rfl) (by kernel_rfl) (by kernel_rfl) (fun _ _ _ h => h) (Or.inl ⟨by rfl, fun w' hw => by go_simp⟩) (by assumption) ?_
          simp only [Act.put, List.setIfInBounds_toArray, List.set_cons_zero, List.set_cons_succ]
          refine anyH_take (i := 1) (v := .int .i64 (i : Nat)) (some 17) rfl rfl (by kernel_rfl) (by kernel_rfl) (by kernel_rfl) (fun _ _ _ h => h) (Or.inl ⟨by rfl, fun w' hw => by go_simp⟩) (by assumption) ?_
          simp only [Act.put, List.setIfInBounds_toArray, List.set_cons_zero, List.set_cons_succ]
          refine anyH_take (i := 2) (v := .pointer (some ⟨b, off + i * 33, none⟩)) (some 18) rfl rfl (by kernel_rfl) (by kernel_rfl) (by kernel_rfl) (fun _ _ _ h => h) (Or.inl ⟨by rfl, fun w' hw => by (go_simp; try (intro h; omega))⟩) (by assumption) ?_
          simp only [Act.put, List.setIfInBounds_toArray, List.set_cons_zero, List.set_cons_succ]
          refine anyH_take (i := 3) (v := .pointer (some ⟨b, off + i * 33, none⟩)) (some 19) rfl rfl (by kernel_rfl) (by kernel_rfl) (by kernel_rfl) (fun _ _ _ h => h) (Or.inl ⟨by rfl, fun w' hw => by go_simp⟩) (by assumption) ?_
          simp only [Act.put, List.setIfInBounds_toArray, List.set_cons_zero, List.set_cons_succ]
          refine anyH_take (i := 4) (some 20) rfl rfl (by kernel_rfl) (by kernel_rfl) (by kernel_rfl) (fun _ _ _ h => h) (yieldsIf_load_mid (by rfl) 24 (.tmp 19) rfl b (off + i * 33) rfl YL _ (fun w' h => h.1) Tryz.underlying24 rfl HYi.out) (by assumption) ?_
          simp only [Act.put, List.setIfInBounds_toArray, List.set_cons_zero, List.set_cons_succ]
          refine anyH_take (i := 5) (v := .int .i64 (u : Nat)) (some 21) rfl rfl (by kernel_rfl) (by kernel_rfl) (by kernel_rfl) (fun _ _ _ h => h) (Or.inl ⟨by rfl, fun w' hw => by go_simp⟩) (by assumption) ?_
          simp only [Act.put, List.setIfInBounds_toArray, List.set_cons_zero, List.set_cons_succ]
          refine anyH_take (i := 7) (v := .slice (some ⟨b, off, none⟩) n c) (some 23) rfl rfl (by kernel_rfl) (by kernel_rfl) (by kernel_rfl) (fun _ _ _ h => h) (Or.inl ⟨by rfl, fun w' hw => by go_simp⟩) (by assumption) ?_
          simp only [Act.put, List.setIfInBounds_toArray, List.set_cons_zero, List.set_cons_succ]
          refine anyH_take (i := 8) (v := .pointer (some ⟨b, off, none⟩)) (some 24) rfl rfl (by kernel_rfl) (by kernel_rfl) (by kernel_rfl) (fun _ _ _ h => h) (Or.inl ⟨by rfl, fun w' hw => by (go_simp; try (intro h; omega))⟩) (by assumption) ?_
          simp only [Act.put, List.setIfInBounds_toArray, List.set_cons_zero, List.set_cons_succ]
          refine anyH_take (i := 9) (v := .pointer (some ⟨b, off, none⟩)) (some 25) rfl rfl (by kernel_rfl) (by kernel_rfl) (by kernel_rfl) (fun _ _ _ h => h) (Or.inl ⟨by rfl, fun w' hw => by go_simp⟩) (by assumption) ?_
          simp only [Act.put, List.setIfInBounds_toArray, List.set_cons_zero, List.set_cons_succ]
          refine anyH_take (i := 10) (some 26) rfl rfl (by kernel_rfl) (by kernel_rfl) (by kernel_rfl) (fun _ _ _ h => h) (yieldsIf_load_mid (by rfl) 24 (.tmp 25) rfl b off rfl ZL _ (fun w' h => h.2) Tryz.underlying24 rfl HZi.out) (by assumption) ?_
          simp only [Act.put, List.setIfInBounds_toArray, List.set_cons_zero, List.set_cons_succ]
          refine anyH_take (i := 11) (v := .int .i64 (u : Nat)) (some 27) rfl rfl (by kernel_rfl) (by kernel_rfl) (by kernel_rfl) (fun _ _ _ h => h) (Or.inl ⟨by rfl, fun w' hw => by go_simp⟩) (by assumption) ?_
          simp only [Act.put, List.setIfInBounds_toArray, List.set_cons_zero, List.set_cons_succ]
          refine wpAnyH_ready (rs := [6]) (by kernel_rfl) (by simp) ?_
          refine AllReadyH.cons rfl (fun K hK => ?_) AllReadyH.nil
          go_simp
          go_at_call 35
          refine Calls.mono (rnib_atI x.key Hxk.out YL HYL.out u hlu y Hy.out (wr.drewN 1)) ?_
          rintro e wa ⟨rfl, hbwa⟩
          have hbwa : Below wr.heap.size wr wa := ⟨hbwa.os, hbwa.tape, hbwa.output, hbwa.size, hbwa.block⟩
          have hka : wa.rangeAt b (off + i * 33) YL := fun j v hj => by rw [← hrk j v hj]; exact World.cell?_of_block (hbwa.block b hbl)
          have hka0 : wa.rangeAt b off ZL := fun j v hj => by rw [← hrk0 j v hj]; exact World.cell?_of_block (hbwa.block b hbl)
          have hbla : b < wa.heap.size := Nat.lt_of_lt_of_le hbl hbwa.size
          have hba : Below w.heap.size w wa := hbr.trans (hbwa.mono hbr.size)
          clear hbwa hbr hrk hrk0 hbl
          dsimp only
          go_wp2_with fail
          refine hK.out _ _ ⟨hka, hka0⟩ (fun hHeldx => ?_)
          clear hK K
          try simp only [Act.put, List.setIfInBounds_toArray, List.set_cons_zero, List.set_cons_succ]
          refine wpAnyH_ready (rs := [12]) (by kernel_rfl) (by simp) ?_
          refine AllReadyH.cons rfl (fun K hK => ?_) AllReadyH.nil
          go_simp
          go_at_call 35
          refine Calls.mono (rnib_atI x0.key Hxk0.out ZL HZL.out u hlu y0 Hy0.out (wa)) ?_
          rintro e wb ⟨rfl, hbwb⟩
          have hkb : wb.rangeAt b (off + i * 33) YL := fun j v hj => by rw [← hka j v hj]; exact World.cell?_of_block (hbwb.block b hbla)
          have hkb0 : wb.rangeAt b off ZL := fun j v hj => by rw [← hka0 j v hj]; exact World.cell?_of_block (hbwb.block b hbla)
          have hbb : Below w.heap.size w wb := hba.trans (hbwb.mono hba.size)
          clear hbwb hba hka hka0 hbla
          dsimp only
          go_wp2_with fail
          refine hK.out _ _ ⟨hkb, hkb0⟩ (fun hHeldx => ?_)
          clear hK K
          try simp only [Act.put, List.setIfInBounds_toArray, List.set_cons_zero, List.set_cons_succ]
          obtain ⟨r1, hr1⟩ : ∃ r1, ((y : Int) == (y0 : Int)) = r1 := ⟨_, rfl⟩
          cases r1 with
          | true =>
            refine anyH_take (i := 13) (v := .bool false) (some 29) rfl rfl (by kernel_rfl) (by kernel_rfl) (by kernel_rfl) (fun _ _ _ h => h) (Or.inl ⟨by rfl, fun w' hw => by (go_simp; simpa using hr1)⟩) (by assumption) ?_
            simp only [Act.put, List.setIfInBounds_toArray, List.set_cons_zero, List.set_cons_succ]
            refine wpAnyH_done (by kernel_rfl) ?_ _
            clear hHeld hHeldx
            have hyy : y = y0 := by rw [beq_iff_eq] at hr1; omega
            have Hall2 : Hid (∀ j x, j < i + 1 → xs[j]? = some x → nibF x.key u = y0) := fun j x' hj hx' => by
              by_cases e : j = i
              · subst e
                rw [Hx.out] at hx'
                injection hx' with hx'
                rw [← hx', Hy.out, hyy]
              · exact Hall.out j x' (by omega) hx'
            clear Hall hyy
            go_wp2_with fail
            go_roundw
            case rel => exact ⟨i + 1, by omega, by go_num, hbb, Hall2⟩
            case measure => simp [intOf]; omega
          | false =>
            refine anyH_take (i := 13) (v := .bool true) (some 29) rfl rfl (by kernel_rfl) (by kernel_rfl) (by kernel_rfl) (fun _ _ _ h => h) (Or.inl ⟨by rfl, fun w' hw => by (go_simp; simpa using hr1)⟩) (by assumption) ?_
            simp only [Act.put, List.setIfInBounds_toArray, List.set_cons_zero, List.set_cons_succ]
            refine wpAnyH_done (by kernel_rfl) ?_ _
            clear hHeld hHeldx
            have hyy : y ≠ y0 := by rw [beq_eq_false_iff_ne] at hr1; omega
            have hq := He.out
            rw [sharedN_no hlu (agree_no Hx0.out Hx.out (by rw [Hy.out, Hy0.out]; exact hyy))] at hq
            have Hq := Lib.hid hq
            clear hq hyy
            go_wp2_with fail
            go_ret
            exact ⟨by rw [← Hq.out]; rfl, hbb⟩
        · obtain rfl : i = n := by omega
          have hd2 : decide (i < i) = false := by simp
          have hq := He.out
          rw [sharedN_yes hlu (agree_yes (x0 := x0) (fun j x hx => by rw [Hy0.out]; exact Hall.out j x (by have := (List.getElem?_eq_some_iff.1 hx).1; rw [Hn.out] at this; exact this) hx))] at hq
          have Hq : Hid (sharedN (xs.map Itm.it) (64 - (u + 1)) (u + 1) = e0) := hq
          clear hq Hall hItr
          go_wp2_with fail
          go_roundw
          case rel => exact ⟨u + 1, by omega, by omega, by go_num, hbr, Hq⟩
          case measure => simp [intOf]; omega
    · obtain rfl : u = 64 := by omega
      have hd1 : decide (((64 : Nat) : Int) < (64 : Int)) = false := by simp
      have hq : 64 = e0 := by have := He.out; unfold sharedN at this; simpa using this
      have Hq := Lib.hid hq
      clear hq
      go_wp2_with fail
      go_ret
      exact ⟨by rw [← Hq.out]; rfl, hbr⟩

end Go.Proofs.YtblgmnjegkfoaaaGreat

/-
  The document's Node. Written by gen_r8.py.
-/
import Derived.Test.YtnhfbggaiecalaaR8Drop
import Derived.Test.YtnhfbggaiecalaaRNib
import Derived.Deep.DeepCutAuto
import Derived.Deep.CutBlock
import Derived.Deep.RegionHeld3
import Derived.IntWalk
import Derived.Test.YtnhfbggaiecalaaRefNum
import Derived.Test.YtnhfbggaiecalaaShaAt
namespace Go.Proofs.Ytnhfbggaiecalaa
open Go.RowKit
set_option linter.unusedVariables false
set_option linter.unusedSimpArgs false

theorem rnib_atI (key : List UInt8) (hk : key.length = 32) (KL : List Value) (hKL : KL = Lib.byteCells key) (i : Nat) (hi : i < 64) (r : Nat) (hr : nibF key i = r) (w : World) :
    Calls Try.prog 21 #[.agg KL.toArray, .int .i64 (i : Nat)] w fun e w' => e = .returned (.int .u8 (r : Nat)) ∧ Below w.heap.size w w' :=
  rnibble_run key hk KL hKL i hi _ rfl r (by rw [← hr]; rfl) w
/-- The items with a nibble at a place. -/
def partI (xs : List Itm) (t m : Nat) : List Itm := xs.filter fun x => nibF x.key t == m
theorem partI_take {xs : List Itm} {i : Nat} {x : Itm} (h : xs[i]? = some x) (t m : Nat) : partI (xs.take (i + 1)) t m = partI (xs.take i) t m ++ if nibF x.key t = m then [x] else [] := by
  obtain ⟨hi, he⟩ := List.getElem?_eq_some_iff.1 h
  unfold partI
  rw [List.take_succ_eq_append_getElem hi, List.filter_append, he]
  congr 1
  by_cases e : nibF x.key t = m
  · rw [if_pos e]; simp [e]
  · rw [if_neg e]; simp [e]
theorem partI_len (xs : List Itm) (t m : Nat) : (partI xs t m).length ≤ xs.length := List.length_filter_le _ _

set_option maxHeartbeats 8000000 in
set_option maxRecDepth 100000 in
theorem part_run (xs : List Itm) (A : Option Addr) (n c t m : Nat) (w : World) (hn : xs.length = n) (hc : n ≤ c) (hm : n ≤ 100000) (ht : t < 64) (hm16 : m < 256) (hIt : ItsAt w A xs) :
    Calls Try.prog 26 #[.slice A n c, .int .i64 (t : Nat), .int .u8 (m : Nat)] w fun e w' => ∃ v, e = .returned v ∧ IRow w' w.heap.size v (partI xs t m) ∧ Below w.heap.size w w' := by
  obtain ⟨W2, hW2⟩ : ∃ W2, W2 = w.alloc (.cells #[] 45) := ⟨_, rfl⟩
  have hO2 : IRow W2 w.heap.size (.slice (some ⟨w.heap.size, 0, none⟩) 0 0) (partI (xs.take 0) t m) := by rw [hW2]; exact IRow.empty w _ (Nat.le_refl _)
  have hb2 : Below w.heap.size w W2 := by rw [hW2]; exact (Below.refl _ w).alloc (Nat.le_refl _) _
  have HIt := Lib.hid hIt
  have HW2 := Lib.hid hW2
  have Hn := Lib.hid hn
  clear hW2 hn hIt
  go_enter Try.func26, Try.ntmps26
  go_upto_region 2 with fail
  change Code.wp _ _ _ _ (w.alloc (.cells #[] 45))
  rw [← HW2.out]
  clear HW2
  go_upto_region 3 with fail
  go_loopw [7, 8] (fun v s wr => ∃ i : Nat, i ≤ n ∧ s = .int .i64 i ∧ Below w.heap.size w wr ∧ IRow wr w.heap.size v (partI (xs.take i) t m)) (fun _ s _ => n - (intOf s).toNat)
  case atStart => exact ⟨0, by omega, rfl, hb2, hO2⟩
  case round =>
    clear hb2 hO2
    obtain ⟨i, hin, rfl, hbr, hO⟩ := hrel
    have hItr := HIt.out.up hbr
    by_cases hlt : i < n
    · have hd1 : decide (i < n) = true := by simpa using hlt
      obtain ⟨x, hx⟩ : ∃ x, xs[i]? = some x := ⟨xs[i]'(by rw [Hn.out]; exact hlt), List.getElem?_eq_getElem _⟩
      obtain ⟨b, off, hAe, hbl, hrow⟩ := hItr (by rw [Hn.out]; omega)
      obtain ⟨hxk, hrg⟩ := hrow i x hx
      have Hrow := Lib.hid hrow
      have HAe := Lib.hid hAe
      obtain ⟨YL, hYL⟩ : ∃ YL, YL = Lib.byteCells x.key := ⟨_, rfl⟩
      have hrk := ItsAt.key hrg YL hYL
      have HYi := Lib.hid (show (Try.prog.info? 23).map (·.size) = some YL.length by rw [hYL, Lib.byteCells_length, hxk]; kernel_rfl)
      have Hx := Lib.hid hx
      have HYL := Lib.hid hYL
      have Hxk := Lib.hid hxk
      have Hstep := Lib.hid (partI_take hx t m)
      obtain ⟨y, hy⟩ : ∃ y, nibF x.key t = y := ⟨_, rfl⟩
      have Hy := Lib.hid hy
      obtain ⟨VL, hVL⟩ : ∃ VL, VL = itC x := ⟨_, rfl⟩
      have hVl : VL.length = 33 := by rw [hVL, itC_length hxk]
      have HVi := Lib.hid (show (Try.prog.info? 45).map (·.size) = some VL.length by rw [hVl]; exact itSize)
      rw [← hVL] at hrg
      have HVL := Lib.hid hVL
      have HVl := Lib.hid hVl
      have hlen : (partI (xs.take i) t m).length ≤ 1000000 := by
        have h1 := partI_len (xs.take i) t m
        rw [List.length_take] at h1
        omega
      have Hlen := Lib.hid hlen
      subst hAe
      clear hx hrow hxk hYL hVL hVl hlen hy
      go_wp2_with (refine wpList_load_mid rfl _ _ rfl b (off + i * 33) rfl YL _ hrk Try.underlying23 rfl HYi.out ?_)
      go_at_call 21
      refine Calls.mono (rnib_atI x.key Hxk.out YL HYL.out t ht y Hy.out wr) ?_
      rintro e wx ⟨rfl, hbrx⟩
      have hbx : Below w.heap.size w wx := hbr.trans (hbrx.mono hbr.size)
      have hOx := hO.up hbrx
      have hrgx : wx.rangeAt b (off + i * 33) VL := fun j v hj => by
        rw [← hrg j v hj]
        exact World.cell?_of_block (hbrx.block b hbl)
      clear hbr hO hItr hbrx hrg hrk hbl
      dsimp only
      by_cases hym : y = m
      · have Hym := Lib.hid hym
        have hd2 : ((y : Int) == (m : Int)) = true := by rw [beq_iff_eq]; omega
        clear hym
        obtain ⟨wl, hwl⟩ : ∃ W, W = wx.alloc (.cells VL.toArray 45) := ⟨_, rfl⟩
        have hVg : Arr wl wx.heap.size 45 VL := by rw [hwl]; exact Arr.new wx _ _
        have hblx : Below wx.heap.size wx wl := by rw [hwl]; exact (Below.refl _ wx).alloc (Nat.le_refl _) _
        have hOl := hOx.up hblx
        have Hwl := Lib.hid hwl
        clear hwl hOx
        go_wp2_with (first
          | (refine wpList_load_mid rfl _ _ rfl b (off + i * 33) rfl VL _ hrgx Try.underlying45 rfl HVi.out ?_)
          | (refine wpList_build_it rfl _ rfl VL HVl.out rfl ?_; rw [← Hwl.out])
          | (at_builtin; refine wpList_append_it rfl _ _ rfl hOl (Nat.le_trans hbx.size hblx.size) rfl wx.heap.size 1 rfl x Hxk.out VL HVL.out hVg Hlen.out ?_; intro v' w1 hO1 hg1; have hlt1 : ∀ k, Value.ownBlock _ = some k → w.heap.size ≤ k ∧ k < wl.heap.size := hOl.lt))
        have hb1 : Below w.heap.size w w1 := hbx.trans ((hblx.mono hbx.size).trans ((Below.refl _ _).grown hg1 (Nat.le_trans hbx.size hblx.size) (fun k hk => (hOl.lt k hk).1)))
        rw [show partI (xs.take i) t m ++ [x] = partI (xs.take (i + 1)) t m by rw [Hstep.out, if_pos (by rw [Hy.out, Hym.out])]] at hO1
        go_roundw
        case rel => exact ⟨i + 1, by omega, by go_num, hb1, hO1⟩
        case measure => simp [intOf]; omega
      · have hd2 : ((y : Int) == (m : Int)) = false := by rw [beq_eq_false_iff_ne]; omega
        rw [show partI (xs.take i) t m = partI (xs.take (i + 1)) t m by rw [Hstep.out, if_neg (by rw [Hy.out]; exact hym), List.append_nil]] at hOx
        go_wp2_with fail
        go_roundw
        case rel => exact ⟨i + 1, by omega, by go_num, hbx, hOx⟩
        case measure => simp [intOf]; omega
    · obtain rfl : i = n := by omega
      have hd1 : decide (i < i) = false := by simp
      rw [List.take_of_length_le (by rw [Hn.out]; exact Nat.le_refl _)] at hO
      go_wp2_with fail
      go_ret
      exact ⟨_, rfl, hO, hbr⟩

end Go.Proofs.Ytnhfbggaiecalaa

namespace Go.Proofs.Ytnhfbggaiecalaa
open Go.RowKit
set_option linter.unusedVariables false
set_option linter.unusedSimpArgs false

set_option maxHeartbeats 8000000 in
set_option maxRecDepth 100000 in
theorem rest_run (key : List UInt8) (hk : key.length = 32) (KL : List Value) (hKL : KL = Lib.byteCells key) (t u : Nat) (htu : t ≤ u) (hu : u ≤ 64) (w : World) :
    Calls Try.prog 25 #[.agg KL.toArray, .int .i64 (t : Nat), .int .i64 (u : Nat)] w fun e w' => ∃ v, e = .returned v ∧ Owns w' w.heap.size 5 v (restF key t u) ∧ Below w.heap.size w w' := by
  obtain ⟨i0, hi, hz0, hz1, hz2⟩ := info_parts byteInfo
  obtain ⟨W1, hW1⟩ : ∃ W1, W1 = w.alloc (.cells KL.toArray 23) := ⟨_, rfl⟩
  have hK1 : Arr W1 w.heap.size 23 KL := by rw [hW1]; exact Arr.new w _ _
  have hb1 : Below w.heap.size w W1 := by rw [hW1]; exact (Below.refl _ w).alloc (Nat.le_refl _) _
  have HW1 := Lib.hid hW1
  have HKi := Lib.hid (show (Try.prog.info? 23).map (·.size) = some KL.length by rw [hKL, Lib.byteCells_length, hk]; kernel_rfl)
  obtain ⟨W2, hW2⟩ : ∃ W2, W2 = W1.alloc (.cells #[] 5) := ⟨_, rfl⟩
  obtain ⟨g2, hg2⟩ : ∃ g2, g2 = W1.heap.size := ⟨_, rfl⟩
  have hO2 : Owns W2 (w.heap.size + 1) 5 (.slice (some ⟨g2, 0, none⟩) 0 0) (restF key t t) := by
    rw [hW2, hg2, show restF key t t = [] by simp [restF]]
    exact ⟨by simp [Lib.byteCells], .inr ⟨W1.heap.size, 0, #[], rfl, hK1.lt, heap_alloc_new W1 _, Nat.le_refl _, by unfold maxLen; omega, by simp, by simp [Lib.byteCells]⟩⟩
  have hK2 : Arr W2 w.heap.size 23 KL := by rw [hW2]; exact hK1.alloc _
  have hb2 : Below w.heap.size w W2 := by rw [hW2]; exact hb1.alloc hb1.size _
  have HW2 := Lib.hid hW2
  have Hg2 := Lib.hid hg2
  have HKL := Lib.hid hKL
  clear hW1 hW2 hg2 hKL hK1 hb1
  go_enter Try.func25, Try.ntmps25
  go_upto_region 1 with fail
  change Code.wp _ _ _ _ (w.alloc (.cells KL.toArray 23))
  rw [← HW1.out]
  clear HW1
  go_upto_region 2 with fail
  rw [← Hg2.out]
  change Code.wp _ _ _ _ (W1.alloc (.cells #[] 5))
  rw [← HW2.out]
  clear HW2 Hg2
  go_upto_region 3 with fail
  go_loopw [7, 8] (fun v s wr => ∃ i : Nat, t ≤ i ∧ i ≤ u ∧ s = .int .i64 i ∧ Arr wr w.heap.size 23 KL ∧ Below w.heap.size w wr ∧ Owns wr (w.heap.size + 1) 5 v (restF key t i)) (fun _ s _ => u - (intOf s).toNat)
  case atStart => exact ⟨t, Nat.le_refl _, htu, rfl, hK2, hb2, hO2⟩
  case round =>
    clear hK2 hb2 hO2
    obtain ⟨i, hti, hiu, rfl, hKr, hbr, hO⟩ := hrel
    have hrl := restF_length key t i
    by_cases hlt : i < u
    · have hd1 : decide (i < u) = true := by simpa using hlt
      obtain ⟨y, hy⟩ : ∃ y, nibF key i = y := ⟨_, rfl⟩
      have hy16 : y < 16 := by rw [← hy]; exact nibF_lt _ _
      have Hy := Lib.hid hy
      have hri := hKr.range
      clear hy
      go_wp2_with (refine wpList_load_mid rfl _ _ rfl w.heap.size 0 rfl KL _ hri Try.underlying23 rfl HKi.out ?_)
      go_at_call 21
      refine Calls.mono (rnib_atI key hk KL HKL.out i (by omega) y Hy.out wr) ?_
      rintro e wx ⟨rfl, hbrx⟩
      have hbx : Below w.heap.size w wx := hbr.trans (hbrx.mono hbr.size)
      have hKx := hKr.up hbrx
      have hOx := hO.below hbrx (fun k hk => (hO.lt k hk).2)
      clear hri hbrx hbr hO hKr
      dsimp only
      go_wp2_with (at_builtin; refine wpList_append_own_at _ rfl _ _ 27 rfl (w.heap.size + 1) 5 i0 (.int .u8 0) 1 1 Try.underlying27 hi hz0 hz1 hz2 rfl (by decide) _ _ _ rfl (World.ownsRow.alloc hOx _) ⟨wx.heap.size, 0, none⟩ 1 1 [Value.int .u8 (y : Nat)] rfl rfl ?c1 ?c2 ?c3 ?c4 ?c5 ?_)
      case c1 =>
        intro j u hj
        match j, hj with
        | 0, hj => simp at hj; subst hj; simp [Addr.add]
      case c2 => intro u hu; simp at hu; subst hu; rfl
      case c3 => unfold maxLen; omega
      case c4 => omega
      case c5 => have := hKx.lt; simp; omega
      intro v' w1 hown' hgrow _ hplace
      have hbn : Below w.heap.size w w1 := (hbx.alloc hbx.size _).grown hgrow (by have := hbx.size; simp; omega) (fun k hk => by have := (hOx.lt k hk).1; omega)
      have hon : Owns w1 (w.heap.size + 1) 5 v' (restF key t (i + 1)) := by
        rw [restF_snoc key hti, Hy.out]
        exact Owns.snoc (by omega) (by rw [hrl]) rfl hown'
      have hK1 : Arr w1 w.heap.size 23 KL := (hgrow.block w.heap.size (by have := hKx.lt; simp; omega) (fun e => by have := (hOx.lt _ e.symm).1; omega)).trans (hKx.alloc _)
      clear hOx hown' hgrow hplace hbx hKx
      go_wp2
      go_roundw
      case rel => exact ⟨i + 1, by omega, by omega, by go_num, hK1, hbn, hon⟩
      case measure => simp [intOf]; omega
    · obtain rfl : i = u := by omega
      have hd1 : decide (i < i) = false := by simp
      go_wp2_with fail
      go_ret
      exact ⟨_, rfl, hO.base (Nat.le_succ _), hbr⟩

end Go.Proofs.Ytnhfbggaiecalaa

namespace Go.Proofs.Ytnhfbggaiecalaa
open Go.RowKit
set_option linter.unusedVariables false
set_option linter.unusedSimpArgs false

theorem sharedN_yes {l : List It} {u : Nat} (h : u < 64) (ha : agreeF l u = true) : sharedN l (64 - u) u = sharedN l (64 - (u + 1)) (u + 1) := by
  rw [show 64 - u = (64 - (u + 1)) + 1 by omega]
  conv => lhs; unfold sharedN
  rw [if_pos ha]
theorem sharedN_no {l : List It} {u : Nat} (h : u < 64) (ha : agreeF l u = false) : sharedN l (64 - u) u = u := by
  rw [show 64 - u = (64 - (u + 1)) + 1 by omega]
  unfold sharedN
  rw [ha]
  simp
/-- Up to which place all keys have the same nibbles. -/
def sharedI (xs : List Itm) (t : Nat) : Nat := sharedF (xs.map Itm.it) t
theorem agree_no {xs : List Itm} {x0 x : Itm} {i u : Nat} (h0 : xs[0]? = some x0) (hx : xs[i]? = some x) (h : nibF x.key u ≠ nibF x0.key u) : agreeF (xs.map Itm.it) u = false := by
  cases hq : agreeF (xs.map Itm.it) u with
  | false => rfl
  | true =>
    exfalso
    exact h (agreeF_iff.1 hq x.it (List.mem_map.2 ⟨x, List.mem_of_getElem? hx, rfl⟩) x0.it (List.mem_map.2 ⟨x0, List.mem_of_getElem? h0, rfl⟩))
theorem agree_yes {xs : List Itm} {x0 : Itm} {u : Nat} (h : ∀ (i : Nat) (x : Itm), xs[i]? = some x → nibF x.key u = nibF x0.key u) : agreeF (xs.map Itm.it) u = true := by
  rw [agreeF_iff]
  intro a ha b hb
  obtain ⟨x, hx, rfl⟩ := List.mem_map.1 ha
  obtain ⟨y, hy, rfl⟩ := List.mem_map.1 hb
  obtain ⟨i, hi⟩ := List.getElem?_of_mem hx
  obtain ⟨j, hj⟩ := List.getElem?_of_mem hy
  show nibF x.key u = nibF y.key u
  rw [h i x hi, h j y hj]

set_option maxHeartbeats 8000000 in
set_option maxRecDepth 100000 in
theorem shared_run (xs : List Itm) (A : Option Addr) (n c t : Nat) (w : World) (hn : xs.length = n) (hn0 : 0 < n) (hc : n ≤ c) (hm : n ≤ 100000) (ht : t ≤ 64) (hIt : ItsAt w A xs) (e0 : Nat) (he0 : sharedI xs t = e0) :
    Calls Try.prog 24 #[.slice A n c, .int .i64 (t : Nat)] w fun e w' => e = .returned (.int .i64 (e0 : Nat)) ∧ Below w.heap.size w w' := by
  obtain ⟨x0, hx0⟩ : ∃ x, xs[0]? = some x := ⟨xs[0]'(by omega), List.getElem?_eq_getElem _⟩
  have HIt := Lib.hid hIt
  have Hn := Lib.hid hn
  have Hx0 := Lib.hid hx0
  have He0 : Hid (sharedN (xs.map Itm.it) (64 - t) t = e0) := he0
  clear hn hIt hx0 he0
  go_enter Try.func24, Try.ntmps24
  go_upto_region 2 with fail
  go_loopw [5] (fun s wr => ∃ u : Nat, t ≤ u ∧ u ≤ 64 ∧ s = .int .i64 u ∧ Below w.heap.size w wr ∧ Hid (sharedN (xs.map Itm.it) (64 - u) u = e0)) (fun s _ => 64 - (intOf s).toNat)
  case atStart => exact ⟨t, Nat.le_refl _, ht, rfl, Below.refl _ _, He0⟩
  case round =>
    obtain ⟨u, htu, hu64, rfl, hbr, He⟩ := hrel
    by_cases hlu : u < 64
    · have hd1 : decide ((u : Int) < (64 : Int)) = true := by simp; omega
      obtain ⟨y0, hy0⟩ : ∃ y, nibF x0.key u = y := ⟨_, rfl⟩
      have Hy0 := Lib.hid hy0
      clear hy0
      obtain ⟨wu, hwu⟩ : ∃ W, W = wr := ⟨_, rfl⟩
      subst hwu
      go_upto_region 4 with fail
      go_loopw [6] (fun s wr => ∃ i : Nat, i ≤ n ∧ s = .int .i64 i ∧ Below w.heap.size w wr ∧ Hid (∀ j x, j < i → xs[j]? = some x → nibF x.key u = y0)) (fun s _ => n - (intOf s).toNat)
      case atStart => exact ⟨0, by omega, rfl, hbr, fun j x hj => by omega⟩
      case round =>
        clear hbr
        obtain ⟨i, hin, rfl, hbr, Hall⟩ := hrel
        have hItr := HIt.out.up hbr
        by_cases hlt : i < n
        · have hd2 : decide (i < n) = true := by simpa using hlt
          obtain ⟨x, hx⟩ : ∃ x, xs[i]? = some x := ⟨xs[i]'(by rw [Hn.out]; exact hlt), List.getElem?_eq_getElem _⟩
          obtain ⟨b, off, hAe, hbl, hrow⟩ := hItr (by rw [Hn.out]; omega)
          obtain ⟨hxk, hrg⟩ := hrow i x hx
          have Hrow := Lib.hid hrow
          have HAe := Lib.hid hAe
          obtain ⟨YL, hYL⟩ : ∃ YL, YL = Lib.byteCells x.key := ⟨_, rfl⟩
          have hrk := ItsAt.key hrg YL hYL
          have HYi := Lib.hid (show (Try.prog.info? 23).map (·.size) = some YL.length by rw [hYL, Lib.byteCells_length, hxk]; kernel_rfl)
          have Hx := Lib.hid hx
          have HYL := Lib.hid hYL
          have Hxk := Lib.hid hxk
          obtain ⟨hxk0, hrg0⟩ := hrow 0 x0 Hx0.out
          rw [Nat.zero_mul, Nat.add_zero] at hrg0
          obtain ⟨ZL, hZL⟩ : ∃ ZL, ZL = Lib.byteCells x0.key := ⟨_, rfl⟩
          have hrk0 : wr.rangeAt b off ZL := by
            have h := ItsAt.key (i := 0) (x := x0) (w := wr) (b := b) (off := off) (by rw [Nat.zero_mul, Nat.add_zero]; exact hrg0) ZL hZL
            rwa [Nat.zero_mul, Nat.add_zero] at h
          have HZi := Lib.hid (show (Try.prog.info? 23).map (·.size) = some ZL.length by rw [hZL, Lib.byteCells_length, hxk0]; kernel_rfl)
          have HZL := Lib.hid hZL
          have Hxk0 := Lib.hid hxk0
          obtain ⟨y, hy⟩ : ∃ y, nibF x.key u = y := ⟨_, rfl⟩
          have Hy := Lib.hid hy
          subst hAe
          clear hx hrow hxk hYL hrg hrg0 hxk0 hZL hy hItr
          go_upto_region 6 with fail
          refine wp_region_held_drew (S := fun w' => w'.rangeAt b (off + i * 33) YL ∧ w'.rangeAt b off ZL) (by kernel_rfl) ⟨hrk, hrk0⟩ (fun hHeld => ?_)
          refine anyH_take (i := 0) (v := .slice (some ⟨b, off, none⟩) n c) (some 16) rfl rfl (by kernel_rfl) (by kernel_rfl) (by kernel_rfl) (fun _ _ _ h => h) (Or.inl ⟨by rfl, fun w' hw => by go_simp⟩) (by assumption) ?_
          simp only [Act.put, List.setIfInBounds_toArray, List.set_cons_zero, List.set_cons_succ]
          refine anyH_take (i := 1) (v := .int .i64 (i : Nat)) (some 17) rfl rfl (by kernel_rfl) (by kernel_rfl) (by kernel_rfl) (fun _ _ _ h => h) (Or.inl ⟨by rfl, fun w' hw => by go_simp⟩) (by assumption) ?_
          simp only [Act.put, List.setIfInBounds_toArray, List.set_cons_zero, List.set_cons_succ]
          refine anyH_take (i := 2) (v := .pointer (some ⟨b, off + i * 33, none⟩)) (some 18) rfl rfl (by kernel_rfl) (by kernel_rfl) (by kernel_rfl) (fun _ _ _ h => h) (Or.inl ⟨by rfl, fun w' hw => by (go_simp; try (intro h; omega))⟩) (by assumption) ?_
          simp only [Act.put, List.setIfInBounds_toArray, List.set_cons_zero, List.set_cons_succ]
          refine anyH_take (i := 3) (v := .pointer (some ⟨b, off + i * 33, none⟩)) (some 19) rfl rfl (by kernel_rfl) (by kernel_rfl) (by kernel_rfl) (fun _ _ _ h => h) (Or.inl ⟨by rfl, fun w' hw => by go_simp⟩) (by assumption) ?_
          simp only [Act.put, List.setIfInBounds_toArray, List.set_cons_zero, List.set_cons_succ]
          refine anyH_take (i := 4) (some 20) rfl rfl (by kernel_rfl) (by kernel_rfl) (by kernel_rfl) (fun _ _ _ h => h) (yieldsIf_load_mid (by rfl) 23 (.tmp 19) rfl b (off + i * 33) rfl YL _ (fun w' h => h.1) Try.underlying23 rfl HYi.out) (by assumption) ?_
          simp only [Act.put, List.setIfInBounds_toArray, List.set_cons_zero, List.set_cons_succ]
          refine anyH_take (i := 5) (v := .int .i64 (u : Nat)) (some 21) rfl rfl (by kernel_rfl) (by kernel_rfl) (by kernel_rfl) (fun _ _ _ h => h) (Or.inl ⟨by rfl, fun w' hw => by go_simp⟩) (by assumption) ?_
          simp only [Act.put, List.setIfInBounds_toArray, List.set_cons_zero, List.set_cons_succ]
          refine anyH_take (i := 7) (v := .slice (some ⟨b, off, none⟩) n c) (some 23) rfl rfl (by kernel_rfl) (by kernel_rfl) (by kernel_rfl) (fun _ _ _ h => h) (Or.inl ⟨by rfl, fun w' hw => by go_simp⟩) (by assumption) ?_
          simp only [Act.put, List.setIfInBounds_toArray, List.set_cons_zero, List.set_cons_succ]
          refine anyH_take (i := 8) (v := .pointer (some ⟨b, off, none⟩)) (some 24) rfl rfl (by kernel_rfl) (by kernel_rfl) (by kernel_rfl) (fun _ _ _ h => h) (Or.inl ⟨by rfl, fun w' hw => by (go_simp; try (intro h; omega))⟩) (by assumption) ?_
          simp only [Act.put, List.setIfInBounds_toArray, List.set_cons_zero, List.set_cons_succ]
          refine anyH_take (i := 9) (v := .pointer (some ⟨b, off, none⟩)) (some 25) rfl rfl (by kernel_rfl) (by kernel_rfl) (by kernel_rfl) (fun _ _ _ h => h) (Or.inl ⟨by rfl, fun w' hw => by go_simp⟩) (by assumption) ?_
          simp only [Act.put, List.setIfInBounds_toArray, List.set_cons_zero, List.set_cons_succ]
          refine anyH_take (i := 10) (some 26) rfl rfl (by kernel_rfl) (by kernel_rfl) (by kernel_rfl) (fun _ _ _ h => h) (yieldsIf_load_mid (by rfl) 23 (.tmp 25) rfl b off rfl ZL _ (fun w' h => h.2) Try.underlying23 rfl HZi.out) (by assumption) ?_
          simp only [Act.put, List.setIfInBounds_toArray, List.set_cons_zero, List.set_cons_succ]
          refine anyH_take (i := 11) (v := .int .i64 (u : Nat)) (some 27) rfl rfl (by kernel_rfl) (by kernel_rfl) (by kernel_rfl) (fun _ _ _ h => h) (Or.inl ⟨by rfl, fun w' hw => by go_simp⟩) (by assumption) ?_
          simp only [Act.put, List.setIfInBounds_toArray, List.set_cons_zero, List.set_cons_succ]
          refine wpAnyH_ready (rs := [6]) (by kernel_rfl) (by simp) ?_
          refine AllReadyH.cons rfl (fun K hK => ?_) AllReadyH.nil
          go_simp
          go_at_call 21
          refine Calls.mono (rnib_atI x.key Hxk.out YL HYL.out u hlu y Hy.out (wr.drewN 1)) ?_
          rintro e wa ⟨rfl, hbwa⟩
          have hbwa : Below wr.heap.size wr wa := ⟨hbwa.os, hbwa.tape, hbwa.output, hbwa.size, hbwa.block⟩
          have hka : wa.rangeAt b (off + i * 33) YL := fun j v hj => by rw [← hrk j v hj]; exact World.cell?_of_block (hbwa.block b hbl)
          have hka0 : wa.rangeAt b off ZL := fun j v hj => by rw [← hrk0 j v hj]; exact World.cell?_of_block (hbwa.block b hbl)
          have hbla : b < wa.heap.size := Nat.lt_of_lt_of_le hbl hbwa.size
          have hba : Below w.heap.size w wa := hbr.trans (hbwa.mono hbr.size)
          clear hbwa hbr hrk hrk0 hbl
          dsimp only
          go_wp2_with fail
          refine hK.out _ _ ⟨hka, hka0⟩ (fun hHeldx => ?_)
          clear hK K
          try simp only [Act.put, List.setIfInBounds_toArray, List.set_cons_zero, List.set_cons_succ]
          refine wpAnyH_ready (rs := [12]) (by kernel_rfl) (by simp) ?_
          refine AllReadyH.cons rfl (fun K hK => ?_) AllReadyH.nil
          go_simp
          go_at_call 21
          refine Calls.mono (rnib_atI x0.key Hxk0.out ZL HZL.out u hlu y0 Hy0.out (wa)) ?_
          rintro e wb ⟨rfl, hbwb⟩
          have hkb : wb.rangeAt b (off + i * 33) YL := fun j v hj => by rw [← hka j v hj]; exact World.cell?_of_block (hbwb.block b hbla)
          have hkb0 : wb.rangeAt b off ZL := fun j v hj => by rw [← hka0 j v hj]; exact World.cell?_of_block (hbwb.block b hbla)
          have hbb : Below w.heap.size w wb := hba.trans (hbwb.mono hba.size)
          clear hbwb hba hka hka0 hbla
          dsimp only
          go_wp2_with fail
          refine hK.out _ _ ⟨hkb, hkb0⟩ (fun hHeldx => ?_)
          clear hK K
          try simp only [Act.put, List.setIfInBounds_toArray, List.set_cons_zero, List.set_cons_succ]
          obtain ⟨r1, hr1⟩ : ∃ r1, ((y : Int) == (y0 : Int)) = r1 := ⟨_, rfl⟩
          cases r1 with
          | true =>
            refine anyH_take (i := 13) (v := .bool false) (some 29) rfl rfl (by kernel_rfl) (by kernel_rfl) (by kernel_rfl) (fun _ _ _ h => h) (Or.inl ⟨by rfl, fun w' hw => by (go_simp; simpa using hr1)⟩) (by assumption) ?_
            simp only [Act.put, List.setIfInBounds_toArray, List.set_cons_zero, List.set_cons_succ]
            refine wpAnyH_done (by kernel_rfl) ?_ _
            clear hHeld hHeldx
            have hyy : y = y0 := by rw [beq_iff_eq] at hr1; omega
            have Hall2 : Hid (∀ j x, j < i + 1 → xs[j]? = some x → nibF x.key u = y0) := fun j x' hj hx' => by
              by_cases e : j = i
              · subst e
                rw [Hx.out] at hx'
                injection hx' with hx'
                rw [← hx', Hy.out, hyy]
              · exact Hall.out j x' (by omega) hx'
            clear Hall hyy
            go_wp2_with fail
            go_roundw
            case rel => exact ⟨i + 1, by omega, by go_num, hbb, Hall2⟩
            case measure => simp [intOf]; omega
          | false =>
            refine anyH_take (i := 13) (v := .bool true) (some 29) rfl rfl (by kernel_rfl) (by kernel_rfl) (by kernel_rfl) (fun _ _ _ h => h) (Or.inl ⟨by rfl, fun w' hw => by (go_simp; simpa using hr1)⟩) (by assumption) ?_
            simp only [Act.put, List.setIfInBounds_toArray, List.set_cons_zero, List.set_cons_succ]
            refine wpAnyH_done (by kernel_rfl) ?_ _
            clear hHeld hHeldx
            have hyy : y ≠ y0 := by rw [beq_eq_false_iff_ne] at hr1; omega
            have hq := He.out
            rw [sharedN_no hlu (agree_no Hx0.out Hx.out (by rw [Hy.out, Hy0.out]; exact hyy))] at hq
            have Hq := Lib.hid hq
            clear hq hyy
            go_wp2_with fail
            go_ret
            exact ⟨by rw [← Hq.out]; rfl, hbb⟩
        · obtain rfl : i = n := by omega
          have hd2 : decide (i < i) = false := by simp
          have hq := He.out
          rw [sharedN_yes hlu (agree_yes (x0 := x0) (fun j x hx => by rw [Hy0.out]; exact Hall.out j x (by have := (List.getElem?_eq_some_iff.1 hx).1; rw [Hn.out] at this; exact this) hx))] at hq
          have Hq : Hid (sharedN (xs.map Itm.it) (64 - (u + 1)) (u + 1) = e0) := hq
          clear hq Hall hItr
          go_wp2_with fail
          go_roundw
          case rel => exact ⟨u + 1, by omega, by omega, by go_num, hbr, Hq⟩
          case measure => simp [intOf]; omega
    · obtain rfl : u = 64 := by omega
      have hd1 : decide (((64 : Nat) : Int) < (64 : Int)) = false := by simp
      have hq : 64 = e0 := by have := He.out; unfold sharedN at this; simpa using this
      have Hq := Lib.hid hq
      clear hq
      go_wp2_with fail
      go_ret
      exact ⟨by rw [← Hq.out]; rfl, hbr⟩

end Go.Proofs.Ytnhfbggaiecalaa

namespace Go.Proofs.Ytnhfbggaiecalaa
open Go.RowKit
set_option linter.unusedVariables false
set_option linter.unusedSimpArgs false

set_option maxHeartbeats 4000000 in
set_option maxRecDepth 100000 in
theorem rbytes_gen (B : Nat) (sv : Value) (out bs : List UInt8) (A : Option Addr) (n c : Nat) (w : World) (hown : Owns w B 5 sv out) (hB : B ≤ w.heap.size) (hb : Bs w w.heap.size A bs) (hn : bs.length = n) (hap : ∀ a : Addr, A = some a → 0 < n → sv.ownBlock ≠ some a.block)
    (hlim : out.length + n + 20 ≤ 140737488355328) :
    Calls Try.prog 27 #[sv, .slice A n c] w (RefPost B sv (out ++ bytB bs) w) := by
  obtain ⟨i0, hi, hz0, hz1, hz2⟩ := info_parts byteInfo
  have hk2 := Lib.uvarint_length64 (x := n) (by omega)
  have Hn := Lib.hid hn
  have Hbb : Hid (bytB bs = Lib.uvarint n ++ bs) := by show _ = _; unfold bytB; rw [hn]
  have Hown := Lib.hid hown
  clear hn hown
  go_enter Try.func27, Try.ntmps27
  go_wp2_with fail
  refine (rnumber_any B n (by omega) sv out w Hown.out hB (by omega)).mono ?_
  rintro e w1 ⟨v1, rfl, hown1, hg1⟩
  have hB1 := Nat.le_trans hB hg1.1.size
  have hb1 : Bs w1 w.heap.size A bs := fun hp => by
    obtain ⟨b, off, e, hlt, hc⟩ := hb hp
    refine ⟨b, off, e, hlt, fun j hj => ?_⟩
    rw [← hc j hj]
    exact World.cell?_of_block (hg1.1.block b hlt (fun e2 => hap _ e (by have := Hn.out; omega) e2.symm))
  have hln : (out ++ Lib.uvarint n).length + n ≤ 140737488355328 := by rw [List.length_append]; omega
  dsimp only
  go_wp2_with (at_builtin; refine wpList_append_bs rfl _ _ 27 rfl B 5 i0 (.int .u8 0) Try.underlying27 hi hz0 hz1 hz2 rfl v1 (out ++ Lib.uvarint n) rfl hown1 w.heap.size A n c bs rfl Hn.out hb1 hln hB1 ?_)
  intro v' w2 hown' hgrow
  go_wp2
  go_ret
  refine ⟨v', rfl, ?_, hg1.trans hgrow⟩
  rw [Hbb.out]
  first | exact hown' | (rw [← List.append_assoc]; exact hown')

theorem map_part (xs : List Itm) (t m : Nat) : (partI xs t m).map Itm.it = subF (xs.map Itm.it) t m := by
  unfold partI subF
  rw [List.filter_map]
  rfl
theorem part_mem {xs : List Itm} {t m : Nat} {x : Itm} (h : x ∈ partI xs t m) : x ∈ xs ∧ nibF x.key t = m := by simpa [partI] using h
/-- The keys of a part agree one place more. -/
theorem part_agree {l : List It} {s m : Nat} (h : ∀ i, i < s → agreeF l i = true) : ∀ i, i < s + 1 → agreeF (subF l s m) i = true := by
  intro i hi
  rw [agreeF_iff]
  intro x hx y hy
  obtain ⟨hx1, hx2⟩ := mem_subF.1 hx
  obtain ⟨hy1, hy2⟩ := mem_subF.1 hy
  by_cases e : i = s
  · rw [e, hx2, hy2]
  · exact agreeF_iff.1 (h i (by omega)) x hx1 y hy1
theorem shared_agree {l : List It} {t : Nat} (h : ∀ i, i < t → agreeF l i = true) : ∀ i, i < sharedF l t → agreeF l i = true := by
  intro i hi
  by_cases hit : i < t
  · exact h i hit
  · exact sharedF_in (by omega) hi

/-- The digests of the first n parts. -/
def kidsB (f : Nat) (l : List It) (s n : Nat) : List UInt8 := (List.range n).flatMap fun m => if subF l s m = [] then [] else shaF (tagF 4 [nodeF f (subF l s m) (s + 1)])
theorem kidsB_succ (f : Nat) (l : List It) (s n : Nat) : kidsB f l s (n + 1) = kidsB f l s n ++ if subF l s n = [] then [] else shaF (tagF 4 [nodeF f (subF l s n) (s + 1)]) := by
  unfold kidsB
  rw [List.range_succ, List.flatMap_append]
  simp
theorem kidsB_len (f : Nat) (l : List It) (s n : Nat) : (kidsB f l s n).length ≤ 32 * n := by
  induction n with
  | zero => simp [kidsB]
  | succ n ih =>
    rw [kidsB_succ, List.length_append]
    split
    · simp; omega
    · rw [shaF_length]; omega
theorem maskF_lt (l : List It) (s n : Nat) : maskF l s n < 2 ^ n := by
  induction n with
  | zero => simp [maskF]
  | succ n ih =>
    unfold maskF
    split
    · rw [Nat.pow_succ]; omega
    · rw [Nat.pow_succ]; omega
theorem maskF_succ (l : List It) (s n : Nat) : maskF l s (n + 1) = maskF l s n + if subF l s n = [] then 0 else 2 ^ n := rfl
theorem nodeF_one (f : Nat) (x : It) (t : Nat) : nodeF (f + 1) [x] t = [0] ++ bytB (restF x.1 t 64) ++ bytB x.2 := rfl
theorem nodeF_two (f : Nat) (l : List It) (t : Nat) (h : 2 ≤ l.length) : nodeF (f + 1) l t = [1] ++ bytB (restF (l.headD ([], [])).1 t (sharedF l t)) ++ Lib.uvarint (maskF l (sharedF l t) 16) ++ kidsB f l (sharedF l t) 16 := by
  match l, h with
  | x :: y :: r, _ => rfl
theorem bytB_len (b : List UInt8) (h : b.length < 18446744073709551616) : (bytB b).length ≤ b.length + 10 := by
  unfold bytB
  have := Lib.uvarint_length64 (x := b.length) h
  rw [List.length_append]
  omega
theorem nodeF_len (f : Nat) (l : List It) (t : Nat) (hv : ∀ x ∈ l, x.2.length ≤ 1000) (ht : t ≤ 64) (hl : 0 < l.length) : (nodeF f l t).length ≤ 1900 := by
  cases f with
  | zero => simp [nodeF]
  | succ f =>
    rcases Nat.lt_or_ge l.length 2 with h | h
    · match l, hl, h, hv with
      | [x], _, _, hv =>
        have h1 := hv x (by simp)
        have h2 := restF_length x.1 t 64
        have h3 := bytB_len (restF x.1 t 64) (by omega)
        have h4 := bytB_len x.2 (by omega)
        rw [nodeF_one]
        simp only [List.length_append, List.length_cons, List.length_nil]
        omega
    · rw [nodeF_two f l t h]
      have h2 := restF_length (l.headD ([], [])).1 t (sharedF l t)
      have h5 := sharedF_le l ht
      have h3 := bytB_len (restF (l.headD ([], [])).1 t (sharedF l t)) (by omega)
      have h6 := maskF_lt l (sharedF l t) 16
      have h4 := Lib.uvarint_length64 (x := maskF l (sharedF l t) 16) (by omega)
      have h7 := kidsB_len f l (sharedF l t) 16
      simp only [List.length_append, List.length_cons, List.length_nil]
      omega

end Go.Proofs.Ytnhfbggaiecalaa

namespace Go.Proofs.Ytnhfbggaiecalaa
open Go.RowKit
set_option linter.unusedVariables false
set_option linter.unusedSimpArgs false

/-- What Node gives, with so much fuel. -/
def NodesI (f : Nat) : Prop := ∀ (xs : List Itm) (t : Nat) (A : Option Addr) (n c : Nat) (w : World), xs.length = n → 0 < n → n ≤ c → n ≤ 1000 → Good (xs.map Itm.it) → (∀ i, i < t → agreeF (xs.map Itm.it) i = true) → t ≤ 64 → 65 - t ≤ f → (∀ x ∈ xs, x.val.length ≤ 1000) → ItsOk w w.heap.size xs → ItsAt w A xs →
    Calls Try.prog 23 #[.slice A n c, .int .i64 (t : Nat)] w fun e w' => ∃ v, e = .returned v ∧ Owns w' w.heap.size 5 v (nodeF f (xs.map Itm.it) t) ∧ Below w.heap.size w w'
theorem own_one (w : World) (B : Nat) (hB : B ≤ w.heap.size) (x : UInt8) (z : Int) (hz : z = (x.toNat : Nat)) : Owns (w.alloc (.cells #[.int .u8 z] 5)) B 5 (.slice (some ⟨w.heap.size, 0, none⟩) 1 1) [x] := by
  subst hz
  have h := Owns.of_row (w := w.alloc (.cells #[.int .u8 (x.toNat : Nat)] 5)) (B := B) (T := 5) (g := w.heap.size) (c := 1) (l := [x]) (cur := [.int .u8 (x.toNat : Nat)]) hB (Nat.le_refl _) (by unfold maxLen; omega) (heap_alloc_new w _) rfl rfl
  exact h
theorem Below.dI {B : Nat} {w w' : World} {n : Nat} (h : Below B (w.drewN n) w') : Below B w w' := ⟨h.os, h.tape, h.output, h.size, h.block⟩

set_option maxHeartbeats 8000000 in
set_option maxRecDepth 100000 in
theorem node_leafI (x : Itm) (t : Nat) (A : Option Addr) (n c : Nat) (hn1 : n = 1) (w : World) (hc : n ≤ c) (ht : t ≤ 64) (hv : x.val.length ≤ 1000) (hok : ItOk w w.heap.size x) (hIt : ItsAt w A [x]) :
    Calls Try.prog 23 #[.slice A n c, .int .i64 (t : Nat)] w fun e w' => ∃ v, e = .returned v ∧ Owns w' w.heap.size 5 v ([0] ++ bytB (restF x.key t 64) ++ bytB x.val) ∧ Below w.heap.size w w' := by
  obtain ⟨b, off, rfl, hbl, hrow⟩ := hIt (by simp)
  obtain ⟨hxk, hrg⟩ := hrow 0 x rfl
  rw [Nat.zero_mul, Nat.add_zero] at hrg
  have hrg0 : w.rangeAt b (off + 0 * 33) (itC x) := by rw [Nat.zero_mul, Nat.add_zero]; exact hrg
  obtain ⟨YL, hYL⟩ : ∃ YL, YL = Lib.byteCells x.key := ⟨_, rfl⟩
  obtain ⟨Av, hAv⟩ : ∃ a, x.adr = a := ⟨_, rfl⟩
  obtain ⟨nv, hnv⟩ : ∃ a, x.val.length = a := ⟨_, rfl⟩
  obtain ⟨cv, hcv⟩ : ∃ a, x.cap = a := ⟨_, rfl⟩
  have Hrk : Hid (∀ w', Below w.heap.size w w' → w'.rangeAt b off YL) := fun w' hb => by
    have h := ItsAt.key hrg0 YL hYL
    rw [Nat.zero_mul, Nat.add_zero] at h
    intro j v hj
    rw [← h j v hj]
    exact World.cell?_of_block (hb.block b hbl)
  have Hcv : Hid (∀ w', Below w.heap.size w w' → w'.cell? ⟨b, off + 32, none⟩ = some (.slice Av nv cv)) := fun w' hb => by
    have h := ItsAt.val hxk hrg0
    rw [Nat.zero_mul, Nat.add_zero, hAv, hnv, hcv] at h
    rw [← h]
    exact World.cell?_of_block (hb.block b hbl)
  have HYi := Lib.hid (show (Try.prog.info? 23).map (·.size) = some YL.length by rw [hYL, Lib.byteCells_length, hxk]; kernel_rfl)
  have hvb : Bs w w.heap.size Av x.val := by rw [← hAv]; exact hok.bs
  have Hvb := Lib.hid hvb
  have HYL := Lib.hid hYL
  have Hxk := Lib.hid hxk
  have Hnv := Lib.hid hnv
  have Hrl := Lib.hid (restF_length x.key t 64)
  rw [hnv] at hv
  have hd1 : ((n : Int) == 1) = true := by rw [beq_iff_eq]; omega
  clear hIt hrow hrg hrg0 hok hYL hAv hnv hcv hvb hxk
  go_enter Try.func23, Try.ntmps23
  go_upto_region 2 with fail
  refine wp_region_held_drew (S := fun w' => Below w.heap.size w w') (by kernel_rfl) (Below.dN (Below.refl _ w) 1) (fun hHeld => ?_)
  refine anyH_take (i := 1) (v := .slice (some ⟨b, off, none⟩) n c) (some 17) rfl rfl (by kernel_rfl) (by kernel_rfl) (by kernel_rfl) (fun _ _ _ h => h) (Or.inl ⟨by rfl, fun w' hw => by go_simp⟩) (by assumption) ?_
  simp only [Act.put, List.setIfInBounds_toArray, List.set_cons_zero, List.set_cons_succ]
  refine anyH_take (i := 2) (v := .pointer (some ⟨b, off, none⟩)) (some 18) rfl rfl (by kernel_rfl) (by kernel_rfl) (by kernel_rfl) (fun _ _ _ h => h) (Or.inl ⟨by rfl, fun w' hw => by (go_simp; try (intro h; omega))⟩) (by assumption) ?_
  simp only [Act.put, List.setIfInBounds_toArray, List.set_cons_zero, List.set_cons_succ]
  refine anyH_take (i := 3) (v := .pointer (some ⟨b, off, none⟩)) (some 19) rfl rfl (by kernel_rfl) (by kernel_rfl) (by kernel_rfl) (fun _ _ _ h => h) (Or.inl ⟨by rfl, fun w' hw => by go_simp⟩) (by assumption) ?_
  simp only [Act.put, List.setIfInBounds_toArray, List.set_cons_zero, List.set_cons_succ]
  refine anyH_take (i := 4) (some 20) rfl rfl (by kernel_rfl) (by kernel_rfl) (by kernel_rfl) (fun _ _ _ h => h) (yieldsIf_load_mid (by rfl) 23 (.tmp 19) rfl b off rfl YL _ (fun w' h => Hrk.out w' h) Try.underlying23 rfl HYi.out) (by assumption) ?_
  simp only [Act.put, List.setIfInBounds_toArray, List.set_cons_zero, List.set_cons_succ]
  refine anyH_take (i := 5) (v := .int .i64 (t : Nat)) (some 21) rfl rfl (by kernel_rfl) (by kernel_rfl) (by kernel_rfl) (fun _ _ _ h => h) (Or.inl ⟨by rfl, fun w' hw => by go_simp⟩) (by assumption) ?_
  simp only [Act.put, List.setIfInBounds_toArray, List.set_cons_zero, List.set_cons_succ]
  refine anyH_take (i := 8) (v := .slice (some ⟨b, off, none⟩) n c) (some 24) rfl rfl (by kernel_rfl) (by kernel_rfl) (by kernel_rfl) (fun _ _ _ h => h) (Or.inl ⟨by rfl, fun w' hw => by go_simp⟩) (by assumption) ?_
  simp only [Act.put, List.setIfInBounds_toArray, List.set_cons_zero, List.set_cons_succ]
  refine anyH_take (i := 9) (v := .pointer (some ⟨b, off, none⟩)) (some 25) rfl rfl (by kernel_rfl) (by kernel_rfl) (by kernel_rfl) (fun _ _ _ h => h) (Or.inl ⟨by rfl, fun w' hw => by (go_simp; try (intro h; omega))⟩) (by assumption) ?_
  simp only [Act.put, List.setIfInBounds_toArray, List.set_cons_zero, List.set_cons_succ]
  refine anyH_take (i := 10) (v := .pointer (some ⟨b, off + 32, none⟩)) (some 26) rfl rfl (by kernel_rfl) (by kernel_rfl) (by kernel_rfl) (fun _ _ _ h => h) (Or.inl ⟨by rfl, fun w' hw => by go_simp⟩) (by assumption) ?_
  simp only [Act.put, List.setIfInBounds_toArray, List.set_cons_zero, List.set_cons_succ]
  refine anyH_take (i := 11) (v := .slice Av nv cv) (some 27) rfl rfl (by kernel_rfl) (by kernel_rfl) (by kernel_rfl) (fun _ _ _ h => h) (Or.inl ⟨by rfl, fun w' hw => by (have hc := Hcv.out w' hw; go_simp)⟩) (by assumption) ?_
  simp only [Act.put, List.setIfInBounds_toArray, List.set_cons_zero, List.set_cons_succ]
  refine wpAnyH_ready (rs := [0, 6]) (by kernel_rfl) (by simp) ?_
  refine AllReadyH.cons rfl (fun K hK => ?_) (AllReadyH.cons rfl (fun K hK => ?_) AllReadyH.nil)
  · go_simp
    obtain ⟨g0, hg0⟩ : ∃ g, g = w.heap.size := ⟨_, rfl⟩
    obtain ⟨w1, hw1⟩ : ∃ W, W = (w.drewN 1).alloc (.cells #[.int .u8 0] 5) := ⟨_, rfl⟩
    have hown0 : Owns w1 w.heap.size 5 (.slice (some ⟨g0, 0, none⟩) 1 1) [0] := by rw [hw1, hg0]; exact own_one (w.drewN 1) w.heap.size (Nat.le_refl _) 0 0 rfl
    have hb1 : Below w.heap.size w w1 := by rw [hw1]; exact (Below.dN (Below.refl _ w) 1).alloc (Nat.le_refl _) _
    have hgs : g0 < w1.heap.size := by rw [hw1, hg0]; simp
    have Hg0 := Lib.hid hg0
    have Hw1 := Lib.hid hw1
    clear hw1 hg0
    rw [← Hg0.out]
    change K _ ((w.drewN 1).alloc (.cells #[.int .u8 0] 5))
    rw [← Hw1.out]
    refine hK.out _ _ hb1 (fun hHeldx => ?_)
    clear hK K
    try simp only [Act.put, List.setIfInBounds_toArray, List.set_cons_zero, List.set_cons_succ]
    refine wpAnyH_ready (rs := [6]) (by kernel_rfl) (by simp) ?_
    refine AllReadyH.cons rfl (fun K hK => ?_) AllReadyH.nil
    go_simp
    go_at_call 25
    refine Calls.mono (rest_run x.key Hxk.out YL HYL.out t 64 ht (Nat.le_refl _) w1) ?_
    rintro e wz ⟨vR, rfl, hownR, hbR⟩
    have hown0 := hown0.below hbR (fun k hk => (hown0.lt k hk).2)
    have hbz : Below w.heap.size w wz := hb1.trans (hbR.mono hb1.size)
    have hsep : g0 < w1.heap.size := hgs
    obtain ⟨AR, cR, rfl, hR1, hR2, hR3⟩ := hownR.slice
    have hap : ∀ a : Addr, AR = some a → 0 < 64 - t → (Value.slice (some ⟨g0, 0, none⟩) 1 1).ownBlock ≠ some a.block := fun a ea _ e => by
      have h1 := hownR.lt a.block (by rw [ea]; rfl)
      simp only [Value.ownBlock, Option.some.injEq] at e
      omega
    rw [Hrl.out] at hR1 ⊢
    clear hb1 hbR hgs hsep
    dsimp only
    go_wp2_with fail
    refine hK.out _ _ hbz (fun hHeldx => ?_)
    clear hK K
    try simp only [Act.put, List.setIfInBounds_toArray, List.set_cons_zero, List.set_cons_succ]
    refine wpAnyH_ready (rs := [7]) (by kernel_rfl) (by simp) ?_
    refine AllReadyH.cons rfl (fun K hK => ?_) AllReadyH.nil
    go_simp
    go_at_call 27
    refine Calls.mono (rbytes_gen w.heap.size _ [0] (restF x.key t 64) AR (64 - t) cR wz hown0 hbz.size hR3 Hrl.out hap (by simp; omega)) ?_
    rintro e w4 ⟨v1, rfl, hown1, hg1⟩
    have hb4 : Below w.heap.size w w4 := hbz.trans (hg1.below hbz.size (fun k hk => (hown0.lt k hk).1))
    clear hownR hR1 hR2 hR3 hap hown0 hg1 hbz
    dsimp only
    go_wp2_with fail
    refine hK.out _ _ hb4 (fun hHeldx => ?_)
    clear hK K
    try simp only [Act.put, List.setIfInBounds_toArray, List.set_cons_zero, List.set_cons_succ]
    refine wpAnyH_ready (rs := [12]) (by kernel_rfl) (by simp) ?_
    refine AllReadyH.cons rfl (fun K hK => ?_) AllReadyH.nil
    go_simp
    go_at_call 27
    refine Calls.mono (rbytes_gen w.heap.size v1 _ x.val Av nv cv w4 hown1 hb4.size ((Hvb.out.below hb4 (Nat.le_refl _)).more hb4.size) Hnv.out (fun a ea h0 e => ?hap) (by have := bytB_len (restF x.key t 64) (by rw [Hrl.out]; omega); rw [Hrl.out] at this; simp only [List.length_append, List.length_cons, List.length_nil]; omega)) ?_
    case hap =>
      have h1 := (hown1.lt _ e).1
      obtain ⟨b', off', e2, hlt, _⟩ := Hvb.out (by rw [Hnv.out]; exact h0)
      rw [ea] at e2
      injection e2 with e2
      subst e2
      simp only at h1
      omega
    rintro e w5 ⟨v2, rfl, hown2, hg2⟩
    have hb5 : Below w.heap.size w w5 := hb4.trans (hg2.below hb4.size (fun k hk => (hown1.lt k hk).1))
    clear hown1 hg2 hb4
    dsimp only
    go_wp2_with fail
    refine hK.out _ _ hb5 (fun hHeldx => ?_)
    clear hK K
    try simp only [Act.put, List.setIfInBounds_toArray, List.set_cons_zero, List.set_cons_succ]
    refine anyH_take (i := 13) (v := v2) (some 4) rfl rfl (by kernel_rfl) (by kernel_rfl) (by kernel_rfl) (fun _ _ _ h => h) (Or.inl ⟨by rfl, fun w' hw => by go_simp⟩) (by assumption) ?_
    simp only [Act.put, List.setIfInBounds_toArray, List.set_cons_zero, List.set_cons_succ]
    refine wpAnyH_done (by kernel_rfl) ?_ _
    clear hHeld
    go_wp2_with fail
    go_ret
    exact ⟨_, rfl, hown2, hb5⟩
  · go_simp
    go_at_call 25
    refine Calls.mono (rest_run x.key Hxk.out YL HYL.out t 64 ht (Nat.le_refl _) (w.drewN 1)) ?_
    rintro e w1 ⟨vR, rfl, hownR, hbR⟩
    have hb1 : Below w.heap.size w w1 := Below.dI (n := 1) hbR
    dsimp only
    go_wp2_with fail
    refine hK.out _ _ hb1 (fun hHeldx => ?_)
    clear hK K
    try simp only [Act.put, List.setIfInBounds_toArray, List.set_cons_zero, List.set_cons_succ]
    refine wpAnyH_ready (rs := [0]) (by kernel_rfl) (by simp) ?_
    refine AllReadyH.cons rfl (fun K hK => ?_) AllReadyH.nil
    go_simp
    obtain ⟨g0, hg0⟩ : ∃ g, g = w1.heap.size := ⟨_, rfl⟩
    obtain ⟨wz, hwz⟩ : ∃ W, W = w1.alloc (.cells #[.int .u8 0] 5) := ⟨_, rfl⟩
    have hown0 : Owns wz w.heap.size 5 (.slice (some ⟨g0, 0, none⟩) 1 1) [0] := by rw [hwz, hg0]; exact own_one w1 w.heap.size hb1.size 0 0 rfl
    have hbz : Below w.heap.size w wz := by rw [hwz]; exact hb1.alloc hb1.size _
    have hlt1 := hownR.lt
    have hownR : Owns wz w.heap.size 5 vR (restF x.key t 64) := by rw [hwz]; exact hownR.below (B' := w1.heap.size) ((Below.refl _ w1).alloc (Nat.le_refl _) _) (fun k hk => (hlt1 k hk).2)
    have Hg0 := Lib.hid hg0
    have Hwz := Lib.hid hwz
    have hlt2 : ∀ k, vR.ownBlock = some k → k < g0 := fun k hk => by rw [hg0]; exact (hlt1 k hk).2
    clear hwz hg0 hlt1
    rw [← Hg0.out]
    change K _ (w1.alloc (.cells #[.int .u8 0] 5))
    rw [← Hwz.out]
    obtain ⟨AR, cR, rfl, hR1, hR2, hR3⟩ := hownR.slice
    have hap : ∀ a : Addr, AR = some a → 0 < 64 - t → (Value.slice (some ⟨g0, 0, none⟩) 1 1).ownBlock ≠ some a.block := fun a ea _ e => by
      have h1 := hlt2 a.block (by rw [ea]; rfl)
      simp only [Value.ownBlock, Option.some.injEq] at e
      omega
    rw [Hrl.out] at hR1 ⊢
    clear hb1 hbR hlt2
    refine hK.out _ _ hbz (fun hHeldx => ?_)
    clear hK K
    try simp only [Act.put, List.setIfInBounds_toArray, List.set_cons_zero, List.set_cons_succ]
    refine wpAnyH_ready (rs := [7]) (by kernel_rfl) (by simp) ?_
    refine AllReadyH.cons rfl (fun K hK => ?_) AllReadyH.nil
    go_simp
    go_at_call 27
    refine Calls.mono (rbytes_gen w.heap.size _ [0] (restF x.key t 64) AR (64 - t) cR wz hown0 hbz.size hR3 Hrl.out hap (by simp; omega)) ?_
    rintro e w4 ⟨v1, rfl, hown1, hg1⟩
    have hb4 : Below w.heap.size w w4 := hbz.trans (hg1.below hbz.size (fun k hk => (hown0.lt k hk).1))
    clear hownR hR1 hR2 hR3 hap hown0 hg1 hbz
    dsimp only
    go_wp2_with fail
    refine hK.out _ _ hb4 (fun hHeldx => ?_)
    clear hK K
    try simp only [Act.put, List.setIfInBounds_toArray, List.set_cons_zero, List.set_cons_succ]
    refine wpAnyH_ready (rs := [12]) (by kernel_rfl) (by simp) ?_
    refine AllReadyH.cons rfl (fun K hK => ?_) AllReadyH.nil
    go_simp
    go_at_call 27
    refine Calls.mono (rbytes_gen w.heap.size v1 _ x.val Av nv cv w4 hown1 hb4.size ((Hvb.out.below hb4 (Nat.le_refl _)).more hb4.size) Hnv.out (fun a ea h0 e => ?hap) (by have := bytB_len (restF x.key t 64) (by rw [Hrl.out]; omega); rw [Hrl.out] at this; simp only [List.length_append, List.length_cons, List.length_nil]; omega)) ?_
    case hap =>
      have h1 := (hown1.lt _ e).1
      obtain ⟨b', off', e2, hlt, _⟩ := Hvb.out (by rw [Hnv.out]; exact h0)
      rw [ea] at e2
      injection e2 with e2
      subst e2
      simp only at h1
      omega
    rintro e w5 ⟨v2, rfl, hown2, hg2⟩
    have hb5 : Below w.heap.size w w5 := hb4.trans (hg2.below hb4.size (fun k hk => (hown1.lt k hk).1))
    clear hown1 hg2 hb4
    dsimp only
    go_wp2_with fail
    refine hK.out _ _ hb5 (fun hHeldx => ?_)
    clear hK K
    try simp only [Act.put, List.setIfInBounds_toArray, List.set_cons_zero, List.set_cons_succ]
    refine anyH_take (i := 13) (v := v2) (some 4) rfl rfl (by kernel_rfl) (by kernel_rfl) (by kernel_rfl) (fun _ _ _ h => h) (Or.inl ⟨by rfl, fun w' hw => by go_simp⟩) (by assumption) ?_
    simp only [Act.put, List.setIfInBounds_toArray, List.set_cons_zero, List.set_cons_succ]
    refine wpAnyH_done (by kernel_rfl) ?_ _
    clear hHeld
    go_wp2_with fail
    go_ret
    exact ⟨_, rfl, hown2, hb5⟩

end Go.Proofs.Ytnhfbggaiecalaa

namespace Go.Proofs.Ytnhfbggaiecalaa
open Go.RowKit
set_option linter.unusedVariables false
set_option linter.unusedSimpArgs false

theorem rows_oneI {w : World} {B : Nat} {A : Option Addr} {l : List UInt8} {n c : Nat} (T : TypeId) (hn : l.length = n) (hc : n ≤ c) (hm : c ≤ maxLen) (h : Bs w B A l) (hB : B ≤ w.heap.size) :
    RowsAt (w.alloc (.cells #[.slice A n c] T)) (w.heap.size + 1) (some ⟨w.heap.size, 0, none⟩) [l] := fun _ => by
  subst hn
  have ha := Arr.new w T [.slice A l.length c]
  have hb : Below w.heap.size w (w.alloc (.cells #[.slice A l.length c] T)) := (Below.refl _ w).alloc (Nat.le_refl _) _
  refine ⟨w.heap.size, 0, rfl, by omega, fun i hi => ?_⟩
  have hi2 : i = 0 := by simp at hi; omega
  subst hi2
  exact ⟨A, c, ha.cell 0, hc, hm, (h.below hb hB).more (by omega)⟩
theorem Arr.bsI {w : World} {g : Nat} {T : TypeId} {l : List UInt8} {cs : List Value} (h : Arr w g T cs) (hc : cs = Lib.byteCells l) : Bs w w.heap.size (some ⟨g, 0, none⟩) l := fun hp => by
  refine ⟨g, 0, rfl, h.lt, fun j hj => ?_⟩
  rw [h.cell, hc, Nat.zero_add]
  exact byteCells_get hj
theorem tag_bound (b : List UInt8) (hb : b.length ≤ 2000) : (tagF 4 [b]).length ≤ 1000000 := by
  unfold tagF
  have := Lib.uvarint_length64 (x := b.length) (by omega)
  simp only [List.flatMap_cons, List.flatMap_nil, List.length_append, List.length_cons, List.length_nil]
  omega

set_option maxHeartbeats 16000000 in
set_option maxRecDepth 100000 in
theorem node_branchI (f : Nat) (hIH : NodesI f) (xs : List Itm) (t : Nat) (A : Option Addr) (n c : Nat) (w : World) (hn : xs.length = n) (h2 : 2 ≤ n) (hc : n ≤ c) (hm : n ≤ 1000) (hgood : Good (xs.map Itm.it)) (hag : ∀ i, i < t → agreeF (xs.map Itm.it) i = true) (ht : t ≤ 64) (hf : 65 - t ≤ f + 1) (hval : ∀ x ∈ xs, x.val.length ≤ 1000) (hok : ItsOk w w.heap.size xs) (hIt : ItsAt w A xs) :
    Calls Try.prog 23 #[.slice A n c, .int .i64 (t : Nat)] w fun e w' => ∃ v, e = .returned v ∧ Owns w' w.heap.size 5 v (nodeF (f + 1) (xs.map Itm.it) t) ∧ Below w.heap.size w w' := by
  obtain ⟨i0, hi, hz0, hz1, hz2⟩ := info_parts byteInfo
  obtain ⟨L, hL⟩ : ∃ L, xs.map Itm.it = L := ⟨_, rfl⟩
  rw [hL] at hgood hag ⊢
  have hLn : L.length = n := by rw [← hL, List.length_map, hn]
  obtain ⟨sh, hsh⟩ : ∃ sh, sharedF L t = sh := ⟨_, rfl⟩
  have hsh64 : sh < 64 := by rw [← hsh]; exact hgood.split (by omega) ht hag
  have hts : t ≤ sh := by rw [← hsh]; exact sharedF_ge L t
  have hshag : ∀ i, i < sh → agreeF L i = true := by rw [← hsh]; exact shared_agree hag
  obtain ⟨x0, hx0⟩ : ∃ x, xs[0]? = some x := ⟨xs[0]'(by omega), List.getElem?_eq_getElem _⟩
  obtain ⟨b, off, rfl, hbl, hrow⟩ := hIt (by omega)
  obtain ⟨hxk, hrg⟩ := hrow 0 x0 hx0
  obtain ⟨YL, hYL⟩ : ∃ YL, YL = Lib.byteCells x0.key := ⟨_, rfl⟩
  have Hrk : Hid (∀ w', Below w.heap.size w w' → w'.rangeAt b off YL) := fun w' hb => by
    have h := ItsAt.key hrg YL hYL
    rw [Nat.zero_mul, Nat.add_zero] at h
    intro j v hj
    rw [← h j v hj]
    exact World.cell?_of_block (hb.block b hbl)
  have HYi := Lib.hid (show (Try.prog.info? 23).map (·.size) = some YL.length by rw [hYL, Lib.byteCells_length, hxk]; kernel_rfl)
  have hhead : (L.headD ([], [])).1 = x0.key := by
    rw [← hL]
    cases xs with
    | nil => simp at hx0
    | cons y ys => simp at hx0; subst hx0; rfl
  obtain ⟨R0, hR0⟩ : ∃ R, restF x0.key t sh = R := ⟨_, rfl⟩
  have hRl : R0.length = sh - t := by rw [← hR0]; exact restF_length _ _ _
  have Hfin : Hid (nodeF (f + 1) L t = [1] ++ bytB R0 ++ Lib.uvarint (maskF L sh 16) ++ kidsB f L sh 16) := by
    show _ = _
    rw [nodeF_two f L t (by omega), hsh, hhead, hR0]
  have HIt := Lib.hid hIt
  have Hok := Lib.hid hok
  have Hval := Lib.hid hval
  have Hgood := Lib.hid hgood
  have Hshag := Lib.hid hshag
  have HL := Lib.hid hL
  have Hn := Lib.hid hn
  have Hsh : Hid (sharedI xs t = sh) := by show sharedF (xs.map Itm.it) t = sh; rw [hL, hsh]
  have HYL := Lib.hid hYL
  have Hxk := Lib.hid hxk
  have HR0 := Lib.hid hR0
  have HRl := Lib.hid hRl
  have hd1 : ((n : Int) == 1) = false := by rw [beq_eq_false_iff_ne]; omega
  have hn0 : ¬ (n = 0) := by omega
  clear hIt hok hval hgood hag hshag hL hn hsh hYL hxk hR0 hRl hrow hrg hhead hx0 hLn
  go_enter Try.func23, Try.ntmps23
  go_wp2_with fail
  go_at_call 24
  refine Calls.mono (shared_run xs _ n c t w Hn.out (by omega) hc (by omega) ht HIt.out sh Hsh.out) ?_
  rintro e w1 ⟨rfl, hb1⟩
  have hbx : Below w.heap.size w (w1.alloc (.cells #[.int .u8 1] 5)) := hb1.alloc hb1.size _
  have hrk := Hrk.out _ hbx
  have hown0 := own_one w1 w.heap.size hb1.size 1 1 rfl
  have hbx1 : Below w1.heap.size w1 (w1.alloc (.cells #[.int .u8 1] 5)) := (Below.refl _ w1).alloc (Nat.le_refl _) _
  dsimp only
  go_wp2_with (refine wpList_load_mid rfl _ _ rfl b off rfl YL _ hrk Try.underlying23 rfl HYi.out ?_)
  go_at_call 25
  refine Calls.mono (rest_run x0.key Hxk.out YL HYL.out t sh hts (Nat.le_of_lt hsh64) _) ?_
  rintro e w3 ⟨vR, rfl, hownR, hbR⟩
  rw [HR0.out] at hownR
  have hown3 := hown0.below hbR (fun k hk => (hown0.lt k hk).2)
  have hb3 : Below w.heap.size w w3 := hbx.trans (hbR.mono hbx.size)
  obtain ⟨AR, cR, rfl, hR1, hR2, hR3⟩ := hownR.slice
  have hap : ∀ a : Addr, AR = some a → 0 < sh - t → (Value.slice (some ⟨w1.heap.size, 0, none⟩) 1 1).ownBlock ≠ some a.block := fun a ea _ e => by
    have h1 := (hownR.lt a.block (by rw [ea]; rfl)).1
    simp only [Value.ownBlock, Option.some.injEq] at e
    simp at h1
    omega
  rw [HRl.out] at hR1 ⊢
  clear hown0 hbR hbx hbx1 hrk hownR
  dsimp only
  go_wp2_with fail
  go_at_call 27
  refine Calls.mono (rbytes_gen w.heap.size _ [1] R0 AR (sh - t) cR w3 hown3 hb3.size hR3 HRl.out hap (by simp; omega)) ?_
  rintro e w4 ⟨v6, rfl, hown6, hg6⟩
  have hb4 : Below w.heap.size w w4 := hb3.trans (hg6.below hb3.size (fun k hk => (hown3.lt k hk).1))
  clear hown3 hb3 hR3 hR1 hR2 hap hg6 hb1
  dsimp only
  obtain ⟨W5, hW5⟩ : ∃ W, W = w4.alloc (.cells #[] 5) := ⟨_, rfl⟩
  have hO5 : Owns W5 w4.heap.size 5 (.slice (some ⟨w4.heap.size, 0, none⟩) 0 0) (kidsB f L sh 0) := by
    rw [hW5, show kidsB f L sh 0 = [] by simp [kidsB]]
    exact ⟨by simp [Lib.byteCells], .inr ⟨w4.heap.size, 0, #[], rfl, Nat.le_refl _, heap_alloc_new w4 _, Nat.le_refl _, by unfold maxLen; omega, by simp, by simp [Lib.byteCells]⟩⟩
  have hb45 : Below w4.heap.size w4 W5 := by rw [hW5]; exact (Below.refl _ w4).alloc (Nat.le_refl _) _
  have HW5 := Lib.hid hW5
  clear hW5
  go_upto_region 7 with fail
  change Code.wp _ _ _ _ (w4.alloc (.cells #[] 5))
  rw [← HW5.out]
  clear HW5
  go_upto_region 9 with fail
  go_loopw [7, 8, 9, 10] (fun mm dd bb s wr => ∃ j : Nat, j ≤ 16 ∧ s = .int .u8 j ∧ bb = .int .u64 (2 ^ j : Nat) ∧ mm = .int .u64 (maskF L sh j : Nat) ∧ Below w4.heap.size w4 wr ∧ Owns wr w4.heap.size 5 dd (kidsB f L sh j)) (fun _ _ _ s _ => 16 - (intOf s).toNat)
  case atStart => exact ⟨0, by omega, rfl, by rw [Nat.pow_zero]; rfl, rfl, hb45, hO5⟩
  case round =>
    clear hb45 hO5
    obtain ⟨j, hj16, rfl, rfl, rfl, hbr, hO⟩ := hrel
    obtain ⟨mj, hmj⟩ : ∃ m, maskF L sh j = m := ⟨_, rfl⟩
    have hmlt := maskF_lt L sh j
    rw [hmj] at hmlt ⊢
    have Hmj := Lib.hid hmj
    have hp2 : 2 ^ j ≤ 65536 := Nat.le_trans (Nat.pow_le_pow_right (by omega) hj16) (Nat.le_refl _)
    obtain ⟨bj, hbj⟩ : ∃ b, 2 ^ j = b := ⟨_, rfl⟩
    rw [hbj] at hp2 hmlt ⊢
    have Hbj := Lib.hid hbj
    clear hmj hbj
    by_cases hlt : j < 16
    · have hd2 : decide ((j : Int) < (16 : Int)) = true := by simp; omega
      have hw2 : IntKind.u64.wrap (2 * (bj : Int)) = ((2 * bj : Nat) : Int) := by rw [IntWalk.u64_in _ (by omega)]; omega
      obtain ⟨b2, hb2e⟩ : ∃ b2, 2 * bj = b2 := ⟨_, rfl⟩
      rw [hb2e] at hw2
      have Hb2 : Hid (b2 = 2 ^ (j + 1)) := by show _ = _; rw [← hb2e, ← Hbj.out, Nat.pow_succ]; omega
      have hbw : Below w.heap.size w wr := hb4.trans (hbr.mono hb4.size)
      have hItr := HIt.out.up hbw
      clear hb2e
      go_wp2_with fail
      go_at_call 26
      refine Calls.mono (part_run xs _ n c sh j wr Hn.out hc (by omega) hsh64 (by omega) hItr) ?_
      rintro e wa ⟨vp, rfl, hrowp, hbra⟩
      obtain ⟨Ap, cp, rfl, hp1, hp3, hItp⟩ := hrowp.slice
      obtain ⟨ps, hps⟩ : ∃ ps, partI xs sh j = ps := ⟨_, rfl⟩
      rw [hps] at hp1 hItp hrowp ⊢
      obtain ⟨np, hnp⟩ : ∃ np, ps.length = np := ⟨_, rfl⟩
      rw [hnp] at hp1 ⊢
      have hLp : ps.map Itm.it = subF L sh j := by rw [← hps, map_part, HL.out]
      have hnpn : np ≤ n := by rw [← hnp, ← hps, ← Hn.out]; exact partI_len _ _ _
      have hba : Below w4.heap.size w4 wa := hbr.trans (hbra.mono hbr.size)
      have hOa := hO.below hbra (fun k hk => (hO.lt k hk).2)
      have hbwa : Below w.heap.size w wa := hbw.trans (hbra.mono hbw.size)
      have Hps := Lib.hid hps
      have Hnp := Lib.hid hnp
      have HLp := Lib.hid hLp
      clear hps hnp hLp hO hbr hbra hItr hrowp hbw
      dsimp only
      by_cases h0 : np = 0
      · have hd3 : decide ((0 : Int) < (np : Int)) = false := by simp; omega
        have hsub : subF L sh j = [] := by rw [← HLp.out, List.eq_nil_of_length_eq_zero (by rw [Hnp.out]; exact h0 : ps.length = 0)]; rfl
        have hOn := hOa
        rw [show kidsB f L sh j = kidsB f L sh (j + 1) by rw [kidsB_succ, if_pos hsub, List.append_nil]] at hOn
        have Hm2 : Hid (maskF L sh (j + 1) = mj) := by show _ = _; rw [maskF_succ, if_pos hsub, Hmj.out]; rfl
        clear hOa hsub
        go_wp2_with fail
        go_roundw
        case rel => exact ⟨j + 1, by omega, by go_num, by rw [← Hb2.out], by rw [Hm2.out], hba, hOn⟩
        case measure => simp [intOf]; omega
      · have hd3 : decide ((0 : Int) < (np : Int)) = true := by simp; omega
        have hsub : subF L sh j ≠ [] := by rw [← HLp.out]; intro e; have := congrArg List.length e; simp at this; rw [this] at Hnp; have := Hnp.out; simp at this; omega
        obtain ⟨m2, hm2⟩ : ∃ m2, mj + bj = m2 := ⟨_, rfl⟩
        have hwm : IntKind.u64.wrap ((mj : Int) + (bj : Int)) = (m2 : Int) := by rw [IntWalk.u64_in _ (by omega)]; omega
        have Hm2 : Hid (maskF L sh (j + 1) = m2) := by show _ = _; rw [maskF_succ, if_neg hsub, Hmj.out, Hbj.out, hm2]
        obtain ⟨s1, hs1⟩ : ∃ s1, sh + 1 = s1 := ⟨_, rfl⟩
        have hws : IntKind.i64.wrap ((sh : Int) + 1) = (s1 : Int) := by rw [IntWalk.i64_in _ (by omega)]; omega
        obtain ⟨Y, hY⟩ : ∃ Y, nodeF f (subF L sh j) s1 = Y := ⟨_, rfl⟩
        have hpsm : ∀ y ∈ ps, y ∈ xs := fun y hy => by rw [← Hps.out] at hy; exact (part_mem hy).1
        have hih := hIH ps s1 Ap np cp wa Hnp.out (by omega) hp1 (by omega) (by rw [HLp.out]; exact Hgood.out.part sh j) (by rw [HLp.out, ← hs1]; exact part_agree Hshag.out) (by omega) (by omega) (fun y hy => Hval.out y (hpsm y hy)) (fun y hy => by have h := (Hok.out.below hbwa (Nat.le_refl _)) y (hpsm y hy); exact ⟨h.k32, h.le, h.lim, h.bs.more hbwa.size⟩) hItp
        rw [HLp.out, hY] at hih
        have hYl : Y.length ≤ 1900 := by
          rw [← hY]
          refine nodeF_len f _ s1 (fun y hy => ?_) (by omega) (by rw [← HLp.out, List.length_map, Hnp.out]; omega)
          rw [← HLp.out] at hy
          obtain ⟨z, hz, rfl⟩ := List.mem_map.1 hy
          exact Hval.out z (hpsm z hz)
        have Hih := Lib.hid hih
        have HYl := Lib.hid hYl
        obtain ⟨DL, hDL⟩ : ∃ DL, DL = Lib.byteCells (shaF (tagF 4 [Y])) := ⟨_, rfl⟩
        have hkn : kidsB f L sh (j + 1) = kidsB f L sh j ++ shaF (tagF 4 [Y]) := by rw [kidsB_succ, if_neg hsub, hs1, hY]
        have hDl : DL.length = 32 := by rw [hDL, Lib.byteCells_length]; exact shaF_length _
        have HDi := Lib.hid (show (Try.prog.info? 23).map (·.size) = some DL.toArray.size by rw [List.size_toArray, hDl]; kernel_rfl)
        have HD1 := Lib.hid (show DL.toArray.all (·.oneCell') = true by rw [hDL]; simpa using byteCells_one _)
        have HDz := Lib.hid (show (Lib.byteCells zeros).toArray.size = DL.toArray.size by rw [List.size_toArray, List.size_toArray, hDl, Lib.byteCells_length]; simp [zeros])
        have HDL := Lib.hid hDL
        have Hkn := Lib.hid hkn
        clear hm2 hs1 hY hih hYl hDL hkn hDl hsub hpsm hItp
        go_wp2_with fail
        go_at_call 23
        refine Calls.mono Hih.out ?_
        rintro e wb ⟨vN, rfl, hownN, hbab⟩
        obtain ⟨AN, cN, rfl, hN1, hN2, hN3⟩ := hownN.slice
        obtain ⟨nN, hnN⟩ : ∃ nN, Y.length = nN := ⟨_, rfl⟩
        rw [hnN] at hN1 ⊢
        have hrowY := (rows_oneI (w := wb) (B := wb.heap.size) 27 hnN hN1 hN2 hN3 (Nat.le_refl _)).more (Nat.le_of_eq (show wb.heap.size + 1 = (wb.alloc (.cells #[.slice AN nN cN] 27)).heap.size by simp))
        have hbb : Below w4.heap.size w4 (wb.alloc (.cells #[.slice AN nN cN] 27)) := (hba.trans (hbab.mono hba.size)).alloc (Nat.le_trans hba.size hbab.size) _
        have hOb := (hOa.below hbab (fun k hk => (hOa.lt k hk).2)).below ((Below.refl _ wb).alloc (Nat.le_refl _) (.cells #[.slice AN nN cN] 27)) (fun k hk => Nat.lt_of_lt_of_le (hOa.lt k hk).2 hbab.size)
        clear hownN hbab hN1 hN2 hN3 hnN hOa hba hbwa
        dsimp only
        go_wp2_with fail
        go_at_call 16
        refine Calls.mono (rtag_at 4 4 [Y] DL _ 1 1 _ rfl HDL.out rfl (by omega) hrowY (tag_bound Y (by have := HYl.out; omega))) ?_
        rintro e wc ⟨rfl, hbbc⟩
        have hbc : Below w4.heap.size w4 wc := hbb.trans (hbbc.mono hbb.size)
        have hOc := hOb.below hbbc (fun k hk => (hOb.lt k hk).2)
        clear hbb hbbc hOb hrowY
        obtain ⟨wd, hwd⟩ : ∃ W, W = (wc.alloc (.cells (Lib.byteCells zeros).toArray 23)).setRow wc.heap.size DL.toArray := ⟨_, rfl⟩
        obtain ⟨hDd, hbcd⟩ := alloc_row wc 23 (Lib.byteCells zeros).toArray DL
        rw [← hwd] at hDd hbcd
        have hbd : Below w4.heap.size w4 wd := hbc.trans (hbcd.mono hbc.size)
        have hOd := hOc.below hbcd (fun k hk => (hOc.lt k hk).2)
        have hDbs := hDd.bsI HDL.out
        have hDlen : (shaF (tagF 4 [Y])).length = 32 := shaF_length _
        have hkl : (kidsB f L sh j).length + 32 ≤ 140737488355328 := by have := kidsB_len f L sh j; omega
        have Hwd := Lib.hid hwd
        have Hkl := Lib.hid hkl
        have HDlen := Lib.hid hDlen
        clear hwd hbc hOc hbcd hDd hDlen hkl
        dsimp only
        go_wp2_with (first
          | (change wpList _ _ _ _ _ (wc.alloc (.cells (Lib.byteCells zeros).toArray 23)); refine wpList_store_row rfl _ _ _ rfl wc.heap.size DL.toArray rfl rfl 23 (Lib.byteCells zeros).toArray (heap_alloc_new wc _) HDi.out HDz.out HD1.out ?_; rw [← Hwd.out])
          | (at_builtin; refine wpList_append_bs rfl _ _ 27 rfl w4.heap.size 5 i0 (.int .u8 0) Try.underlying27 hi hz0 hz1 hz2 rfl _ (kidsB f L sh j) rfl hOd wd.heap.size (some ⟨wc.heap.size, 0, none⟩) 32 32 (shaF (tagF 4 [Y])) rfl HDlen.out hDbs Hkl.out hbd.size ?_; intro v' we hOe hge; have hlte := hOd.lt))
        have hbe : Below w4.heap.size w4 we := hbd.trans (hge.below hbd.size (fun k hk => (hOd.lt k hk).1))
        rw [← Hkn.out] at hOe
        go_roundw
        case rel => exact ⟨j + 1, by omega, by go_num, by rw [← Hb2.out], by rw [Hm2.out], hbe, hOe⟩
        case measure => simp [intOf]; omega
    · obtain rfl : j = 16 := by omega
      have hd2 : decide (((16 : Nat) : Int) < (16 : Int)) = false := by simp
      obtain ⟨Ad, cd, rfl, hk1, hk2, hk3⟩ := hO.slice
      obtain ⟨Dk, hDk⟩ : ∃ Dk, kidsB f L sh 16 = Dk := ⟨_, rfl⟩
      have hkl : Dk.length ≤ 512 := by rw [← hDk]; have := kidsB_len f L sh 16; omega
      rw [hDk] at hO hk1 hk3 ⊢
      obtain ⟨nk, hnk⟩ : ∃ nk, Dk.length = nk := ⟨_, rfl⟩
      have HO := Lib.hid hO
      rw [hnk] at hkl hk1 ⊢
      have hown7 := hown6.below hbr (fun k hk => (hown6.lt k hk).2)
      have hbw : Below w.heap.size w wr := hb4.trans (hbr.mono hb4.size)
      have h6lt := hown6.lt
      have Hnk := Lib.hid hnk
      have HDk := Lib.hid hDk
      clear hO hk3 hnk hDk hown6 hb4
      go_wp2_with fail
      go_at_call 38
      refine Calls.mono (rnumber_any w.heap.size mj (by omega) v6 _ wr hown7 hbw.size (by have h1 := bytB_len R0 (by rw [HRl.out]; omega); rw [HRl.out] at h1; simp only [List.length_append, List.length_cons, List.length_nil]; omega)) ?_
      rintro e w8 ⟨v7, rfl, hown8, hg8⟩
      have hO8 : Owns w8 w4.heap.size 5 (.slice Ad nk cd) Dk := by
        have h := HO.out.apart hg8.1 (fun k hk e => by have h1 := (HO.out.lt k hk).1; have h2 := (h6lt k e).2; omega)
        rw [Hnk.out] at h
        exact h
      have hb8 : Below w.heap.size w w8 := hbw.trans (hg8.below hbw.size (fun k hk => (h6lt k hk).1))
      have hDb := hO8.bs.2
      have hll : ([1] ++ bytB R0 ++ Lib.uvarint mj).length + nk ≤ 140737488355328 := by
        have h1 := bytB_len R0 (by rw [HRl.out]; omega)
        rw [HRl.out] at h1
        have h2 := Lib.uvarint_length64 (x := mj) (by omega)
        simp only [List.length_append, List.length_cons, List.length_nil]
        omega
      have Hll := Lib.hid hll
      clear hown7 hg8 hO8 hbw hbr HO hll
      dsimp only
      go_wp2_with (at_builtin; refine wpList_append_bs rfl _ _ 27 rfl w.heap.size 5 i0 (.int .u8 0) Try.underlying27 hi hz0 hz1 hz2 rfl v7 ([1] ++ bytB R0 ++ Lib.uvarint mj) rfl hown8 w8.heap.size Ad nk cd Dk rfl Hnk.out hDb Hll.out hb8.size ?_)
      intro v' w9 hown9 hg9
      go_wp2
      go_ret
      refine ⟨_, rfl, ?_, hb8.trans (hg9.below hb8.size (fun k hk => (hown8.lt k hk).1))⟩
      rw [Hfin.out, Hmj.out, HDk.out]
      first
        | exact hown9
        | (simp only [List.append_assoc, List.cons_append, List.nil_append] at hown9 ⊢; exact hown9)

theorem nodesI : ∀ f, NodesI f
  | 0 => fun xs t A n c w hn h0 hc hm hg ha ht hf => absurd hf (by omega)
  | f + 1 => fun xs t A n c w hn h0 hc hm hg ha ht hf hv hok hIt => by
    rcases Nat.lt_or_ge n 2 with h | h
    · match xs, hn, h0, h, hv, hok, hIt with
      | [x], hn, _, _, hv, hok, hIt =>
        have hn1 : n = 1 := by rw [← hn]; rfl
        have := node_leafI x t A n c hn1 w hc ht (hv x (by simp)) (hok x (by simp)) hIt
        exact this
    · exact node_branchI f (nodesI f) xs t A n c w hn h hc hm hg ha ht hf hv hok hIt

end Go.Proofs.Ytnhfbggaiecalaa

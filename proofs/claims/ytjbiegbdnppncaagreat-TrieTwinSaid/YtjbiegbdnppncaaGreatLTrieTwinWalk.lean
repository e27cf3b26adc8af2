/-
  The walk of TrieTwin. Written by gen_ttwin.py.
-/
import Derived.Test.YtjbiegbdnppncaaGreatLTrieKeys
import Derived.Test.YtjbiegbdnppncaaGreatLTrieTProve
import Derived.Test.YtjbiegbdnppncaaGreatLTrieDropsWalk
namespace Go.Proofs.YtjbiegbdnppncaaGreat
open Go.RowKit
set_option linter.unusedVariables false
set_option linter.unusedSimpArgs false


theorem drop_putT {key val : List UInt8} (hk : key.length = 32) {l : List It} (h : Rise l) (h32 : ∀ x ∈ l, x.1.length = 32) : dropF key (putF key val l) = dropF key l := by
  refine rise_ext ((h.put _ _).drop _) (h.drop _) fun x => ?_
  rw [mem_dropF, mem_dropF, mem_putF hk h32]
  constructor
  · rintro ⟨h | h, hn⟩
    · exact absurd (by rw [h]) hn
    · exact ⟨h.1, hn⟩
  · rintro ⟨h, hn⟩
    exact ⟨.inr ⟨h, hn⟩, hn⟩
theorem xor_u8 (x : Nat) (hx : x < 256) : ∃ y : Nat, y < 256 ∧ bits .xor .u8 (x : Int) 1 = (y : Int) := by
  have h : ∀ x : Fin 256, 0 ≤ bits .xor .u8 (x.1 : Int) 1 ∧ bits .xor .u8 (x.1 : Int) 1 < 256 := by decide +kernel
  obtain ⟨h1, h2⟩ := h ⟨x, hx⟩
  exact ⟨(bits .xor .u8 (x : Int) 1).toNat, by simp only at h1 h2; omega, by simp only at h1; omega⟩
/-- A cell that holds a byte, and may be turned. -/
def U8 (w : World) (p : Addr) : Prop := (∃ x : Nat, x < 256 ∧ w.cell? p = some (.int .u8 (x : Nat))) ∧ w.frozen? p = false
theorem U8.set {w : World} {p q : Addr} (h : U8 w p) {y : Nat} (hy : y < 256) : U8 (w.setCell q (.int .u8 (y : Nat))) p := by
  obtain ⟨⟨x, hx, hc⟩, hf⟩ := h
  refine ⟨?_, by rw [World.frozen?_setCell]; exact hf⟩
  by_cases e : q = p
  · subst e
    exact ⟨y, hy, World.cell?_setCell_same _ _ _ hc⟩
  · exact ⟨x, hx, (World.cell?_setCell_other _ _ _ _ e).trans hc⟩
theorem nodeF_pos (f : Nat) {l : List It} (t : Nat) (hl : l ≠ []) : 0 < (nodeF (f + 1) l t).length := by
  match l, hl with
  | [x], _ => rw [nodeF_one]; simp
  | x :: y :: r, _ => rw [nodeF_two _ _ _ (by simp)]; simp
theorem prove_pos (key : List UInt8) : ∀ (f : Nat) (l : List It) (t : Nat), ∀ r ∈ proveF key f l t, 0 < r.length
  | 0, _, _, r, hr => by cases hr
  | f + 1, l, t, r, hr => by
    unfold proveF at hr
    by_cases h : l = []
    · rw [if_pos h] at hr; cases hr
    · rw [if_neg h] at hr
      rcases List.mem_cons.1 hr with e | hr
      · rw [e]; exact nodeF_pos 64 t h
      · by_cases h2 : l.length = 1 ∨ restF (l.headD ([], [])).1 t (sharedF l t) ≠ restF key t (sharedF l t)
        · rw [if_pos h2] at hr; cases hr
        · rw [if_neg h2] at hr
          exact prove_pos key f _ _ r hr
/-- What is needed of rows whose first bytes are turned. -/
def Rows1 (w : World) (B hb m : Nat) : Prop := ∀ j, j < m → ∃ (b off len cap : Nat), w.cell? ⟨hb, j, none⟩ = some (.slice (some ⟨b, off, none⟩) len cap) ∧ 0 < len ∧ len ≤ cap ∧ cap ≤ maxLen ∧ b ≠ hb ∧ B ≤ b ∧ U8 w ⟨b, off, none⟩
theorem Rows1.set {w : World} {B hb m : Nat} (h : Rows1 w B hb m) {b off y : Nat} (hne : b ≠ hb) (hy : y < 256) : Rows1 (w.setCell ⟨b, off, none⟩ (.int .u8 (y : Nat))) B hb m := fun j hj => by
  obtain ⟨b', off', len, cap, h1, h2, h3, h4, h5, h6, h7⟩ := h j hj
  exact ⟨b', off', len, cap, (World.cell?_setCell_other _ _ _ _ (fun e => hne (by injection e))).trans h1, h2, h3, h4, h5, h6, h7.set hy⟩
theorem PRow.rows1 {w : World} {B : Nat} {v : Value} {rs : List (List UInt8)} (h : PRow w B v rs) (hp : ∀ r ∈ rs, 0 < r.length) : ∃ A cap, v = .slice A rs.length cap ∧ rs.length ≤ cap ∧ cap ≤ maxLen ∧ (0 < rs.length → ∃ hb, A = some ⟨hb, 0, none⟩ ∧ B ≤ hb ∧ Rows1 w B hb rs.length) := by
  obtain ⟨cs, h1, h2⟩ := h
  rcases h1.2 with ⟨rfl, hn⟩ | ⟨g, cap, cur, rfl, e1, hg, e2, e3, e4, e5⟩
  · exact ⟨none, 0, by rw [hn], by omega, by unfold maxLen; omega, fun hp => by omega⟩
  · refine ⟨_, cap, rfl, e2, e3, fun _ => ⟨g, rfl, e1, fun j hj => ?_⟩⟩
    obtain ⟨A, c, k1, k2, k3, k4, k5⟩ := h2 j (rs[j]'hj) (List.getElem?_eq_getElem hj)
    have hpos := hp _ (List.getElem_mem hj)
    obtain ⟨b, off, e, hlt, hcell⟩ := k4 hpos
    obtain ⟨q1, q2, q3⟩ := k5 _ e hpos
    rw [e] at k1
    refine ⟨b, off, _, c, ?_, hpos, k2, k3, fun e => q1 (by simp [Value.ownBlock, e]), q2, ⟨_, UInt8.toNat_lt _, hcell 0 hpos⟩, q3⟩
    rw [← e5] at k1
    have hlt := (List.getElem?_eq_some_iff.1 k1).1
    rw [List.length_take] at hlt
    rw [List.getElem?_take_of_lt (by omega)] at k1
    rw [cell_of_row w g _ cur 38 (0, 0) hg]
    simpa using k1
/-- Bytes of one's own that may be turned. -/
def Own1 (w : World) (B : Nat) (A : Option Addr) (n : Nat) : Prop := ∀ i, i < n → ∃ g, A = some ⟨g, 0, none⟩ ∧ B ≤ g ∧ U8 w ⟨g, i, none⟩
theorem Own1.set {w : World} {B : Nat} {A : Option Addr} {n : Nat} (h : Own1 w B A n) {p : Addr} {y : Nat} (hy : y < 256) : Own1 (w.setCell p (.int .u8 (y : Nat))) B A n := fun i hi => by
  obtain ⟨g, h1, h2, h3⟩ := h i hi
  exact ⟨g, h1, h2, h3.set hy⟩
theorem Owns.own1 {w : World} {B : Nat} {A : Option Addr} {n c : Nat} {l : List UInt8} (h : Owns w B 5 (.slice A n c) l) : Own1 w B A n := fun i hi => by
  have hs := h.slice
  obtain ⟨A', c', e, _, _, hb⟩ := hs
  injection e with e1 e2 e3
  subst e1
  have hil : i < l.length := by omega
  rcases h.2 with ⟨e, _⟩ | ⟨g, cap, cur, e, h1, hg, _⟩
  · injection e with e q
    have : l.length = 0 := by omega
    omega
  · injection e with e
    subst e
    obtain ⟨b, off, e4, _, hcell⟩ := hb (by omega)
    injection e4 with e4
    injection e4 with e5 e6
    subst e5 e6
    exact ⟨g, rfl, h1, ⟨_, UInt8.toNat_lt _, by have := hcell i hil; rwa [Nat.zero_add] at this⟩, frozen_of_row w _ _ _ _ hg⟩

set_option maxHeartbeats 8000000 in
set_option maxRecDepth 100000 in
theorem ttwin_great (A : Option Addr) (n c : Nat) (cs : List Cl8) (hn : cs.length = n) (hc : n ≤ c) (hm : c ≤ maxLen) (Ad : Option Addr) (nd cd : Nat) (ds : List Cl8) (hnd : ds.length = nd) (hcd : nd ≤ cd) (hmd : cd ≤ maxLen) (w : World) (hcs : Cls8 w w.heap.size A cs) (hds : Cls8 w w.heap.size Ad ds) (hg : great8 cs = true ∨ great8 ds = true) :
    Calls Tryz.prog 5 #[.slice A n c, .slice Ad nd cd] w fun e w' => e = .returned (.bool true) ∧ Below w.heap.size w w' := by
  obtain ⟨g8, hg8⟩ : ∃ g, great8 cs = g := ⟨_, rfl⟩
  obtain ⟨gd, hgd⟩ : ∃ g, great8 ds = g := ⟨_, rfl⟩
  have Hg8 := Lib.hid hg8
  have Hgd := Lib.hid hgd
  rw [hg8, hgd] at hg
  clear hg8 hgd
  have Hn := Lib.hid hn
  have Hnd := Lib.hid hnd
  have Hcs := Lib.hid hcs
  have Hds := Lib.hid hds
  have Hmc := Lib.hid hm
  have Hmd := Lib.hid hmd
  unfold maxLen at hm hmd
  clear hn hcs hnd hds
  go_enter Tryz.func5, Tryz.ntmps5
  go_wp2_with fail
  go_at_call 9
  refine Calls.mono (speaks8_run w) ?_
  rintro e w3 ⟨rfl, hb3⟩
  dsimp only
  go_wp2_with fail
  go_at_call 10
  refine Calls.mono (great8_any cs A n c w3 Hn.out hc hm (Hcs.out.base hb3)) ?_
  rintro e w4 ⟨rfl, hb34⟩
  have hb4 := hb3.trans (hb34.mono hb3.size)
  clear hb34 hb3
  rw [Hg8.out]
  cases g8 with
  | true =>
    dsimp only
    go_wp2_with fail
    go_ret
    exact ⟨rfl, hb4⟩
  | false =>
    obtain rfl : gd = true := hg.elim (fun h => by cases h) id
    clear hg
    dsimp only
    go_wp2_with fail
    go_at_call 10
    refine Calls.mono (great8_any ds Ad nd cd w4 Hnd.out hcd hmd (Hds.out.base hb4)) ?_
    rintro e w5 ⟨rfl, hb45⟩
    have hb5 := hb4.trans (hb45.mono hb4.size)
    rw [Hgd.out]
    dsimp only
    go_wp2_with fail
    go_ret
    exact ⟨rfl, hb5⟩

/-- Rows whose first bytes may be turned, if there is any. -/
def Rows2 (w : World) (B : Nat) (A : Option Addr) (m : Nat) : Prop := 0 < m → ∃ hb, A = some ⟨hb, 0, none⟩ ∧ B ≤ hb ∧ Rows1 w B hb m
theorem IRow.high {B B1 : Nat} {w w' : World} {v : Value} {xs : List Itm} (h : IRow w B1 v xs) (hT : Turns B w w') : ∀ w2, Below w.heap.size w' w2 → IRow w2 B1 v xs := fun w2 hb => by
  have h' := hT.irow h
  refine ⟨h.1, h.2.1, ?_⟩
  rcases h'.2.2 with hn | ⟨g, cap, cur, e, h1, hg, rest⟩
  · exact .inl hn
  · refine .inr ⟨g, cap, cur, e, h1, (hb.block g ?_).trans hg, rest⟩
    exact (h.lt g (by rw [e]; rfl)).2

set_option maxHeartbeats 40000000 in
set_option maxRecDepth 100000 in
theorem ttwin_in (A : Option Addr) (n c : Nat) (cs : List Cl8) (hn : cs.length = n) (hc : n ≤ c) (hm : c ≤ maxLen) (Ad : Option Addr) (nd cd : Nat) (ds : List Cl8) (hnd : ds.length = nd) (hcd : nd ≤ cd) (hmd : cd ≤ maxLen) (w : World) (hcs : Cls8 w w.heap.size A cs) (hds : Cls8 w w.heap.size Ad ds) (hg : great8 cs = false) (hgd : great8 ds = false) :
    Calls Tryz.prog 5 #[.slice A n c, .slice Ad nd cd] w fun e w' => e = .returned (.bool true) ∧ Below w.heap.size w w' := by
  obtain ⟨L, hL⟩ : ∃ L, L = (playI cs).map Itm.it := ⟨_, rfl⟩
  have hLr : Rise L := by rw [hL]; exact (playI_rise cs (fun x hx => (hcs.1 x hx).k32)).1
  have hL32 : ∀ x ∈ L, x.1.length = 32 := by
    rw [hL]
    rintro x hx
    obtain ⟨y, hy, rfl⟩ := List.mem_map.1 hx
    exact (playI_rise cs (fun x hx => (hcs.1 x hx).k32)).2.1 y hy
  have hIt : ∀ y ∈ playI cs, ItOk w w.heap.size y ∧ y.val.length ≤ 200 := fun y hy => by
    obtain ⟨z, hz, rfl⟩ := (playI_facts cs).2.1 y hy
    exact ⟨hcs.1 z hz, (great8_no hg).2 z hz⟩
  have hLn : L.length ≤ 50 := by
    rw [hL, List.length_map]
    exact Nat.le_trans (playI_facts cs).2.2 (great8_no hg).1
  have h50 : n ≤ 50 := by rw [← hn]; exact (great8_no hg).1
  have h50d : nd ≤ 50 := by rw [← hnd]; exact (great8_no hgd).1
  have Hv200 := Lib.hid (great8_no hg).2
  have Hd200 := Lib.hid (great8_no hgd).2
  obtain ⟨SL, hSL⟩ : ∃ SL, SL = Lib.byteCells (rootF L) := ⟨_, rfl⟩
  have hrl : (rootF L).length = 32 := by unfold rootF nodeD; split <;> exact shaF_length _
  have HSm := Lib.hid (show (Tryz.prog.info? 24).map (·.size) = some SL.length by rw [hSL, Lib.byteCells_length, hrl]; kernel_rfl)
  have HSi := Lib.hid (show (Tryz.prog.info? 24).map (·.size) = some SL.toArray.size ∧ (Lib.byteCells zeros).toArray.size = SL.toArray.size by rw [hSL, dig_size hrl]; exact ⟨by kernel_rfl, by kernel_rfl⟩)
  have HS1 := Lib.hid (show SL.toArray.all (·.oneCell') = true by rw [hSL]; exact all_oneCell_toArray (byteCells_one _))
  have hgt := gt32
  have heS : ∀ w, (Op.equalIn 10000 24 (.agg SL.toArray) (.agg SL.toArray)).run Tryz.prog w = .ok true w := fun w => by
    rw [eqv_at Tryz.underlying24 _ _ hrl hrl SL SL hSL hSL w]; simp
  have Hd32 := Lib.hid (show ∀ x ∈ ds, x.itm.key.length = 32 from fun x hx => (hds.1 x hx).k32)
  have HL := Lib.hid hL
  have HSL := Lib.hid hSL
  have HLr := Lib.hid hLr
  have HL32 := Lib.hid hL32
  have HLn := Lib.hid hLn
  have HIt := Lib.hid hIt
  have Hg8 := Lib.hid hg
  have Hgd := Lib.hid hgd
  clear hSL hL hrl hLr hL32 hIt hg hgd hLn
  obtain ⟨CZ, hCZ⟩ : ∃ CZ, CZ = clZ := ⟨_, rfl⟩
  have HZ := Lib.hid (fun w : World => show (zeroValue 50).run Tryz.prog w = .ok (.agg CZ.toArray) w by rw [hCZ]; exact callZero w)
  have HZl := Lib.hid (show CZ.length = 34 by rw [hCZ]; rfl)
  clear hCZ
  obtain ⟨IZ, hIZ⟩ : ∃ IZ, IZ = itZ := ⟨_, rfl⟩
  have HIZ := Lib.hid (fun w : World => show (zeroValue 40).run Tryz.prog w = .ok (.agg IZ.toArray) w by rw [hIZ]; kernel_rfl)
  have HIZl := Lib.hid (show IZ.length = 33 by rw [hIZ]; rfl)
  clear hIZ
  obtain ⟨ZL, hZL⟩ : ∃ ZL, ZL = Lib.byteCells (rootF []) := ⟨_, rfl⟩
  have hzl : (rootF []).length = 32 := shaF_length _
  have heZ : ∀ w, (Op.equalIn 10000 24 (.agg ZL.toArray) (.agg ZL.toArray)).run Tryz.prog w = .ok true w := fun w => by
    rw [eqv_at Tryz.underlying24 _ _ hzl hzl ZL ZL hZL hZL w]; simp
  have HZL := Lib.hid hZL
  clear hZL hzl
  have Hn := Lib.hid hn
  have Hnd := Lib.hid hnd
  have Hcs := Lib.hid hcs
  have Hds := Lib.hid hds
  have Hmc := Lib.hid hm
  have Hmd := Lib.hid hmd
  unfold maxLen at hm hmd
  clear hn hcs hnd hds
  go_enter Tryz.func5, Tryz.ntmps5
  go_wp2_with fail
  go_at_call 9
  refine Calls.mono (speaks8_run w) ?_
  rintro e w3 ⟨rfl, hb3⟩
  dsimp only
  go_wp2_with fail
  go_at_call 10
  refine Calls.mono (great8_any cs A n c w3 Hn.out hc hm (Hcs.out.base hb3)) ?_
  rintro e w4 ⟨rfl, hb34⟩
  have hb4 := hb3.trans (hb34.mono hb3.size)
  clear hb34 hb3
  rw [Hg8.out]
  dsimp only
  go_wp2_with fail
  go_at_call 10
  refine Calls.mono (great8_any ds Ad nd cd w4 Hnd.out hcd hmd (Hds.out.base hb4)) ?_
  rintro e w4b ⟨rfl, hb44⟩
  have hb4b := hb4.trans (hb44.mono hb4.size)
  rw [Hgd.out]
  clear hb44 hb4
  dsimp only
  go_wp2_with fail
  go_at_call 11
  refine Calls.mono (forest_play w.heap.size [] cs A n c w4b (Forest.none _ _) hb4b.size Hn.out h50 hc Hmc.out (Hcs.out.base hb4b) Hv200.out) ?_
  rintro e w5 ⟨a, v5, rfl, ha5, hI5, hF5, hb45⟩
  rw [← HL.out] at hF5
  have hb5 := hb4b.trans (hb45.mono hb4b.size)
  have haw := (hF5.lt (x := (a, L)) (by simp))
  have hB5 := hb5.size
  obtain ⟨A5, c5, rfl, h5c, h5m, hIt5⟩ := hI5.slice
  obtain ⟨n5, hn5⟩ : ∃ n, (playI cs).length = n := ⟨_, rfl⟩
  have h5n : n5 ≤ 50 := by rw [← hn5]; have h := HLn.out; rw [HL.out, List.length_map] at h; exact h
  rw [hn5] at h5c hI5 ⊢
  have Hn5 := Lib.hid hn5
  clear hb45 hn5 hb4b hIt5
  dsimp only
  go_wp2_with fail
  go_at_call 12
  refine Calls.mono (forest_root w.heap.size a L [] SL HSL.out w5 hF5) ?_
  rintro e w6 ⟨rfl, hF6, hT6⟩
  have hI6 := hT6.irow hI5
  have hb6 := hb5.trans (hT6.below hB5)
  clear hT6 hF5 hI5 hb5 hB5
  dsimp only
  go_wp2_with fail
  go_at_call 25
  refine Calls.mono (forest_twin w.heap.size a L [] w6 hF6 hb6.size) ?_
  rintro e w7 ⟨rfl, hF7, hb67⟩
  have hI7 := hI6.up hb67
  have hb7 := hb6.trans (hb67.mono hb6.size)
  have haw6 := (hF6.lt (x := (a, L)) (by simp)).1
  obtain ⟨xb, hxb⟩ : ∃ x, w6.heap.size = x := ⟨_, rfl⟩
  have hax : a ≠ xb := by rw [← hxb]; omega
  rw [hxb] at hF7 ⊢
  clear hxb hb67 hF6 hI6 hb6 haw haw6
  dsimp only
  go_upto_region 9 with (change wpList _ _ _ _ _ (w7.alloc (.cells (Lib.byteCells zeros).toArray 24)); refine wpList_store_row rfl _ _ _ rfl w7.heap.size SL.toArray rfl rfl 24 (Lib.byteCells zeros).toArray (heap_alloc_new w7 _) HSi.out.1 HSi.out.2 HS1.out ?_; obtain ⟨w8, hw8⟩ : ∃ x, x = (w7.alloc (.cells (Lib.byteCells zeros).toArray 24)).setRow w7.heap.size SL.toArray := ⟨_, rfl⟩; rw [← hw8]; obtain ⟨hS8, hb78⟩ := alloc_row w7 24 (Lib.byteCells zeros).toArray SL; rw [← hw8] at hS8 hb78; clear hw8)
  have hb8 := hb7.trans (hb78.mono hb7.size)
  have hF8 := hF7.up hb78
  have hI8 := hI7.up hb78
  obtain ⟨g, hg⟩ : ∃ g, g = w7.heap.size := ⟨_, rfl⟩
  rw [← hg] at hS8 ⊢
  clear hg hb78 hF7 hI7 hb7
  go_wp2_with fail
  go_loopw [39] (fun iv wr => ∃ i : Nat, i ≤ nd ∧ iv = .int .i64 i ∧ Below w.heap.size w wr ∧ IRow wr w4b.heap.size (.slice A5 n5 c5) (playI cs) ∧ Arr wr g 24 SL ∧ ∃ X, Forest w.heap.size [(xb, X), (a, L)] wr ∧ Rise X ∧ (∀ x ∈ X, x.1.length = 32) ∧ (∀ x ∈ X, x ∈ L)) (fun iv _ => nd - (intOf iv).toNat)
  case atStart => exact ⟨0, Nat.zero_le _, rfl, hb8, hI8, hS8, L, hF8, HLr.out, HL32.out, fun x h => h⟩
  case round =>
    clear hb8 hI8 hF8 hS8
    obtain ⟨i, hin, rfl, hbr, hIr, hSr, X, hFr, hXr, hX32, hXL⟩ := hrel
    have HXr := Lib.hid hXr
    have HX32 := Lib.hid hX32
    have HXL' := Lib.hid hXL
    clear hXr hX32 hXL
    by_cases hlt2 : i < nd
    · have hd1 : decide ((i : Int) < (nd : Int)) = true := by simp; omega
      obtain ⟨x, hx⟩ : ∃ x, ds[i]? = some x := ⟨ds[i]'(by rw [Hnd.out]; exact hlt2), List.getElem?_eq_getElem _⟩
      obtain ⟨b, off, rfl, hblk, hrow⟩ := Hds.out.2 (by rw [Hnd.out]; omega)
      have hxm := List.mem_of_getElem? hx
      have hxo := Hds.out.1 x hxm
      obtain ⟨VL, hVL⟩ : ∃ VL, VL = clC x := ⟨_, rfl⟩
      have hVl : VL.length = 34 := by rw [hVL, clC_length hxo.k32]
      have hrg : wr.rangeAt b (off + i * 34) VL := fun j v hj => by
        rw [hVL] at hj
        rw [← hrow i x hx j v hj]
        exact World.cell?_of_block (hbr.block b hblk)
      have HVi := Lib.hid (show (Tryz.prog.info? 50).map (·.size) = some VL.length by rw [hVl]; exact callSize)
      have HVj := Lib.hid (show (Tryz.prog.info? 50).map (·.size) = some VL.toArray.size by rw [List.size_toArray, hVl]; exact callSize)
      have HV1 := Lib.hid (show VL.toArray.all (·.oneCell') = true by rw [hVL]; exact all_oneCell_toArray (clC_one x))
      have HVz := Lib.hid (show CZ.toArray.size = VL.toArray.size by rw [List.size_toArray, List.size_toArray, HZl.out, hVl])
      obtain ⟨wa, hwa⟩ : ∃ W, W = (wr.alloc (.cells CZ.toArray 50)).setRow wr.heap.size VL.toArray := ⟨_, rfl⟩
      obtain ⟨hVa, hbra⟩ := alloc_row wr 50 CZ.toArray VL
      rw [← hwa] at hVa hbra
      obtain ⟨XL, hXL⟩ : ∃ XL, XL = Lib.byteCells x.itm.key := ⟨_, rfl⟩
      obtain ⟨l, hl⟩ : ∃ l, x.itm.val.length = l := ⟨_, rfl⟩
      obtain ⟨wh, hwh⟩ : ∃ wh, x.what = wh := ⟨_, rfl⟩
      obtain ⟨Ax, hAx⟩ : ∃ a, x.itm.adr = a := ⟨_, rfl⟩
      obtain ⟨cx, hcx⟩ : ∃ a, x.itm.cap = a := ⟨_, rfl⟩
      have hlc : l ≤ cx := by rw [← hl, ← hcx]; exact hxo.le
      have hcm : cx ≤ maxLen := by rw [← hcx]; exact hxo.lim
      have hba : Below w.heap.size w wa := hbr.trans (hbra.mono hbr.size)
      have hbx : Bs wa w.heap.size Ax x.itm.val := by
        rw [← hAx]
        exact hxo.bs.below hba (Nat.le_refl _)
      have hck : ∀ w', Arr w' wr.heap.size 50 VL → w'.rangeAt wr.heap.size 1 XL := fun w' h => by rw [hVL] at h; exact cl8k_key h XL hXL
      have hcv : ∀ w', Arr w' wr.heap.size 50 VL → w'.cell? ⟨wr.heap.size, 33, none⟩ = some (.slice Ax l cx) := fun w' h => by rw [hVL] at h; have := cl8k_val h hxo.k32; rwa [hl, hAx, hcx] at this
      have HXi := Lib.hid (show (Tryz.prog.info? 24).map (·.size) = some XL.length by rw [hXL, Lib.byteCells_length, hxo.k32]; kernel_rfl)
      have Hck := Lib.hid hck
      have Hcv := Lib.hid hcv
      have Hx := Lib.hid hx
      have Hxm := Lib.hid hxm
      have Hwa := Lib.hid hwa
      have Hl := Lib.hid hl
      have Hwh := Lib.hid hwh
      have HXL := Lib.hid hXL
      have Hxk := Lib.hid hxo.k32
      have Hbx := Lib.hid hbx
      have Hcm := Lib.hid hcm
      clear hwa hl hx hrow hVL hVl hxo hAx hcx hXL hwh hck hcv hxm hbx hcm
      have hFa := hFr.up hbra
      have hIa := hIr.up hbra
      have hSa := hSr.below hbra hSr.lt
      have hl2 : x.itm.val.length ≤ 1000 := Nat.le_trans (Hd200.out x Hxm.out) (by decide)
      have Hl2 := Lib.hid hl2
      clear hl2 hFr hIr hbr hSr
      go_upto_region 12 with (first
        | (refine wpList_load_mid rfl _ _ rfl b (off + i * 34) rfl VL _ hrg Tryz.underlying50 rfl HVi.out ?_)
        | (refine wpList_allocZ8 rfl 50 rfl CZ.toArray (HZ.out _) ?_)
        | (refine wpList_store_row rfl _ _ _ rfl wr.heap.size VL.toArray rfl rfl 50 CZ.toArray (heap_alloc_new wr _) HVj.out HVz.out HV1.out ?_; rw [← Hwa.out]))
      obtain ⟨cb, hcb⟩ : ∃ x, wr.heap.size = x := ⟨_, rfl⟩
      rw [hcb] at hVa Hck Hcv ⊢
      clear hcb
      have hxk := Hck.out wa hVa
      have hxv := Hcv.out wa hVa
      go_wp2_with (refine wpList_load_mid rfl _ _ rfl cb 1 rfl XL _ hxk Tryz.underlying24 rfl HXi.out ?_)
      go_at_call 23
      refine Calls.mono (forest_put w.heap.size xb _ [(a, L)] (by simp; omega) x.itm.key x.itm.val XL HXL.out Hxk.out w.heap.size Ax l cx wa hFa hba.size Hbx.out Hl.out Hl2.out) ?_
      rintro e w9 ⟨rfl, hF9, hT9⟩
      have hI9 := hT9.irow hIa
      have hS9 := hT9.arr hSa (by decide) (by decide)
      have hV9 := hT9.arr hVa (by decide) (by decide)
      have hb9 := hba.trans (hT9.below hba.size)
      have hwa9 := hT9.below hba.size
      have hxk9 := Hck.out w9 hV9
      clear hFa hIa hT9 hVa hxk hxv hba hbra hSa
      dsimp only
      go_wp2_with (refine wpList_load_mid rfl _ _ rfl cb 1 rfl XL _ hxk9 Tryz.underlying24 rfl HXi.out ?_)
      go_at_call 17
      refine Calls.mono (forest_get w.heap.size xb _ [(a, L)] x.itm.key XL HXL.out Hxk.out w9 hF9) ?_
      rintro e w10 ⟨v10, rfl, hF10, hb910, hY10, _⟩
      rw [hasF_put Hxk.out HX32.out] at hY10 ⊢
      obtain ⟨v0, hv0, hO10⟩ := hY10 rfl
      obtain rfl : v0 = x.itm.val := put_mem_val Hxk.out HX32.out hv0
      obtain ⟨A10, c10, rfl, h10a, h10b, h10c⟩ := hO10.slice
      rw [Hl.out] at hO10 h10a ⊢
      have hw1 := hO10.own1
      have hb10 := hb9.trans (hb910.mono hb9.size)
      have hV10 := hV9.below hb910 hV9.lt
      have hxv10 := Hcv.out w10 hV10
      have hbx10 := Hbx.out.below (hwa9.trans (hb910.mono hb9.size)) (Nat.le_refl _)
      have hlm : l ≤ maxLen := by have := Hcm.out; omega
      have hl200 : l ≤ 200 := by have h := Hd200.out x Hxm.out; rw [Hl.out] at h; exact h
      have Hlm := Lib.hid hlm
      clear hY10 hv0 hF10 hO10 hxk9 hlm hwa9
      dsimp only
      go_wp2_with fail
      go_at_call 18
      refine Calls.mono (same_n w10.heap.size w.heap.size A10 Ax c10 cx l l x.itm.val x.itm.val w10 true h10c hbx10 Hl.out Hl.out Hlm.out Hlm.out (by simp)) ?_
      rintro e w11 ⟨rfl, k11, rfl⟩
      obtain ⟨w11, hw11⟩ : ∃ x, x = w10.drewN k11 := ⟨_, rfl⟩
      have hb911 : Below w9.heap.size w9 w11 := by rw [hw11]; exact Below.dN hb910 k11
      have hw2 : Own1 w11 w9.heap.size A10 l := by rw [hw11]; exact hw1
      rw [← hw11]
      clear hw11 hw1 hb910 hbx10 h10c hxv10 hV10 hb10
      dsimp only
      go_wp2_with fail
      go_loopw [67] (fun iv wq => ∃ j : Nat, j ≤ l ∧ iv = .int .i64 j ∧ Below w9.heap.size w9 wq ∧ Own1 wq w9.heap.size A10 l) (fun iv _ => l - (intOf iv).toNat)
      case atStart => exact ⟨0, Nat.zero_le _, rfl, hb911, hw2⟩
      case round =>
        clear hb911 hw2
        obtain ⟨j, hjl, rfl, hbq, howq⟩ := hrel
        by_cases hlt3 : j < l
        · have hd3 : decide ((j : Int) < (l : Int)) = true := by simp; omega
          have hji : ((j : Int) < (l : Int)) := by omega
          obtain ⟨gv, rfl, hgv, ⟨u, hu, hcu⟩, hfu⟩ := howq j hlt3
          obtain ⟨y, hy, hxy⟩ := xor_u8 u hu
          have hset := howq.set (p := ⟨gv, j, none⟩) hy
          have hbs := (hbq.setCell (p := ⟨gv, j, none⟩) hgv (.int .u8 (y : Nat)))
          clear howq hbq
          go_wp2_with fail
          case roundEnd => exact ⟨⟨j + 1, by omega, by simp, hbs, hset⟩, by simp [intOf]; omega⟩
        · obtain rfl : l = j := by omega
          have hd3 : decide ((l : Int) < (l : Int)) = false := by simp
          have hFq := hF9.up hbq
          have hIq := hI9.up hbq
          have hSq := hS9.below hbq hS9.lt
          have hVq := hV9.below hbq hV9.lt
          have hbqq := hb9.trans (hbq.mono hb9.size)
          have hxkq := Hck.out _ hVq
          clear howq hF9 hI9 hS9 hV9 hb9 hbq
          go_wp2_with (refine wpList_load_mid rfl _ _ rfl cb 1 rfl XL _ hxkq Tryz.underlying24 rfl HXi.out ?_)
          go_at_call 24
          refine Calls.mono (forest_drop w.heap.size xb _ [(a, L)] (by simp; omega) x.itm.key XL HXL.out Hxk.out _ hFq hbqq.size) ?_
          rintro e w12 ⟨rfl, hF12, hT12⟩
          rw [drop_putT Hxk.out HXr.out HX32.out] at hF12
          have hI12 := hT12.irow hIq
          have hS12 := hT12.arr hSq (by decide) (by decide)
          have hb12 := hbqq.trans (hT12.below hbqq.size)
          clear hFq hIq hSq hVq hbqq hT12 hxkq
          dsimp only
          go_wp2_with fail
          case roundEnd => exact ⟨⟨i + 1, by omega, by simp, hb12, hI12, hS12, dropF x.itm.key X, hF12, HXr.out.drop _, fun y hy => HX32.out y ((mem_dropF y).1 hy).1, fun y hy => HXL'.out y ((mem_dropF y).1 hy).1⟩, by simp [intOf]; omega⟩
    · obtain rfl : nd = i := by omega
      have hd1 : decide ((nd : Int) < (nd : Int)) = false := by simp
      go_wp2_with fail
      go_loopw [84] (fun iv wr => ∃ i : Nat, i ≤ n5 ∧ iv = .int .i64 i ∧ Below w.heap.size w wr ∧ IRow wr w4b.heap.size (.slice A5 n5 c5) (playI cs) ∧ Arr wr g 24 SL ∧ ∃ X, Forest w.heap.size [(xb, X), (a, L)] wr ∧ (∀ x ∈ X, x ∈ L.drop i)) (fun iv _ => n5 - (intOf iv).toNat)
      case atStart => exact ⟨0, Nat.zero_le _, rfl, hbr, hIr, hSr, X, hFr, by rw [List.drop_zero]; exact HXL'.out⟩
      case round =>
        clear hbr hIr hSr hFr HXr HX32 HXL'
        clear X
        obtain ⟨i, hin, rfl, hbr, hIr, hSr, X, hFr, hX⟩ := hrel
        have HX := Lib.hid hX
        clear hX
        by_cases hlt2 : i < n5
        · have hd4 : decide ((i : Int) < (n5 : Int)) = true := by simp; omega
          obtain ⟨y, hy⟩ : ∃ y, (playI cs)[i]? = some y := ⟨(playI cs)[i]'(by rw [Hn5.out]; exact hlt2), List.getElem?_eq_getElem _⟩
          have hItr : ItsAt wr A5 (playI cs) := by
            obtain ⟨A', c', q, _, _, h⟩ := hIr.slice
            injection q with q1 q2 q3
            rw [q1]; exact h
          obtain ⟨b, off, rfl, hblk, hrow⟩ := hItr (by rw [Hn5.out]; omega)
          obtain ⟨hy32, hrg0⟩ := hrow i y hy
          obtain ⟨VL, hVL⟩ : ∃ VL, VL = itC y := ⟨_, rfl⟩
          have hVl : VL.length = 33 := by rw [hVL, itC_length hy32]
          have hrg : wr.rangeAt b (off + i * 33) VL := by rw [hVL]; exact hrg0
          have HVi := Lib.hid (show (Tryz.prog.info? 40).map (·.size) = some VL.length by rw [hVl]; exact itSize)
          have HVj := Lib.hid (show (Tryz.prog.info? 40).map (·.size) = some VL.toArray.size by rw [List.size_toArray, hVl]; exact itSize)
          have HV1 := Lib.hid (show VL.toArray.all (·.oneCell') = true by rw [hVL]; exact all_oneCell_toArray (itC_one y))
          have HVz := Lib.hid (show IZ.toArray.size = VL.toArray.size by rw [List.size_toArray, List.size_toArray, HIZl.out, hVl])
          obtain ⟨wa, hwa⟩ : ∃ W, W = (wr.alloc (.cells IZ.toArray 40)).setRow wr.heap.size VL.toArray := ⟨_, rfl⟩
          obtain ⟨hVa, hbra⟩ := alloc_row wr 40 IZ.toArray VL
          rw [← hwa] at hVa hbra
          obtain ⟨YL, hYL⟩ : ∃ YL, YL = Lib.byteCells y.key := ⟨_, rfl⟩
          obtain ⟨ly, hly⟩ : ∃ l, y.val.length = l := ⟨_, rfl⟩
          obtain ⟨Ay, hAy⟩ : ∃ l, y.adr = l := ⟨_, rfl⟩
          obtain ⟨cy, hcy⟩ : ∃ l, y.cap = l := ⟨_, rfl⟩
          have hyk : ∀ w', Arr w' wr.heap.size 40 VL → w'.rangeAt wr.heap.size 0 YL := fun w' h j v hj => by
            rw [Nat.zero_add, h.cell, hVL]
            unfold itC
            rw [← hYL, List.getElem?_append_left (List.getElem?_eq_some_iff.1 hj).1]
            exact hj
          have hyv : ∀ w', Arr w' wr.heap.size 40 VL → w'.cell? ⟨wr.heap.size, 32, none⟩ = some (.slice Ay ly cy) := fun w' h => by
            rw [h.cell, hVL]
            unfold itC
            rw [List.getElem?_append_right (by rw [Lib.byteCells_length, hy32]; exact Nat.le_refl _), Lib.byteCells_length, hy32, ← hly, ← hAy, ← hcy]
            rfl
          have HYi := Lib.hid (show (Tryz.prog.info? 24).map (·.size) = some YL.length by rw [hYL, Lib.byteCells_length, hy32]; kernel_rfl)
          have Hyk := Lib.hid hyk
          have Hyv := Lib.hid hyv
          have Hy := Lib.hid hy
          have Hwa := Lib.hid hwa
          have Hly := Lib.hid hly
          have HAy := Lib.hid hAy
          have Hcy := Lib.hid hcy
          have HYL := Lib.hid hYL
          have Hy32 := Lib.hid hy32
          clear hwa hly hy hrow hVL hVl hAy hcy hYL hyk hyv hItr hrg0 hy32
          have hLy : L[i]? = some y.it := by rw [HL.out, List.getElem?_map, Hy.out]; rfl
          have HLy := Lib.hid hLy
          have hFa := hFr.up hbra
          have hIa := hIr.up hbra
          have hSa := hSr.below hbra hSr.lt
          have hba := hbr.trans (hbra.mono hbr.size)
          clear hLy hFr hIr hSr hbr
          go_upto_region 26 with (first
            | (refine wpList_load_mid rfl _ _ rfl b (off + i * 33) rfl VL _ hrg Tryz.underlying40 rfl HVi.out ?_)
            | (refine wpList_allocZ8 rfl 40 rfl IZ.toArray (HIZ.out _) ?_)
            | (refine wpList_store_row rfl _ _ _ rfl wr.heap.size VL.toArray rfl rfl 40 IZ.toArray (heap_alloc_new wr _) HVj.out HVz.out HV1.out ?_; rw [← Hwa.out]))
          have hyk := Hyk.out wa hVa
          go_wp2_with (refine wpList_load_mid rfl _ _ rfl wr.heap.size 0 rfl YL _ hyk Tryz.underlying24 rfl HYi.out ?_)
          go_at_call 24
          refine Calls.mono (forest_drop w.heap.size xb _ [(a, L)] (by simp; omega) y.key YL HYL.out Hy32.out wa hFa hba.size) ?_
          rintro e w9 ⟨rfl, hF9, hT9⟩
          have hI9 := hT9.irow hIa
          have hS9 := hT9.arr hSa (by decide) (by decide)
          have hV9 := hT9.arr hVa (by decide) (by decide)
          have hb9 := hba.trans (hT9.below hba.size)
          have hyk9 := Hyk.out w9 hV9
          have hF9 := hF9.sub (ts' := [(a, L), (xb, dropF y.key X)]) (by intro y hy; simp at hy ⊢; exact hy.symm)
          clear hFa hIa hT9 hVa hyk hba hbra hSa
          dsimp only
          go_wp2_with (refine wpList_load_mid rfl _ _ rfl wr.heap.size 0 rfl YL _ hyk9 Tryz.underlying24 rfl HYi.out ?_)
          go_at_call 15
          refine Calls.mono (forest_prove w.heap.size a L [(xb, dropF y.key X)] y.key YL HYL.out Hy32.out w9 hF9) ?_
          rintro e w10 ⟨v10, rfl, hP10, _, hT10, hF10⟩
          have hI10 := hT10.irow hI9
          have hS10 := hT10.arr hS9 (by decide) (by decide)
          obtain ⟨A10, cap10, rfl, hc10, hm10, hrows⟩ := hP10.rows1 (prove_pos _ _ _ _)
          obtain ⟨m, hm⟩ : ∃ m, (proveF y.key 65 L 0).length = m := ⟨_, rfl⟩
          rw [hm] at hc10 hrows ⊢
          have hm63 : m ≤ 9223372036854775807 := by unfold maxLen at hm10; omega
          have hb10 : Below w9.heap.size w10 w10 := Below.refl _ _
          have hz910 : w9.heap.size ≤ w10.heap.size := Only.size hT10
          have hbw10 := hb9.trans (hT10.below hb9.size)
          have hr0 : Rows2 w10 w9.heap.size A10 m := hrows
          have HF10 := Lib.hid hF10
          have Hhi := Lib.hid (IRow.high hI9 hT10)
          have HS9 := Lib.hid hS9
          clear hrows hP10 hm hF9 hV9 hyk9 hF10 hI9 hS9
          dsimp only
          go_wp2_with fail
          go_loopw [97] (fun iv wq => ∃ j : Nat, j ≤ m ∧ iv = .int .i64 j ∧ Below w9.heap.size w10 wq ∧ Rows2 wq w9.heap.size A10 m) (fun iv _ => m - (intOf iv).toNat)
          case atStart => exact ⟨0, Nat.zero_le _, rfl, hb10, hr0⟩
          case round =>
            clear hb10 hr0
            obtain ⟨j, hjm, rfl, hbq, hrq⟩ := hrel
            by_cases hlt3 : j < m
            · have hd5 : decide ((j : Int) < (m : Int)) = true := by simp; omega
              have hji : ((j : Int) < (m : Int)) := by omega
              obtain ⟨hb, rfl, hhb, hrows⟩ := hrq (by omega)
              obtain ⟨b0, off0, len, cap, hc0, hl0, hl1, hl2, hne0, hB0, ⟨u, hu, hcu⟩, hfu⟩ := hrows j hlt3
              obtain ⟨yv, hyv, hxy⟩ := xor_u8 u hu
              have hset : Rows2 (World.setCell _ ⟨b0, off0, none⟩ (.int .u8 (yv : Nat))) w9.heap.size (some ⟨hb, 0, none⟩) m := fun h => ⟨hb, rfl, hhb, hrows.set hne0 hyv⟩
              have hbs := (hbq.setCell (p := ⟨b0, off0, none⟩) hB0 (.int .u8 (yv : Nat)))
              have hlen : ¬ ((len : Int) = 0) := by omega
              have hlen0 : decide ((len : Int) = 0) = false := by simp; omega
              have hl63 : ((0 : Int) < (len : Int)) := by omega
              clear hrq hbq hrows
              go_wp2_with fail
              case roundEnd => exact ⟨⟨j + 1, by omega, by simp, hbs, hset⟩, by simp [intOf]; omega⟩
            · obtain rfl : m = j := by omega
              have hd5 : decide ((m : Int) < (m : Int)) = false := by simp
              have hFq := (HF10.out _ hbq).sub (ts' := [(xb, dropF y.key X), (a, L)]) (by intro y hy; simp at hy ⊢; exact hy.symm)
              have hIq := (Hhi.out _ hbq)
              have hSq := hS10.below hbq HS9.out.lt
              have hbqq := hbw10.trans (hbq.mono hb9.size)
              have hXq : ∀ x ∈ dropF y.key X, x ∈ L.drop (i + 1) := fun x hx => by
                obtain ⟨q1, q2⟩ := (mem_dropF x).1 hx
                have q3 := HX.out x q1
                obtain ⟨hi, e⟩ := List.getElem?_eq_some_iff.1 HLy.out
                rw [List.drop_eq_getElem_cons hi] at q3
                rcases List.mem_cons.1 q3 with q3 | q3
                · rw [e] at q3
                  exact absurd (by rw [q3]; rfl) q2
                · exact q3
              clear hrq hbq HF10
              go_wp2_with fail
              case roundEnd => exact ⟨⟨i + 1, by omega, by simp, hbqq, hIq, hSq, dropF y.key X, hFq, hXq⟩, by simp [intOf]; omega⟩
        · obtain rfl : n5 = i := by omega
          have hd4 : decide ((n5 : Int) < (n5 : Int)) = false := by simp
          have hX0 : X = [] := by
            refine List.eq_nil_iff_forall_not_mem.2 fun x hx => ?_
            have h := HX.out x hx
            rw [List.drop_of_length_le (by rw [HL.out, List.length_map, Hn5.out]; exact Nat.le_refl _)] at h
            cases h
          subst hX0
          have hFr := hFr.sub (ts' := [(a, L), (xb, [])]) (by intro y hy; simp at hy ⊢; exact hy.symm)
          clear HX
          have hBr := hbr.size
          have hLn5 : (L.map (·.1)).length = n5 := by rw [List.length_map, HL.out, List.length_map, Hn5.out]
          have HLn5 := Lib.hid hLn5
          clear hLn5
          go_upto_region 35 with fail
          refine wp_region_held_drew (S := fun w' => Arr w' g 24 SL) (by kernel_rfl) (hSr.drewN 1) (fun hHeld => ?_)
          refine anyH_take (i := 0) (v := .pointer (some ⟨a, 0, none⟩)) (some 111) rfl rfl (by kernel_rfl) (by kernel_rfl) (by kernel_rfl) (fun _ _ _ h => h) (Or.inl ⟨by rfl, fun w' hw => by rfl⟩) (by assumption) ?_
          simp only [Act.put, List.setIfInBounds_toArray, List.set_cons_zero, List.set_cons_succ]
          refine anyH_take (i := 2) (some 113) rfl rfl (by kernel_rfl) (by kernel_rfl) (by kernel_rfl) (fun _ _ _ h => h) (yieldsIf_load_mid (by rfl) 24 (.tmp 7) rfl g 0 rfl SL _ (fun w' h => (h).range) Tryz.underlying24 rfl HSm.out) (by assumption) ?_
          simp only [Act.put, List.setIfInBounds_toArray, List.set_cons_zero, List.set_cons_succ]
          refine wpAnyH_ready (rs := [1]) (by kernel_rfl) (by simp) ?_
          refine AllReadyH.cons rfl (fun K hK => ?_) AllReadyH.nil
          go_simp
          go_at_call 12
          refine Calls.mono (forest_root w.heap.size a L [(xb, [])] SL HSL.out wr.drew (hFr.up (Below.dN (Below.refl _ _) 1))) ?_
          rintro e w7 ⟨rfl, hF7, hT7⟩
          have hb7 := (Below.dN hbr 1).trans (hT7.below hBr)
          have hS7 := hT7.arr (w := wr.drew) (hSr.drewN 1) (by decide) (by decide)
          refine hK.out _ _ hS7 (fun hHeldx => ?_)
          clear hK K
          try simp only [Act.put, List.setIfInBounds_toArray, List.set_cons_zero, List.set_cons_succ]
          refine anyH_take (i := 3) (v := .bool true) (some 114) rfl rfl (by kernel_rfl) (by kernel_rfl) (by kernel_rfl) (fun _ _ _ h => h) (Or.inl ⟨by rfl, fun w' hw => by go_simp⟩) (by assumption) ?_
          simp only [Act.put, List.setIfInBounds_toArray, List.set_cons_zero, List.set_cons_succ]
          refine anyH_take (i := 4) (v := .bool true) (some 115) rfl rfl (by kernel_rfl) (by kernel_rfl) (by kernel_rfl) (fun _ _ _ h => h) (Or.inl ⟨by rfl, fun w' hw => by rfl⟩) (by assumption) ?_
          simp only [Act.put, List.setIfInBounds_toArray, List.set_cons_zero, List.set_cons_succ]
          refine anyH_take (i := 5) (v := .pointer (some ⟨a, 0, none⟩)) (some 116) rfl rfl (by kernel_rfl) (by kernel_rfl) (by kernel_rfl) (fun _ _ _ h => h) (Or.inl ⟨by rfl, fun w' hw => by rfl⟩) (by assumption) ?_
          simp only [Act.put, List.setIfInBounds_toArray, List.set_cons_zero, List.set_cons_succ]
          refine anyH_take (i := 8) (v := .slice A5 n5 c5) (some 119) rfl rfl (by kernel_rfl) (by kernel_rfl) (by kernel_rfl) (fun _ _ _ h => h) (Or.inl ⟨by rfl, fun w' hw => by rfl⟩) (by assumption) ?_
          simp only [Act.put, List.setIfInBounds_toArray, List.set_cons_zero, List.set_cons_succ]
          refine anyH_take (i := 9) (v := .int .i64 (n5 : Nat)) (some 120) rfl rfl (by kernel_rfl) (by kernel_rfl) (by kernel_rfl) (fun _ _ _ h => h) (Or.inl ⟨by rfl, fun w' hw => by go_simp⟩) (by assumption) ?_
          simp only [Act.put, List.setIfInBounds_toArray, List.set_cons_zero, List.set_cons_succ]
          refine wpAnyH_ready (rs := [6]) (by kernel_rfl) (by simp) ?_
          refine AllReadyH.cons rfl (fun K hK => ?_) AllReadyH.nil
          go_simp
          go_at_call 20
          refine Calls.mono (forest_keys w.heap.size a L [(xb, [])] (by have := HLn.out; omega) w7 hF7) ?_
          rintro e w8 ⟨v8, rfl, hF8, hD8, hb78⟩
          have hF8 := hF8.sub (ts' := [(xb, []), (a, L)]) (by intro y hy; simp at hy ⊢; exact hy.symm)
          have hb8 := hb7.trans (hb78.mono hb7.size)
          have hS8 := hS7.below hb78 hS7.lt
          obtain ⟨A8, c8, rfl, _⟩ := hD8.slice
          rw [HLn5.out]
          clear hD8
          refine hK.out _ _ hS8 (fun hHeldx => ?_)
          clear hK K
          try simp only [Act.put, List.setIfInBounds_toArray, List.set_cons_zero, List.set_cons_succ]
          refine anyH_take (i := 7) (v := .int .i64 (n5 : Nat)) (some 118) rfl rfl (by kernel_rfl) (by kernel_rfl) (by kernel_rfl) (fun _ _ _ h => h) (Or.inl ⟨by rfl, fun w' hw => by go_simp⟩) (by assumption) ?_
          simp only [Act.put, List.setIfInBounds_toArray, List.set_cons_zero, List.set_cons_succ]
          refine anyH_take (i := 10) (v := .bool true) (some 121) rfl rfl (by kernel_rfl) (by kernel_rfl) (by kernel_rfl) (fun _ _ _ h => h) (Or.inl ⟨by rfl, fun w' hw => by go_simp⟩) (by assumption) ?_
          simp only [Act.put, List.setIfInBounds_toArray, List.set_cons_zero, List.set_cons_succ]
          refine anyH_take (i := 11) (v := .bool true) (some 122) rfl rfl (by kernel_rfl) (by kernel_rfl) (by kernel_rfl) (fun _ _ _ h => h) (Or.inl ⟨by rfl, fun w' hw => by rfl⟩) (by assumption) ?_
          simp only [Act.put, List.setIfInBounds_toArray, List.set_cons_zero, List.set_cons_succ]
          refine anyH_take (i := 12) (v := .bool true) (some 123) rfl rfl (by kernel_rfl) (by kernel_rfl) (by kernel_rfl) (fun _ _ _ h => h) (Or.inl ⟨by rfl, fun w' hw => by rfl⟩) (by assumption) ?_
          simp only [Act.put, List.setIfInBounds_toArray, List.set_cons_zero, List.set_cons_succ]
          refine anyH_take (i := 13) (v := .pointer (some ⟨xb, 0, none⟩)) (some 124) rfl rfl (by kernel_rfl) (by kernel_rfl) (by kernel_rfl) (fun _ _ _ h => h) (Or.inl ⟨by rfl, fun w' hw => by rfl⟩) (by assumption) ?_
          simp only [Act.put, List.setIfInBounds_toArray, List.set_cons_zero, List.set_cons_succ]
          refine wpAnyH_ready (rs := [14]) (by kernel_rfl) (by simp) ?_
          refine AllReadyH.cons rfl (fun K hK => ?_) AllReadyH.nil
          go_simp
          go_at_call 20
          refine Calls.mono (forest_keys w.heap.size xb [] [(a, L)] (by simp) w8 hF8) ?_
          rintro e w9 ⟨v9, rfl, hF9, hD9, hb89⟩
          have hb9 := hb8.trans (hb89.mono hb8.size)
          have hS9 := hS8.below hb89 hS8.lt
          obtain ⟨A9, c9, rfl, _⟩ := hD9.slice
          have hz9 : ([] : List It).map (·.1) = ([] : List (List UInt8)) := rfl
          rw [hz9, List.length_nil]
          clear hD9 hz9
          refine hK.out _ _ hS9 (fun hHeldx => ?_)
          clear hK K
          try simp only [Act.put, List.setIfInBounds_toArray, List.set_cons_zero, List.set_cons_succ]
          refine anyH_take (i := 15) (v := .int .i64 (0 : Nat)) (some 126) rfl rfl (by kernel_rfl) (by kernel_rfl) (by kernel_rfl) (fun _ _ _ h => h) (Or.inl ⟨by rfl, fun w' hw => by go_simp⟩) (by assumption) ?_
          simp only [Act.put, List.setIfInBounds_toArray, List.set_cons_zero, List.set_cons_succ]
          refine anyH_take (i := 16) (v := .bool true) (some 127) rfl rfl (by kernel_rfl) (by kernel_rfl) (by kernel_rfl) (fun _ _ _ h => h) (Or.inl ⟨by rfl, fun w' hw => by go_simp⟩) (by assumption) ?_
          simp only [Act.put, List.setIfInBounds_toArray, List.set_cons_zero, List.set_cons_succ]
          refine anyH_take (i := 17) (v := .bool true) (some 128) rfl rfl (by kernel_rfl) (by kernel_rfl) (by kernel_rfl) (fun _ _ _ h => h) (Or.inl ⟨by rfl, fun w' hw => by rfl⟩) (by assumption) ?_
          simp only [Act.put, List.setIfInBounds_toArray, List.set_cons_zero, List.set_cons_succ]
          refine anyH_take (i := 18) (v := .bool true) (some 129) rfl rfl (by kernel_rfl) (by kernel_rfl) (by kernel_rfl) (fun _ _ _ h => h) (Or.inl ⟨by rfl, fun w' hw => by rfl⟩) (by assumption) ?_
          simp only [Act.put, List.setIfInBounds_toArray, List.set_cons_zero, List.set_cons_succ]
          refine anyH_take (i := 19) (v := .pointer (some ⟨xb, 0, none⟩)) (some 130) rfl rfl (by kernel_rfl) (by kernel_rfl) (by kernel_rfl) (fun _ _ _ h => h) (Or.inl ⟨by rfl, fun w' hw => by rfl⟩) (by assumption) ?_
          simp only [Act.put, List.setIfInBounds_toArray, List.set_cons_zero, List.set_cons_succ]
          refine wpAnyH_ready (rs := [20]) (by kernel_rfl) (by simp) ?_
          refine AllReadyH.cons rfl (fun K hK => ?_) AllReadyH.nil
          go_simp
          go_at_call 12
          refine Calls.mono (forest_root w.heap.size xb [] [(a, L)] ZL HZL.out w9 hF9) ?_
          rintro e w10 ⟨rfl, hF10, hT10⟩
          have hb10 := hb9.trans (hT10.below hb9.size)
          have hS10 := hT10.arr hS9 (by decide) (by decide)
          refine hK.out _ _ hS10 (fun hHeldx => ?_)
          clear hK K
          try simp only [Act.put, List.setIfInBounds_toArray, List.set_cons_zero, List.set_cons_succ]
          refine wpAnyH_ready (rs := [21]) (by kernel_rfl) (by simp) ?_
          refine AllReadyH.cons rfl (fun K hK => ?_) AllReadyH.nil
          go_simp
          go_at_call 22
          refine Calls.mono (forest_new w.heap.size _ w10 hF10 hb10.size) ?_
          rintro e w11 ⟨rfl, hF11, hb1011⟩
          have hb11 := hb10.trans (hb1011.mono hb10.size)
          have hS11 := hS10.below hb1011 hS10.lt
          refine hK.out _ _ hS11 (fun hHeldx => ?_)
          clear hK K
          try simp only [Act.put, List.setIfInBounds_toArray, List.set_cons_zero, List.set_cons_succ]
          refine wpAnyH_ready (rs := [22]) (by kernel_rfl) (by simp) ?_
          refine AllReadyH.cons rfl (fun K hK => ?_) AllReadyH.nil
          go_simp
          go_at_call 12
          refine Calls.mono (forest_root w.heap.size w10.heap.size [] _ ZL HZL.out w11 hF11) ?_
          rintro e w12 ⟨rfl, hF12, hT12⟩
          have hb12 := hb11.trans (hT12.below hb11.size)
          have hS12 := hT12.arr hS11 (by decide) (by decide)
          refine hK.out _ _ hS12 (fun hHeldx => ?_)
          clear hK K
          try simp only [Act.put, List.setIfInBounds_toArray, List.set_cons_zero, List.set_cons_succ]
          refine anyH_take (i := 23) (v := .bool true) (some 134) rfl rfl (by kernel_rfl) (by kernel_rfl) (by kernel_rfl) (fun _ _ _ h => h) (Or.inl ⟨by rfl, fun w' hw => by go_simp⟩) (by assumption) ?_
          simp only [Act.put, List.setIfInBounds_toArray, List.set_cons_zero, List.set_cons_succ]
          refine anyH_take (i := 24) (v := .bool true) (some 135) rfl rfl (by kernel_rfl) (by kernel_rfl) (by kernel_rfl) (fun _ _ _ h => h) (Or.inl ⟨by rfl, fun w' hw => by rfl⟩) (by assumption) ?_
          simp only [Act.put, List.setIfInBounds_toArray, List.set_cons_zero, List.set_cons_succ]
          refine anyH_take (i := 25) (v := .bool true) (some 4) rfl rfl (by kernel_rfl) (by kernel_rfl) (by kernel_rfl) (fun _ _ _ h => h) (Or.inl ⟨by rfl, fun w' hw => by rfl⟩) (by assumption) ?_
          simp only [Act.put, List.setIfInBounds_toArray, List.set_cons_zero, List.set_cons_succ]
          refine wpAnyH_done (by kernel_rfl) ?_ _
          clear hHeld
          go_wp2_with fail
          go_ret
          exact ⟨rfl, hb12⟩


theorem ttwin_walk (A : Option Addr) (n c : Nat) (cs : List Cl8) (hn : cs.length = n) (hc : n ≤ c) (hm : c ≤ maxLen) (Ad : Option Addr) (nd cd : Nat) (ds : List Cl8) (hnd : ds.length = nd) (hcd : nd ≤ cd) (hmd : cd ≤ maxLen) (w : World) (hcs : Cls8 w w.heap.size A cs) (hds : Cls8 w w.heap.size Ad ds) : Calls Tryz.prog 5 #[.slice A n c, .slice Ad nd cd] w fun e w' => e = .returned (.bool true) ∧ Below w.heap.size w w' := by
  by_cases h : great8 cs = true ∨ great8 ds = true
  · exact ttwin_great A n c cs hn hc hm Ad nd cd ds hnd hcd hmd w hcs hds h
  · have q : ∀ b : Bool, ¬ b = true → b = false := fun b h => by cases b with | false => rfl | true => exact absurd rfl h
    exact ttwin_in A n c cs hn hc hm Ad nd cd ds hnd hcd hmd w hcs hds (q _ fun e => h (.inl e)) (q _ fun e => h (.inr e))

end Go.Proofs.YtjbiegbdnppncaaGreat

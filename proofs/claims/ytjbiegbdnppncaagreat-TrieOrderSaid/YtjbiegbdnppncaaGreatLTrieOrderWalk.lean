/-
  The walk of TrieOrder. Written by gen_torder.py.
-/
import Derived.Test.YtjbiegbdnppncaaGreatLTrieKeys
import Derived.Test.YtjbiegbdnppncaaGreatLDigSame
import Derived.Test.YtjbiegbdnppncaaGreatLTrieDropsWalk
namespace Go.Proofs.YtjbiegbdnppncaaGreat
open Go.RowKit
set_option linter.unusedVariables false
set_option linter.unusedSimpArgs false


/-- All puts of calls. -/
def putsC (ds : List Cl8) : List It := ds.foldl (fun m x => putF x.itm.key x.itm.val m) []
/-- All items put, the last one first. -/
def putsR (L m : List It) : List It := L.foldr (fun x m => putF x.1 x.2 m) m
/-- All keys of calls dropped that aren't there. -/
def dropsC (L : List It) (ds : List Cl8) (m : List It) : List It := ds.foldl (fun m x => if hasF L x.itm.key = true then m else dropF x.itm.key m) m
theorem putsC_take {ds : List Cl8} {i : Nat} {x : Cl8} (h : ds[i]? = some x) : putsC (ds.take (i + 1)) = putF x.itm.key x.itm.val (putsC (ds.take i)) := by
  unfold putsC
  rw [List.take_add_one, h, List.foldl_append]
  rfl
theorem dropsC_take (L m : List It) {ds : List Cl8} {i : Nat} {x : Cl8} (h : ds[i]? = some x) : dropsC L (ds.take (i + 1)) m = if hasF L x.itm.key = true then dropsC L (ds.take i) m else dropF x.itm.key (dropsC L (ds.take i) m) := by
  unfold dropsC
  rw [List.take_add_one, h, List.foldl_append]
  rfl
theorem putsR_drop {L : List It} {i : Nat} {x : It} (h : L[i]? = some x) (m : List It) : putsR (L.drop i) m = putF x.1 x.2 (putsR (L.drop (i + 1)) m) := by
  unfold putsR
  obtain ⟨hi, e⟩ := List.getElem?_eq_some_iff.1 h
  rw [List.drop_eq_getElem_cons hi, List.foldr_cons, e]
theorem putsC_facts : ∀ (ds : List Cl8) (m : List It), (∀ x ∈ ds, x.itm.key.length = 32) → Rise m → (∀ x ∈ m, x.1.length = 32) → Rise (ds.foldl (fun m x => putF x.itm.key x.itm.val m) m) ∧ (∀ x ∈ ds.foldl (fun m x => putF x.itm.key x.itm.val m) m, x.1.length = 32) ∧ ∀ x ∈ ds.foldl (fun m x => putF x.itm.key x.itm.val m) m, x ∈ m ∨ ∃ d ∈ ds, x.1 = d.itm.key
  | [], m, _, hm, m32 => ⟨hm, m32, fun x hx => .inl hx⟩
  | d :: ds, m, h32, hm, m32 => by
    have hk := h32 d (by simp)
    obtain ⟨h1, h2, h3⟩ := putsC_facts ds (putF d.itm.key d.itm.val m) (fun x hx => h32 x (by simp [hx])) (hm.put _ _) (putF_32 hk m32)
    rw [List.foldl_cons]
    refine ⟨h1, h2, fun x hx => ?_⟩
    rcases h3 x hx with h | ⟨e, he, q⟩
    · rcases (mem_putF hk m32 _).1 h with h | h
      · exact .inr ⟨d, by simp, by rw [h]⟩
      · exact .inl h.1
    · exact .inr ⟨e, by simp [he], q⟩
theorem dropsC_facts (L : List It) : ∀ (ds : List Cl8) (m : List It), Rise m → Rise (dropsC L ds m) ∧ ∀ x, x ∈ dropsC L ds m ↔ x ∈ m ∧ ∀ d ∈ ds, hasF L d.itm.key = false → x.1 ≠ d.itm.key
  | [], m, hm => ⟨hm, fun x => by simp [dropsC]⟩
  | d :: ds, m, hm => by
    have e0 : dropsC L (d :: ds) m = dropsC L ds (if hasF L d.itm.key = true then m else dropF d.itm.key m) := rfl
    rw [e0]
    by_cases h : hasF L d.itm.key = true
    · rw [if_pos h]
      obtain ⟨h1, h2⟩ := dropsC_facts L ds m hm
      refine ⟨h1, fun x => ?_⟩
      rw [h2]
      refine and_congr_right fun _ => ⟨fun q e he hf => ?_, fun q e he hf => q e (by simp [he]) hf⟩
      rcases List.mem_cons.1 he with rfl | he
      · rw [h] at hf; cases hf
      · exact q e he hf
    · rw [if_neg h]
      obtain ⟨h1, h2⟩ := dropsC_facts L ds (dropF d.itm.key m) (hm.drop _)
      refine ⟨h1, fun x => ?_⟩
      rw [h2, mem_dropF]
      have h' : hasF L d.itm.key = false := by cases e : hasF L d.itm.key with | false => rfl | true => exact absurd e h
      constructor
      · rintro ⟨⟨q1, q2⟩, q3⟩
        refine ⟨q1, fun e he hf => ?_⟩
        rcases List.mem_cons.1 he with rfl | he
        · exact q2
        · exact q3 e he hf
      · rintro ⟨q1, q2⟩
        exact ⟨⟨q1, q2 d (by simp) h'⟩, fun e he hf => q2 e (by simp [he]) hf⟩
theorem putsR_facts (L m : List It) (hL : Rise L) (hL32 : ∀ x ∈ L, x.1.length = 32) (hm : Rise m) (m32 : ∀ x ∈ m, x.1.length = 32) : Rise (putsR L m) ∧ (∀ x ∈ putsR L m, x.1.length = 32) ∧ ∀ x, x ∈ putsR L m ↔ x ∈ L ∨ (x ∈ m ∧ ∀ y ∈ L, y.1 ≠ x.1) := by
  have e : putsR L m = L.reverse.foldl (fun m x => putF x.1 x.2 m) m := by
    unfold putsR
    rw [List.foldl_reverse]
  rw [e]
  obtain ⟨h1, h2, h3⟩ := puts_mem L.reverse m (fun x hx => hL32 x (by simpa using hx)) m32 hm (by
    rw [List.pairwise_reverse]
    exact hL.imp fun h => (lessF_ne h).symm)
  refine ⟨h1, h2, fun x => ?_⟩
  rw [h3]
  simp
theorem order_all (L : List It) (hL : Rise L) (hL32 : ∀ x ∈ L, x.1.length = 32) (ds : List Cl8) (hd : ∀ x ∈ ds, x.itm.key.length = 32) : dropsC L ds (putsR L (putsC ds)) = L := by
  obtain ⟨a1, a2, a3⟩ := putsC_facts ds [] hd List.Pairwise.nil (by simp)
  obtain ⟨b1, b2, b3⟩ := putsR_facts L (putsC ds) hL hL32 a1 a2
  obtain ⟨c1, c2⟩ := dropsC_facts L ds (putsR L (putsC ds)) b1
  refine rise_ext c1 hL fun x => ?_
  rw [c2, b3]
  constructor
  · rintro ⟨h | ⟨h, hn⟩, hd⟩
    · exact h
    · exfalso
      rcases a3 x h with h | ⟨d, hdm, e⟩
      · cases h
      · have hf : hasF L d.itm.key = false := by
          cases q : hasF L d.itm.key with
          | false => rfl
          | true =>
            obtain ⟨v, hv⟩ := hasF_mem.1 q
            exact absurd e.symm (hn _ hv)
        exact hd d hdm hf e
  · intro h
    refine ⟨.inl h, fun d _ hf e => ?_⟩
    rw [← e, hasF_mem.2 ⟨x.2, h⟩] at hf
    cases hf

set_option maxHeartbeats 8000000 in
set_option maxRecDepth 100000 in
theorem torder_great (A : Option Addr) (n c : Nat) (cs : List Cl8) (hn : cs.length = n) (hc : n ≤ c) (hm : c ≤ maxLen) (Ad : Option Addr) (nd cd : Nat) (ds : List Cl8) (hnd : ds.length = nd) (hcd : nd ≤ cd) (hmd : cd ≤ maxLen) (w : World) (hcs : Cls8 w w.heap.size A cs) (hds : Cls8 w w.heap.size Ad ds) (hg : great8 cs = true ∨ great8 ds = true) :
    Calls Tryz.prog 4 #[.slice A n c, .slice Ad nd cd] w fun e w' => e = .returned (.bool true) ∧ Below w.heap.size w w' := by
  obtain ⟨g8, hg8⟩ : ∃ g, great8 cs = g := ⟨_, rfl⟩
  obtain ⟨gd, hgd⟩ : ∃ g, great8 ds = g := ⟨_, rfl⟩
  have Hg8 := Lib.hid hg8
  have Hgd := Lib.hid hgd
  rw [hg8, hgd] at hg
  clear hg8 hgd
  have Hn := Lib.hid hn
  have Hnd := Lib.hid hnd
  have Hcs := Lib.hid hcs
  have Hds := Lib.hid hds
  have Hmc := Lib.hid hm
  have Hmd := Lib.hid hmd
  unfold maxLen at hm hmd
  clear hn hcs hnd hds
  go_enter Tryz.func4, Tryz.ntmps4
  go_wp2_with fail
  go_at_call 9
  refine Calls.mono (speaks8_run w) ?_
  rintro e w3 ⟨rfl, hb3⟩
  dsimp only
  go_wp2_with fail
  go_at_call 10
  refine Calls.mono (great8_any cs A n c w3 Hn.out hc hm (Hcs.out.base hb3)) ?_
  rintro e w4 ⟨rfl, hb34⟩
  have hb4 := hb3.trans (hb34.mono hb3.size)
  clear hb34 hb3
  rw [Hg8.out]
  cases g8 with
  | true =>
    dsimp only
    go_wp2_with fail
    go_ret
    exact ⟨rfl, hb4⟩
  | false =>
    obtain rfl : gd = true := hg.elim (fun h => by cases h) id
    clear hg
    dsimp only
    go_wp2_with fail
    go_at_call 10
    refine Calls.mono (great8_any ds Ad nd cd w4 Hnd.out hcd hmd (Hds.out.base hb4)) ?_
    rintro e w5 ⟨rfl, hb45⟩
    have hb5 := hb4.trans (hb45.mono hb4.size)
    rw [Hgd.out]
    dsimp only
    go_wp2_with fail
    go_ret
    exact ⟨rfl, hb5⟩

theorem Turns.blk {w w' : World} {B B1 : Nat} (h : Turns B w w') {b off n c : Nat} {xs : List Itm} (hI : IRow w B1 (.slice (some ⟨b, off, none⟩) n c) xs) : w'.heap[b]? = w.heap[b]? := by
  rcases hI.2.2 with ⟨e, _⟩ | ⟨g, cap, cur, e, _, hg, _⟩
  · cases e
  · injection e with e1 e2 e3
    injection e1 with e1
    injection e1 with e1 e4
    subst e1
    refine h.block b (Array.getElem?_eq_some_iff.1 hg).1 fun q => ?_
    obtain ⟨_, T', cs', hT, hA⟩ := q
    exact hI.apartI hA (by rcases hT with e | e <;> (rw [e]; decide)) b rfl rfl

set_option maxHeartbeats 40000000 in
set_option maxRecDepth 100000 in
theorem torder_in (A : Option Addr) (n c : Nat) (cs : List Cl8) (hn : cs.length = n) (hc : n ≤ c) (hm : c ≤ maxLen) (Ad : Option Addr) (nd cd : Nat) (ds : List Cl8) (hnd : ds.length = nd) (hcd : nd ≤ cd) (hmd : cd ≤ maxLen) (w : World) (hcs : Cls8 w w.heap.size A cs) (hds : Cls8 w w.heap.size Ad ds) (hg : great8 cs = false) (hgd : great8 ds = false) :
    Calls Tryz.prog 4 #[.slice A n c, .slice Ad nd cd] w fun e w' => e = .returned (.bool true) ∧ Below w.heap.size w w' := by
  obtain ⟨L, hL⟩ : ∃ L, L = (playI cs).map Itm.it := ⟨_, rfl⟩
  have hLr : Rise L := by rw [hL]; exact (playI_rise cs (fun x hx => (hcs.1 x hx).k32)).1
  have hL32 : ∀ x ∈ L, x.1.length = 32 := by
    rw [hL]
    rintro x hx
    obtain ⟨y, hy, rfl⟩ := List.mem_map.1 hx
    exact (playI_rise cs (fun x hx => (hcs.1 x hx).k32)).2.1 y hy
  have hIt : ∀ y ∈ playI cs, ItOk w w.heap.size y ∧ y.val.length ≤ 200 := fun y hy => by
    obtain ⟨z, hz, rfl⟩ := (playI_facts cs).2.1 y hy
    exact ⟨hcs.1 z hz, (great8_no hg).2 z hz⟩
  have hLn : L.length ≤ 50 := by
    rw [hL, List.length_map]
    exact Nat.le_trans (playI_facts cs).2.2 (great8_no hg).1
  have h50 : n ≤ 50 := by rw [← hn]; exact (great8_no hg).1
  have h50d : nd ≤ 50 := by rw [← hnd]; exact (great8_no hgd).1
  have Hv200 := Lib.hid (great8_no hg).2
  have Hd200 := Lib.hid (great8_no hgd).2
  obtain ⟨SL, hSL⟩ : ∃ SL, SL = Lib.byteCells (rootF L) := ⟨_, rfl⟩
  have hrl : (rootF L).length = 32 := by unfold rootF nodeD; split <;> exact shaF_length _
  have HSm := Lib.hid (show (Tryz.prog.info? 24).map (·.size) = some SL.length by rw [hSL, Lib.byteCells_length, hrl]; kernel_rfl)
  have HSi := Lib.hid (show (Tryz.prog.info? 24).map (·.size) = some SL.toArray.size ∧ (Lib.byteCells zeros).toArray.size = SL.toArray.size by rw [hSL, dig_size hrl]; exact ⟨by kernel_rfl, by kernel_rfl⟩)
  have HS1 := Lib.hid (show SL.toArray.all (·.oneCell') = true by rw [hSL]; exact all_oneCell_toArray (byteCells_one _))
  have hgt := gt32
  have heS : ∀ w, (Op.equalIn 10000 24 (.agg SL.toArray) (.agg SL.toArray)).run Tryz.prog w = .ok true w := fun w => by
    rw [eqv_at Tryz.underlying24 _ _ hrl hrl SL SL hSL hSL w]; simp
  have Hd32 := Lib.hid (show ∀ x ∈ ds, x.itm.key.length = 32 from fun x hx => (hds.1 x hx).k32)
  have HL := Lib.hid hL
  have HSL := Lib.hid hSL
  have HLr := Lib.hid hLr
  have HL32 := Lib.hid hL32
  have HLn := Lib.hid hLn
  have HIt := Lib.hid hIt
  have Hg8 := Lib.hid hg
  have Hgd := Lib.hid hgd
  clear hSL hL hrl hLr hL32 hIt hg hgd hLn
  obtain ⟨CZ, hCZ⟩ : ∃ CZ, CZ = clZ := ⟨_, rfl⟩
  have HZ := Lib.hid (fun w : World => show (zeroValue 50).run Tryz.prog w = .ok (.agg CZ.toArray) w by rw [hCZ]; exact callZero w)
  have HZl := Lib.hid (show CZ.length = 34 by rw [hCZ]; rfl)
  clear hCZ
  have Hn := Lib.hid hn
  have Hnd := Lib.hid hnd
  have Hcs := Lib.hid hcs
  have Hds := Lib.hid hds
  have Hmc := Lib.hid hm
  have Hmd := Lib.hid hmd
  unfold maxLen at hm hmd
  clear hn hcs hnd hds
  go_enter Tryz.func4, Tryz.ntmps4
  go_wp2_with fail
  go_at_call 9
  refine Calls.mono (speaks8_run w) ?_
  rintro e w3 ⟨rfl, hb3⟩
  dsimp only
  go_wp2_with fail
  go_at_call 10
  refine Calls.mono (great8_any cs A n c w3 Hn.out hc hm (Hcs.out.base hb3)) ?_
  rintro e w4 ⟨rfl, hb34⟩
  have hb4 := hb3.trans (hb34.mono hb3.size)
  clear hb34 hb3
  rw [Hg8.out]
  dsimp only
  go_wp2_with fail
  go_at_call 10
  refine Calls.mono (great8_any ds Ad nd cd w4 Hnd.out hcd hmd (Hds.out.base hb4)) ?_
  rintro e w4b ⟨rfl, hb44⟩
  have hb4b := hb4.trans (hb44.mono hb4.size)
  rw [Hgd.out]
  clear hb44 hb4
  dsimp only
  go_wp2_with fail
  go_at_call 11
  refine Calls.mono (forest_play w.heap.size [] cs A n c w4b (Forest.none _ _) hb4b.size Hn.out h50 hc Hmc.out (Hcs.out.base hb4b) Hv200.out) ?_
  rintro e w5 ⟨a, v5, rfl, ha5, hI5, hF5, hb45⟩
  rw [← HL.out] at hF5
  have hb5 := hb4b.trans (hb45.mono hb4b.size)
  have haw := (hF5.lt (x := (a, L)) (by simp))
  have hB5 := hb5.size
  obtain ⟨A5, c5, rfl, h5c, h5m, hIt5⟩ := hI5.slice
  obtain ⟨n5, hn5⟩ : ∃ n, (playI cs).length = n := ⟨_, rfl⟩
  have h5n : n5 ≤ 50 := by rw [← hn5]; have h := HLn.out; rw [HL.out, List.length_map] at h; exact h
  rw [hn5] at h5c hI5 ⊢
  have Hn5 := Lib.hid hn5
  clear hb45 hn5 hb4b hIt5
  dsimp only
  go_wp2_with fail
  go_at_call 22
  refine Calls.mono (forest_new w.heap.size [(a, L)] w5 hF5 hB5) ?_
  rintro e w6 ⟨rfl, hF6, hb56⟩
  have hb6 := hb5.trans (hb56.mono hB5)
  have hI6 := hI5.up hb56
  obtain ⟨xb, hxb⟩ : ∃ x, w5.heap.size = x := ⟨_, rfl⟩
  have hax : a ≠ xb := by rw [← hxb]; omega
  rw [hxb] at hF6 ⊢
  clear hxb hF5 hb5 hb56 hI5 haw hB5
  dsimp only
  go_wp2_with fail
  go_loopw [31] (fun iv wr => ∃ i : Nat, i ≤ nd ∧ iv = .int .i64 i ∧ Below w.heap.size w wr ∧ IRow wr w4b.heap.size (.slice A5 n5 c5) (playI cs) ∧ Forest w.heap.size [(xb, putsC (ds.take i)), (a, L)] wr) (fun iv _ => nd - (intOf iv).toNat)
  case atStart => exact ⟨0, Nat.zero_le _, rfl, hb6, hI6, hF6⟩
  case round =>
    clear hb6 hI6 hF6
    obtain ⟨i, hin, rfl, hbr, hIr, hFr⟩ := hrel
    by_cases hlt2 : i < nd
    · have hd1 : decide ((i : Int) < (nd : Int)) = true := by simp; omega
      obtain ⟨x, hx⟩ : ∃ x, ds[i]? = some x := ⟨ds[i]'(by rw [Hnd.out]; exact hlt2), List.getElem?_eq_getElem _⟩
      obtain ⟨b, off, rfl, hblk, hrow⟩ := Hds.out.2 (by rw [Hnd.out]; omega)
      have hxm := List.mem_of_getElem? hx
      have hxo := Hds.out.1 x hxm
      obtain ⟨VL, hVL⟩ : ∃ VL, VL = clC x := ⟨_, rfl⟩
      have hVl : VL.length = 34 := by rw [hVL, clC_length hxo.k32]
      have hrg : wr.rangeAt b (off + i * 34) VL := fun j v hj => by
        rw [hVL] at hj
        rw [← hrow i x hx j v hj]
        exact World.cell?_of_block (hbr.block b hblk)
      have HVi := Lib.hid (show (Tryz.prog.info? 50).map (·.size) = some VL.length by rw [hVl]; exact callSize)
      have HVj := Lib.hid (show (Tryz.prog.info? 50).map (·.size) = some VL.toArray.size by rw [List.size_toArray, hVl]; exact callSize)
      have HV1 := Lib.hid (show VL.toArray.all (·.oneCell') = true by rw [hVL]; exact all_oneCell_toArray (clC_one x))
      have HVz := Lib.hid (show CZ.toArray.size = VL.toArray.size by rw [List.size_toArray, List.size_toArray, HZl.out, hVl])
      obtain ⟨wa, hwa⟩ : ∃ W, W = (wr.alloc (.cells CZ.toArray 50)).setRow wr.heap.size VL.toArray := ⟨_, rfl⟩
      obtain ⟨hVa, hbra⟩ := alloc_row wr 50 CZ.toArray VL
      rw [← hwa] at hVa hbra
      obtain ⟨XL, hXL⟩ : ∃ XL, XL = Lib.byteCells x.itm.key := ⟨_, rfl⟩
      obtain ⟨l, hl⟩ : ∃ l, x.itm.val.length = l := ⟨_, rfl⟩
      obtain ⟨wh, hwh⟩ : ∃ wh, x.what = wh := ⟨_, rfl⟩
      obtain ⟨Ax, hAx⟩ : ∃ a, x.itm.adr = a := ⟨_, rfl⟩
      obtain ⟨cx, hcx⟩ : ∃ a, x.itm.cap = a := ⟨_, rfl⟩
      have hlc : l ≤ cx := by rw [← hl, ← hcx]; exact hxo.le
      have hcm : cx ≤ maxLen := by rw [← hcx]; exact hxo.lim
      have hba : Below w.heap.size w wa := hbr.trans (hbra.mono hbr.size)
      have hbx : Bs wa w.heap.size Ax x.itm.val := by
        rw [← hAx]
        exact hxo.bs.below hba (Nat.le_refl _)
      have hck : ∀ w', Arr w' wr.heap.size 50 VL → w'.rangeAt wr.heap.size 1 XL := fun w' h => by rw [hVL] at h; exact cl8k_key h XL hXL
      have hcv : ∀ w', Arr w' wr.heap.size 50 VL → w'.cell? ⟨wr.heap.size, 33, none⟩ = some (.slice Ax l cx) := fun w' h => by rw [hVL] at h; have := cl8k_val h hxo.k32; rwa [hl, hAx, hcx] at this
      have HXi := Lib.hid (show (Tryz.prog.info? 24).map (·.size) = some XL.length by rw [hXL, Lib.byteCells_length, hxo.k32]; kernel_rfl)
      have Hck := Lib.hid hck
      have Hcv := Lib.hid hcv
      have Hx := Lib.hid hx
      have Hxm := Lib.hid hxm
      have Hwa := Lib.hid hwa
      have Hl := Lib.hid hl
      have Hwh := Lib.hid hwh
      have HXL := Lib.hid hXL
      have Hxk := Lib.hid hxo.k32
      have Hbx := Lib.hid hbx
      have Hcm := Lib.hid hcm
      clear hwa hl hx hrow hVL hVl hxo hAx hcx hXL hwh hck hcv hxm hbx hcm
      have hFa := hFr.up hbra
      have hIa := hIr.up hbra
      have hl2 : x.itm.val.length ≤ 1000 := Nat.le_trans (Hd200.out x Hxm.out) (by decide)
      have Hl2 := Lib.hid hl2
      clear hl2 hFr hIr hbr
      go_upto_region 12 with (first
        | (refine wpList_load_mid rfl _ _ rfl b (off + i * 34) rfl VL _ hrg Tryz.underlying50 rfl HVi.out ?_)
        | (refine wpList_allocZ8 rfl 50 rfl CZ.toArray (HZ.out _) ?_)
        | (refine wpList_store_row rfl _ _ _ rfl wr.heap.size VL.toArray rfl rfl 50 CZ.toArray (heap_alloc_new wr _) HVj.out HVz.out HV1.out ?_; rw [← Hwa.out]))
      have hxk := Hck.out wa hVa
      have hxv := Hcv.out wa hVa
      go_wp2_with (refine wpList_load_mid rfl _ _ rfl wr.heap.size 1 rfl XL _ hxk Tryz.underlying24 rfl HXi.out ?_)
      go_at_call 23
      refine Calls.mono (forest_put w.heap.size xb _ [(a, L)] (by simp; omega) x.itm.key x.itm.val XL HXL.out Hxk.out w.heap.size Ax l cx wa hFa hba.size Hbx.out Hl.out Hl2.out) ?_
      rintro e w7 ⟨rfl, hF7, hT7⟩
      have hI7 := hT7.irow hIa
      have hb7 := hba.trans (hT7.below hba.size)
      rw [← putsC_take Hx.out] at hF7
      clear hFa hIa hT7 hVa hxk hxv hba hbra
      dsimp only
      go_wp2_with fail
      case roundEnd => exact ⟨⟨i + 1, by omega, by simp, hb7, hI7, hF7⟩, by simp [intOf]; omega⟩
    · obtain rfl : nd = i := by omega
      have hd1 : decide ((nd : Int) < (nd : Int)) = false := by simp
      have ht : ds.take nd = ds := List.take_of_length_le (by rw [Hnd.out]; exact Nat.le_refl _)
      rw [ht] at hFr
      clear ht
      have hw1 : IntKind.i64.wrap ((n5 : Int) - 1) = (n5 : Int) - 1 := IntWalk.i64_in _ (by omega)
      go_wp2_with fail
      go_loopw [10] (fun iv wr => ∃ (k : Nat) (z : Int), k ≤ n5 ∧ z + 1 = (k : Int) ∧ iv = .int .i64 z ∧ Below w.heap.size w wr ∧ IRow wr w4b.heap.size (.slice A5 n5 c5) (playI cs) ∧ Forest w.heap.size [(xb, putsR (L.drop k) (putsC ds)), (a, L)] wr) (fun iv _ => (intOf iv + 1).toNat)
      case atStart => exact ⟨n5, (n5 : Int) - 1, Nat.le_refl _, by omega, rfl, hbr, hIr, by
        rw [List.drop_of_length_le (by rw [HL.out, List.length_map, Hn5.out]; exact Nat.le_refl _)]
        exact hFr⟩
      case round =>
        clear hbr hIr hFr hw1
        obtain ⟨k, z, hk, hz, rfl, hbr, hIr, hFr⟩ := hrel
        by_cases hpos : 0 ≤ z
        · obtain ⟨i, rfl⟩ := Int.eq_ofNat_of_zero_le hpos
          obtain rfl : k = i + 1 := by omega
          have hi5 : i < n5 := by omega
          obtain ⟨y, hy⟩ : ∃ y, (playI cs)[i]? = some y := ⟨(playI cs)[i]'(by rw [Hn5.out]; exact hi5), List.getElem?_eq_getElem _⟩
          have hLy : L[i]? = some y.it := by rw [HL.out, List.getElem?_map, hy]; rfl
          obtain ⟨hyo, hy200⟩ := HIt.out y (List.mem_of_getElem? hy)
          have hItr : ItsAt wr A5 (playI cs) := by
            obtain ⟨A', c', q, _, _, h⟩ := hIr.slice
            injection q with q1 q2 q3
            rw [q1]; exact h
          obtain ⟨b, off, rfl, hblk, hrow⟩ := hItr (by rw [Hn5.out]; omega)
          obtain ⟨hy32, hrg⟩ := hrow i y hy
          obtain ⟨YL, hYL⟩ : ∃ YL, YL = Lib.byteCells y.key := ⟨_, rfl⟩
          have hk1 := ItsAt.key hrg YL hYL
          have hv1 := ItsAt.val hy32 hrg
          obtain ⟨ly, hly⟩ : ∃ l, y.val.length = l := ⟨_, rfl⟩
          obtain ⟨Ay, hAy⟩ : ∃ l, y.adr = l := ⟨_, rfl⟩
          obtain ⟨cy, hcy⟩ : ∃ l, y.cap = l := ⟨_, rfl⟩
          have hbv := hyo.bs.below hbr (Nat.le_refl _)
          rw [hAy] at hbv
          rw [hly, hAy, hcy] at hv1
          have HYi := Lib.hid (show (Tryz.prog.info? 24).map (·.size) = some YL.length by rw [hYL, Lib.byteCells_length, hy32]; kernel_rfl)
          have Hy32 := Lib.hid hy32
          have HYL := Lib.hid hYL
          have Hly := Lib.hid hly
          have Hbv := Lib.hid hbv
          have Hl2 := Lib.hid (Nat.le_trans hy200 (show 200 ≤ 1000 by decide))
          have Hnx := Lib.hid (putsR_drop hLy (putsC ds))
          have hki : ((i : Int) < (n5 : Int)) := by omega
          have hd3 : decide ((0 : Int) ≤ (i : Int)) = true := by simp
          have hw2 : IntKind.i64.wrap ((i : Int) - 1) = (i : Int) - 1 := IntWalk.i64_in _ (by omega)
          clear hItr hrow hrg hYL hly hAy hcy hbv hyo hy200 hy hLy hy32 hz hpos
          go_upto_region 17 with fail
          refine wp_region_held_drew (S := fun w' => w'.rangeAt b (off + i * 33) YL ∧ w'.cell? ⟨b, off + i * 33 + 32, none⟩ = some (.slice Ay ly cy)) (by kernel_rfl) ⟨hk1, hv1⟩ (fun hHeld => ?_)
          refine anyH_take (i := 0) (v := .pointer (some ⟨xb, 0, none⟩)) (some 49) rfl rfl (by kernel_rfl) (by kernel_rfl) (by kernel_rfl) (fun _ _ _ h => h) (Or.inl ⟨by rfl, fun w' hw => by rfl⟩) (by assumption) ?_
          simp only [Act.put, List.setIfInBounds_toArray, List.set_cons_zero, List.set_cons_succ]
          refine anyH_take (i := 1) (v := .slice (some ⟨b, off, none⟩) n5 c5) (some 50) rfl rfl (by kernel_rfl) (by kernel_rfl) (by kernel_rfl) (fun _ _ _ h => h) (Or.inl ⟨by rfl, fun w' hw => by rfl⟩) (by assumption) ?_
          simp only [Act.put, List.setIfInBounds_toArray, List.set_cons_zero, List.set_cons_succ]
          refine anyH_take (i := 2) (v := .int .i64 (i : Nat)) (some 51) rfl rfl (by kernel_rfl) (by kernel_rfl) (by kernel_rfl) (fun _ _ _ h => h) (Or.inl ⟨by rfl, fun w' hw => by rfl⟩) (by assumption) ?_
          simp only [Act.put, List.setIfInBounds_toArray, List.set_cons_zero, List.set_cons_succ]
          refine anyH_take (i := 3) (v := .pointer (some ⟨b, off + i * 33, none⟩)) (some 52) rfl rfl (by kernel_rfl) (by kernel_rfl) (by kernel_rfl) (fun _ _ _ h => h) (Or.inl ⟨by rfl, fun w' hw => by go_simp⟩) (by assumption) ?_
          simp only [Act.put, List.setIfInBounds_toArray, List.set_cons_zero, List.set_cons_succ]
          refine anyH_take (i := 4) (v := .pointer (some ⟨b, off + i * 33, none⟩)) (some 53) rfl rfl (by kernel_rfl) (by kernel_rfl) (by kernel_rfl) (fun _ _ _ h => h) (Or.inl ⟨by rfl, fun w' hw => by go_simp⟩) (by assumption) ?_
          simp only [Act.put, List.setIfInBounds_toArray, List.set_cons_zero, List.set_cons_succ]
          refine anyH_take (i := 5) (some 54) rfl rfl (by kernel_rfl) (by kernel_rfl) (by kernel_rfl) (fun _ _ _ h => h) (yieldsIf_load_mid (by rfl) 24 (.tmp 53) rfl b (off + i * 33) rfl YL _ (fun w' h => h.1) Tryz.underlying24 rfl HYi.out) (by assumption) ?_
          simp only [Act.put, List.setIfInBounds_toArray, List.set_cons_zero, List.set_cons_succ]
          refine anyH_take (i := 6) (v := .slice (some ⟨b, off, none⟩) n5 c5) (some 55) rfl rfl (by kernel_rfl) (by kernel_rfl) (by kernel_rfl) (fun _ _ _ h => h) (Or.inl ⟨by rfl, fun w' hw => by rfl⟩) (by assumption) ?_
          simp only [Act.put, List.setIfInBounds_toArray, List.set_cons_zero, List.set_cons_succ]
          refine anyH_take (i := 7) (v := .int .i64 (i : Nat)) (some 56) rfl rfl (by kernel_rfl) (by kernel_rfl) (by kernel_rfl) (fun _ _ _ h => h) (Or.inl ⟨by rfl, fun w' hw => by rfl⟩) (by assumption) ?_
          simp only [Act.put, List.setIfInBounds_toArray, List.set_cons_zero, List.set_cons_succ]
          refine anyH_take (i := 8) (v := .pointer (some ⟨b, off + i * 33, none⟩)) (some 57) rfl rfl (by kernel_rfl) (by kernel_rfl) (by kernel_rfl) (fun _ _ _ h => h) (Or.inl ⟨by rfl, fun w' hw => by go_simp⟩) (by assumption) ?_
          simp only [Act.put, List.setIfInBounds_toArray, List.set_cons_zero, List.set_cons_succ]
          refine anyH_take (i := 9) (v := .pointer (some ⟨b, off + i * 33 + 32, none⟩)) (some 58) rfl rfl (by kernel_rfl) (by kernel_rfl) (by kernel_rfl) (fun _ _ _ h => h) (Or.inl ⟨by rfl, fun w' hw => by go_simp⟩) (by assumption) ?_
          simp only [Act.put, List.setIfInBounds_toArray, List.set_cons_zero, List.set_cons_succ]
          refine anyH_take (i := 10) (v := .slice Ay ly cy) (some 59) rfl rfl (by kernel_rfl) (by kernel_rfl) (by kernel_rfl) (fun _ _ _ h => h) (Or.inl ⟨by rfl, fun w' hw => by (have hq := hw.2; go_simp)⟩) (by assumption) ?_
          simp only [Act.put, List.setIfInBounds_toArray, List.set_cons_zero, List.set_cons_succ]
          refine wpAnyH_ready (rs := [11]) (by kernel_rfl) (by simp) ?_
          refine AllReadyH.cons rfl (fun K hK => ?_) AllReadyH.nil
          go_simp
          go_at_call 23
          refine Calls.mono (forest_put w.heap.size xb _ [(a, L)] (by simp; omega) y.key y.val YL HYL.out Hy32.out w.heap.size Ay ly cy wr.drew (hFr.up (Below.dN (Below.refl _ _) 1)) hbr.size (Hbv.out.below (Below.dN (Below.refl _ _) 1) hbr.size) Hly.out Hl2.out) ?_
          rintro e w7 ⟨rfl, hF7, hT7⟩
          have hI7 := hT7.irow (w := wr.drew) (hIr.up (Below.dN (Below.refl _ _) 1))
          have hk7 : w7.rangeAt b (off + i * 33) YL := fun j v hj => by have h := hk1 j v hj; rw [← h]; exact World.cell?_of_block (hT7.blk (w := wr.drew) hIr)
          have hv7 : w7.cell? ⟨b, off + i * 33 + 32, none⟩ = some (.slice Ay ly cy) := by rw [← hv1]; exact World.cell?_of_block (hT7.blk (w := wr.drew) hIr)
          have hb7 := (Below.dN hbr 1).trans (hT7.below hbr.size)
          rw [show y.key = y.it.1 from rfl, show y.val = y.it.2 from rfl, ← Hnx.out] at hF7
          refine hK.out _ _ ⟨hk7, hv7⟩ (fun hHeldx => ?_)
          clear hK K
          try simp only [Act.put, List.setIfInBounds_toArray, List.set_cons_zero, List.set_cons_succ]
          refine wpAnyH_done (by kernel_rfl) ?_ _
          clear hHeld
          go_wp2_with fail
          case roundEnd => exact ⟨⟨i, (i : Int) - 1, by omega, by omega, by simp, hb7, hI7, hF7⟩, by simp [intOf]⟩
        · obtain rfl : k = 0 := by omega
          obtain rfl : z = -1 := by omega
          rw [List.drop_zero] at hFr
          go_wp2_with fail
          go_loopw [63] (fun iv wr => ∃ i : Nat, i ≤ nd ∧ iv = .int .i64 i ∧ Below w.heap.size w wr ∧ IRow wr w4b.heap.size (.slice A5 n5 c5) (playI cs) ∧ Forest w.heap.size [(xb, dropsC L (ds.take i) (putsR L (putsC ds))), (a, L)] wr) (fun iv _ => nd - (intOf iv).toNat)
          case atStart => exact ⟨0, Nat.zero_le _, rfl, hbr, hIr, hFr⟩
          case round =>
            clear hbr hIr hFr
            obtain ⟨i, hin, rfl, hbr, hIr, hFr⟩ := hrel
            by_cases hlt2 : i < nd
            · have hd1 : decide ((i : Int) < (nd : Int)) = true := by simp; omega
              obtain ⟨x, hx⟩ : ∃ x, ds[i]? = some x := ⟨ds[i]'(by rw [Hnd.out]; exact hlt2), List.getElem?_eq_getElem _⟩
              obtain ⟨b, off, rfl, hblk, hrow⟩ := Hds.out.2 (by rw [Hnd.out]; omega)
              have hxm := List.mem_of_getElem? hx
              have hxo := Hds.out.1 x hxm
              obtain ⟨VL, hVL⟩ : ∃ VL, VL = clC x := ⟨_, rfl⟩
              have hVl : VL.length = 34 := by rw [hVL, clC_length hxo.k32]
              have hrg : wr.rangeAt b (off + i * 34) VL := fun j v hj => by
                rw [hVL] at hj
                rw [← hrow i x hx j v hj]
                exact World.cell?_of_block (hbr.block b hblk)
              have HVi := Lib.hid (show (Tryz.prog.info? 50).map (·.size) = some VL.length by rw [hVl]; exact callSize)
              have HVj := Lib.hid (show (Tryz.prog.info? 50).map (·.size) = some VL.toArray.size by rw [List.size_toArray, hVl]; exact callSize)
              have HV1 := Lib.hid (show VL.toArray.all (·.oneCell') = true by rw [hVL]; exact all_oneCell_toArray (clC_one x))
              have HVz := Lib.hid (show CZ.toArray.size = VL.toArray.size by rw [List.size_toArray, List.size_toArray, HZl.out, hVl])
              obtain ⟨wa, hwa⟩ : ∃ W, W = (wr.alloc (.cells CZ.toArray 50)).setRow wr.heap.size VL.toArray := ⟨_, rfl⟩
              obtain ⟨hVa, hbra⟩ := alloc_row wr 50 CZ.toArray VL
              rw [← hwa] at hVa hbra
              obtain ⟨XL, hXL⟩ : ∃ XL, XL = Lib.byteCells x.itm.key := ⟨_, rfl⟩
              obtain ⟨l, hl⟩ : ∃ l, x.itm.val.length = l := ⟨_, rfl⟩
              obtain ⟨wh, hwh⟩ : ∃ wh, x.what = wh := ⟨_, rfl⟩
              obtain ⟨Ax, hAx⟩ : ∃ a, x.itm.adr = a := ⟨_, rfl⟩
              obtain ⟨cx, hcx⟩ : ∃ a, x.itm.cap = a := ⟨_, rfl⟩
              have hlc : l ≤ cx := by rw [← hl, ← hcx]; exact hxo.le
              have hcm : cx ≤ maxLen := by rw [← hcx]; exact hxo.lim
              have hba : Below w.heap.size w wa := hbr.trans (hbra.mono hbr.size)
              have hbx : Bs wa w.heap.size Ax x.itm.val := by
                rw [← hAx]
                exact hxo.bs.below hba (Nat.le_refl _)
              have hck : ∀ w', Arr w' wr.heap.size 50 VL → w'.rangeAt wr.heap.size 1 XL := fun w' h => by rw [hVL] at h; exact cl8k_key h XL hXL
              have hcv : ∀ w', Arr w' wr.heap.size 50 VL → w'.cell? ⟨wr.heap.size, 33, none⟩ = some (.slice Ax l cx) := fun w' h => by rw [hVL] at h; have := cl8k_val h hxo.k32; rwa [hl, hAx, hcx] at this
              have HXi := Lib.hid (show (Tryz.prog.info? 24).map (·.size) = some XL.length by rw [hXL, Lib.byteCells_length, hxo.k32]; kernel_rfl)
              have Hck := Lib.hid hck
              have Hcv := Lib.hid hcv
              have Hx := Lib.hid hx
              have Hxm := Lib.hid hxm
              have Hwa := Lib.hid hwa
              have Hl := Lib.hid hl
              have Hwh := Lib.hid hwh
              have HXL := Lib.hid hXL
              have Hxk := Lib.hid hxo.k32
              have Hbx := Lib.hid hbx
              have Hcm := Lib.hid hcm
              clear hwa hl hx hrow hVL hVl hxo hAx hcx hXL hwh hck hcv hxm hbx hcm
              have hFa := hFr.up hbra
              have hIa := hIr.up hbra
              have hIta : ItsAt wa A5 (playI cs) := by
                obtain ⟨A', c', q, _, _, h⟩ := hIa.slice
                injection q with q1 q2 q3
                rw [q1]; exact h
              obtain ⟨z, hz⟩ : ∃ z, findI (playI cs) x.itm.key 0 = z := ⟨_, rfl⟩
              have hzh : hasF L x.itm.key = decide (0 ≤ z) := by rw [← hz, HL.out]; exact has_find _ _
              have Hz := Lib.hid hz
              have Hnx := Lib.hid (dropsC_take L (putsR L (putsC ds)) Hx.out)
              rw [hzh] at Hnx
              have Hzh := Lib.hid hzh
              clear hFr hIr hbr hz hzh
              go_upto_region 21 with (first
                | (refine wpList_load_mid rfl _ _ rfl b (off + i * 34) rfl VL _ hrg Tryz.underlying50 rfl HVi.out ?_)
                | (refine wpList_allocZ8 rfl 50 rfl CZ.toArray (HZ.out _) ?_)
                | (refine wpList_store_row rfl _ _ _ rfl wr.heap.size VL.toArray rfl rfl 50 CZ.toArray (heap_alloc_new wr _) HVj.out HVz.out HV1.out ?_; rw [← Hwa.out]))
              have hxk := Hck.out wa hVa
              go_wp2_with (refine wpList_load_mid rfl _ _ rfl wr.heap.size 1 rfl XL _ hxk Tryz.underlying24 rfl HXi.out ?_)
              go_at_call 21
              refine Calls.mono (find_run x.itm.key Hxk.out XL HXL.out (playI cs) A5 n5 c5 wa Hn5.out h5c (by omega) hIta z Hz.out) ?_
              rintro e w7 ⟨rfl, hb7⟩
              have hF7 := hFa.up hb7
              have hI7 := hIa.up hb7
              have hV7 := hVa.below hb7 hVa.lt
              have hxk7 := Hck.out w7 hV7
              have hbb7 := hba.trans (hb7.mono hba.size)
              clear hFa hIa hVa hIta hxk hba hbra hb7
              dsimp only
              by_cases hz0 : 0 ≤ z
              · have hdz : decide (z < 0) = false := by simp; omega
                rw [decide_eq_true hz0, if_pos rfl] at Hnx
                rw [← Hnx.out] at hF7
                go_wp2_with fail
                case roundEnd => exact ⟨⟨i + 1, by omega, by simp, hbb7, hI7, hF7⟩, by simp [intOf]; omega⟩
              · have hdz : decide (z < 0) = true := by simp; omega
                rw [decide_eq_false hz0, if_neg (by simp)] at Hnx
                go_wp2_with (refine wpList_load_mid rfl _ _ rfl wr.heap.size 1 rfl XL _ hxk7 Tryz.underlying24 rfl HXi.out ?_)
                go_at_call 24
                refine Calls.mono (forest_drop w.heap.size xb _ [(a, L)] (by simp; omega) x.itm.key XL HXL.out Hxk.out w7 hF7 hbb7.size) ?_
                rintro e w8 ⟨rfl, hF8, hT8⟩
                have hI8 := hT8.irow hI7
                have hb8 := hbb7.trans (hT8.below hbb7.size)
                rw [← Hnx.out] at hF8
                clear hF7 hI7 hT8 hV7 hxk7 hbb7
                dsimp only
                go_wp2_with fail
                case roundEnd => exact ⟨⟨i + 1, by omega, by simp, hb8, hI8, hF8⟩, by simp [intOf]; omega⟩
            · obtain rfl : nd = i := by omega
              have hd1 : decide ((nd : Int) < (nd : Int)) = false := by simp
              have ht : ds.take nd = ds := List.take_of_length_le (by rw [Hnd.out]; exact Nat.le_refl _)
              rw [ht, order_all L HLr.out HL32.out ds Hd32.out] at hFr
              clear ht
              have hBr := hbr.size
              go_wp2_with fail
              go_at_call 12
              refine Calls.mono (forest_root w.heap.size xb L [(a, L)] SL HSL.out wr hFr) ?_
              rintro e w7 ⟨rfl, hF7, hT7⟩
              have hF7 := hF7.sub (ts' := [(a, L), (xb, L)]) (by intro y hy; simp at hy ⊢; exact hy.symm)
              have hb7 := hbr.trans (hT7.below hBr)
              dsimp only
              go_wp2_with fail
              go_at_call 12
              refine Calls.mono (forest_root w.heap.size a L [(xb, L)] SL HSL.out w7 hF7) ?_
              rintro e w8 ⟨rfl, hF8, hT8⟩
              have hF8 := hF8.sub (ts' := [(xb, L), (a, L)]) (by intro y hy; simp at hy ⊢; exact hy.symm)
              have hb8 := hb7.trans (hT8.below hb7.size)
              dsimp only
              go_wp2_with fail
              go_at_call 20
              refine Calls.mono (forest_keys w.heap.size xb L [(a, L)] (by have := HLn.out; omega) w8 hF8) ?_
              rintro e w9 ⟨v9, rfl, hF9, hD9, hb89⟩
              have hF9 := hF9.sub (ts' := [(a, L), (xb, L)]) (by intro y hy; simp at hy ⊢; exact hy.symm)
              have hb9 := hb8.trans (hb89.mono hb8.size)
              dsimp only
              go_wp2_with fail
              go_at_call 20
              refine Calls.mono (forest_keys w.heap.size a L [(xb, L)] (by have := HLn.out; omega) w9 hF9) ?_
              rintro e w10 ⟨v10, rfl, hF10, hD10, hb910⟩
              have hb10 := hb9.trans (hb910.mono hb9.size)
              have hD9b := hD9.up hb910
              obtain ⟨A9, c9, rfl, h91, h92, h93⟩ := hD9b.slice
              obtain ⟨A10, c10, rfl, h101, h102, h103⟩ := hD10.slice
              obtain ⟨nk, hnk⟩ : ∃ x, (L.map (·.1)).length = x := ⟨_, rfl⟩
              rw [hnk] at h91 h101 ⊢
              have Hnk := Lib.hid hnk
              clear hnk hD9 hD9b hD10
              dsimp only
              go_wp2_with fail
              go_at_call 19
              refine Calls.mono (digSame_any (L.map (·.1)) A9 A10 nk c9 c10 w10 Hnk.out h91 h92 h101 h102 h93 h103) ?_
              rintro e w11 ⟨rfl, k11, rfl⟩
              dsimp only
              go_wp2_with fail
              go_ret
              exact ⟨rfl, Below.dN hb10 k11⟩



theorem torder_walk (A : Option Addr) (n c : Nat) (cs : List Cl8) (hn : cs.length = n) (hc : n ≤ c) (hm : c ≤ maxLen) (Ad : Option Addr) (nd cd : Nat) (ds : List Cl8) (hnd : ds.length = nd) (hcd : nd ≤ cd) (hmd : cd ≤ maxLen) (w : World) (hcs : Cls8 w w.heap.size A cs) (hds : Cls8 w w.heap.size Ad ds) : Calls Tryz.prog 4 #[.slice A n c, .slice Ad nd cd] w fun e w' => e = .returned (.bool true) ∧ Below w.heap.size w w' := by
  by_cases h : great8 cs = true ∨ great8 ds = true
  · exact torder_great A n c cs hn hc hm Ad nd cd ds hnd hcd hmd w hcs hds h
  · have q : ∀ b : Bool, ¬ b = true → b = false := fun b h => by cases b with | false => rfl | true => exact absurd rfl h
    exact torder_in A n c cs hn hc hm Ad nd cd ds hnd hcd hmd w hcs hds (q _ fun e => h (.inl e)) (q _ fun e => h (.inr e))

end Go.Proofs.YtjbiegbdnppncaaGreat

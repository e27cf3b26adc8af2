/-
  The walk of TrieUnlike. Written by gen_tunlike.py.
-/
import Derived.Test.YtjbiegbdnppncaaGreatLTrieDropsWalk
import Derived.Test.YtjbiegbdnppncaaGreatLRowsSame
import Derived.Test.YtjbiegbdnppncaaGreatLTrieLike
namespace Go.Proofs.YtjbiegbdnppncaaGreat
open Go.RowKit
set_option linter.unusedVariables false
set_option linter.unusedSimpArgs false

theorem proveF_lenT (key : List UInt8) : ∀ (f : Nat) (l : List It) (t : Nat), Good l → (∀ x ∈ l, x.2.length ≤ 1000) → (∀ i, i < t → agreeF l i = true) → t ≤ 64 → ∀ a ∈ proveF key f l t, a.length ≤ 1900
  | 0, _, _, _, _, _, _ => fun a ha => by simp [proveF] at ha
  | f + 1, l, t, hg, hv, hag, ht => fun a ha => by
    unfold proveF at ha
    by_cases hl : l = []
    · rw [if_pos hl] at ha; cases ha
    · rw [if_neg hl] at ha
      have hp : 0 < l.length := List.length_pos_iff.2 hl
      rcases List.mem_cons.1 ha with rfl | ha
      · exact nodeF_len 65 l t hv ht hp
      · split at ha
        · cases ha
        · rename_i hc
          have h2 : 2 ≤ l.length := by
            have : l.length ≠ 1 := fun e => hc (.inl e)
            omega
          have hs := hg.split h2 ht hag
          exact proveF_lenT key f _ _ (hg.part _ _) (fun z hz => hv z (mem_subF.1 hz).1) (part_agree (shared_agree hag)) (by omega) a ha
theorem take_oneT {P rs : List (List UInt8)} {i : Nat} {a : List UInt8} (hi : P.take i = rs.take i) (ha : P[i]? = some a) (hb : rs[i]? = some a) : P.take (i + 1) = rs.take (i + 1) := by
  obtain ⟨h1, h2⟩ := List.getElem?_eq_some_iff.1 ha
  obtain ⟨h3, h4⟩ := List.getElem?_eq_some_iff.1 hb
  rw [List.take_succ_eq_append_getElem h1, List.take_succ_eq_append_getElem h3, hi, h2, h4]
theorem root_node {L : List It} (h : L ≠ []) : rootF L = nodeD L 0 := by unfold rootF; rw [if_neg h]
/-- Where ways of tries of one root part, two nodes have one digest. -/
theorem unlike_clash {L M : List It} (gl : Good L) (gm : Good M) (vl : ∀ x ∈ L, x.2.length ≤ 1000) (vm : ∀ x ∈ M, x.2.length ≤ 1000) (hr : rootF L = rootF M) (key : List UInt8) (k : Nat) (a b : List UInt8) (hk : (proveF key 65 L 0).take k = (proveF key 65 M 0).take k) (ha : (proveF key 65 L 0)[k]? = some a) (hb : (proveF key 65 M 0)[k]? = some b) : shaF (tagF 4 [a]) = shaF (tagF 4 [b]) := by
  have hl : L ≠ [] := fun e => by rw [e, proveF_none] at ha; simp at ha
  have hm : M ≠ [] := fun e => by rw [e, proveF_none] at hb; simp at hb
  rw [root_node hl, root_node hm] at hr
  exact way_first key 65 L M 0 hl hm gl gm vl vm (fun i hi => by omega) (fun i hi => by omega) (by omega) hr k a b hk ha hb
theorem unlike_end {L M : List It} (rl : Rise L) (rm : Rise M) (l32 : ∀ x ∈ L, x.1.length = 32) (m32 : ∀ x ∈ M, x.1.length = 32) (vl : ∀ x ∈ L, x.2.length ≤ 1000) (vm : ∀ x ∈ M, x.2.length ≤ 1000) (hne : L ≠ M) (hall : ∀ x, x ∈ L ∨ x ∈ M → ∀ (k : Nat) (a b : List UInt8), (proveF x.1 65 L 0)[k]? = some a → (proveF x.1 65 M 0)[k]? = some b → a = b) : L = [] ∨ M = [] := by
  by_cases hl : L = []
  · exact .inl hl
  · by_cases hm : M = []
    · exact .inr hm
    · exact absurd (way_all 65 L M 0 hl hm rl rm l32 m32 vl vm (fun i hi => by omega) (fun i hi => by omega) (fun x _ y _ i hi => by omega) (by omega) (by omega) hall) hne
/-- Rows that go together as far as both reach tell the same. -/
theorem take_all {P Q : List (List UInt8)} {k : Nat} (h : P.take k = Q.take k) (hk : P.length ≤ k ∨ Q.length ≤ k) : ∀ (j : Nat) (a b : List UInt8), P[j]? = some a → Q[j]? = some b → a = b := fun j a b ha hb => by
  have h1 := (List.getElem?_eq_some_iff.1 ha).1
  have h2 := (List.getElem?_eq_some_iff.1 hb).1
  have hj : j < k := by omega
  have h3 : (P.take k)[j]? = some a := by rw [List.getElem?_take_of_lt hj]; exact ha
  rw [h, List.getElem?_take_of_lt hj, hb] at h3
  injection h3 with h3
  exact h3.symm
theorem map_ne {xs ys : List Itm} {i : Nat} {x y : Itm} (hx : xs[i]? = some x) (hy : ys[i]? = some y) (h : x.it ≠ y.it) : xs.map Itm.it ≠ ys.map Itm.it := fun e => by
  have h1 : (xs.map Itm.it)[i]? = some x.it := by rw [List.getElem?_map, hx]; rfl
  rw [e, List.getElem?_map, hy] at h1
  injection h1 with h1
  exact h h1.symm
theorem map_eq {xs ys : List Itm} (hl : xs.length = ys.length) (h : ∀ (j : Nat) (x y : Itm), xs[j]? = some x → ys[j]? = some y → x.it = y.it) : xs.map Itm.it = ys.map Itm.it := by
  refine List.ext_getElem? fun j => ?_
  rw [List.getElem?_map, List.getElem?_map]
  by_cases hj : j < xs.length
  · have hx : xs[j]? = some xs[j] := List.getElem?_eq_getElem hj
    have hy : ys[j]? = some (ys[j]'(by omega)) := List.getElem?_eq_getElem (by omega)
    rw [hx, hy]
    simp [h j _ _ hx hy]
  · rw [List.getElem?_eq_none (by omega), List.getElem?_eq_none (by omega)]
theorem itsC_len {xs : List Itm} (h : ∀ x ∈ xs, x.key.length = 32) : (itsC xs).length = xs.length * 33 := by
  induction xs with
  | nil => rfl
  | cons x xs ih =>
    rw [itsC_cons, List.length_append, itC_length (h x (by simp)), ih fun y hy => h y (by simp [hy]), List.length_cons]
    omega
theorem its_of_row {w : World} {B : Nat} {A : Option Addr} {n c : Nat} {xs : List Itm} (h : IRow w B (.slice A n c) xs) : ItsAt w A xs := by
  obtain ⟨A', c', q, _, _, h⟩ := h.slice
  injection q with q1 q2 q3
  rw [q1]; exact h
set_option maxRecDepth 100000 in
/-- append of a row of items. -/
theorem run_append_its {w : World} {B : Nat} {v : Value} {xs : List Itm} (h : IRow w B v xs) (hB : B ≤ w.heap.size) (ty : TypeId) (A : Option Addr) (m c : Nat) (ys : List Itm) (hm : ys.length = m) (hys : ItsAt w A ys) (hlim : xs.length + m ≤ 1000000) :
    ∃ v' w', (Builtin.append_ #[28, 28] ty #[v, .slice A m c]).run Tryz.prog w = .ok v' w' ∧ IRow w' B v' (xs ++ ys) ∧ w.grownBy w' v.ownBlock := by
  obtain ⟨i0, hi, hz0, hz1, hz2⟩ := info_parts itAll
  subst hm
  rcases A with _ | ad
  · have hl0 : ys = [] := by
      rcases Nat.eq_zero_or_pos ys.length with h0 | h0
      · exact List.eq_nil_of_length_eq_zero h0
      · obtain ⟨_, _, e, _⟩ := hys h0; cases e
    subst hl0
    exact ⟨v, w, run_append_nothing w B 28 ty 40 i0 33 Tryz.underlying28 hi v _ _ h.2 c, by simpa using h, ⟨rfl, rfl, rfl, Nat.le_refl _, fun _ _ _ => rfl⟩⟩
  · have hk : ∀ y ∈ ys, y.key.length = 32 := fun y hy => by
      obtain ⟨j, hj, e⟩ := List.mem_iff_getElem.1 hy
      obtain ⟨b, off, _, _, hr⟩ := hys (by omega)
      exact (hr j y (by rw [List.getElem?_eq_getElem hj, e])).1
    have hl33 : (itsC ys).length = ys.length * 33 := itsC_len hk
    have hone : ∀ u ∈ itsC ys, u.oneCell' = true := fun u hu => by
      obtain ⟨y, _, hu⟩ := List.mem_flatMap.1 hu
      exact itC_one y u hu
    have hcells : ∀ j u, (itsC ys)[j]? = some u → w.cell? (ad.add j) = some u := fun j u hj => by
      have hjl := (List.getElem?_eq_some_iff.1 hj).1
      obtain ⟨b, off, e, _, hr⟩ := hys (by omega)
      injection e with e
      subst e
      have hq : j / 33 < ys.length := by omega
      obtain ⟨y, hy⟩ : ∃ y, ys[j / 33]? = some y := ⟨_, List.getElem?_eq_getElem hq⟩
      obtain ⟨_, hr2⟩ := hr _ y hy
      have hm : j % 33 < (itC y).length := by rw [itC_length (hk y (List.mem_of_getElem? hy))]; omega
      have h2 := itsC_at hk hy (j % 33) _ (List.getElem?_eq_getElem hm)
      rw [show j / 33 * 33 + j % 33 = j by omega, hj] at h2
      injection h2 with h2
      have h3 := hr2 (j % 33) _ (List.getElem?_eq_getElem hm)
      rw [← h2, show off + j / 33 * 33 + j % 33 = off + j by omega] at h3
      have hadd : (⟨b, off, none⟩ : Addr).add j = ⟨b, off + j, none⟩ := by unfold Addr.add; split <;> simp_all
      rw [hadd]; exact h3
    obtain ⟨v', w', h1, h2, h3, _, _⟩ := run_append_own_at (P := Tryz.prog) w B 28 ty 40 i0 (.agg itZ.toArray) 33 56 Tryz.underlying28 hi hz0 hz1 hz2 rfl (by decide) v xs.length (itsC xs) h.2 ad ys.length c (itsC ys) hl33 hcells hone (by unfold maxLen; omega) (by omega) hB
    refine ⟨v', w', h1, ⟨fun y hy => ?_, ?_⟩, h3⟩
    · rcases List.mem_append.1 hy with hy | hy
      · exact h.1 y hy
      · exact hk y hy
    · rw [itsC_append, List.length_append]
      exact h2
theorem wpList_append_its {ops : Array Oper} {rest : List Oper} {o : Oper} {a : Act} {w : World} {Q : Exit → Act → World → Prop} (hgd : o.guard = none) (s x : Operand) (ho : o.op = .call { callee := .builtin .append, args := #[s, x], argTypes := #[28, 28] })
    {B : Nat} {v : Value} {xs : List Itm} (h : IRow w B v xs) (hB : B ≤ w.heap.size) (hs : a.eval s = v) (A : Option Addr) (m c : Nat) (ys : List Itm) (hx : a.eval x = .slice A m c) (hm : ys.length = m) (hys : ItsAt w A ys) (hlim : xs.length + m ≤ 1000000)
    (hK : ∀ v' w', IRow w' B v' (xs ++ ys) → w.grownBy w' v.ownBlock → wpList Tryz.prog ops Q rest (a.put o.dst v') w') : wpList Tryz.prog ops Q (o :: rest) a w := by
  refine wpList_plain hgd fun K hK' => ?_
  obtain ⟨v', w', hr, h2, h3⟩ := run_append_its h hB o.type A m c ys hm hys hlim
  unfold Oper.wp execOp
  simp only [ho, resolve, invoke, builtin, Sem.run_bind, Sem.run_pure, Result.andThen_ok, List.map_toArray, List.map_cons, List.map_nil, hs, hx, hr]
  exact hK' _ _ (hK v' w' h2 h3)

set_option maxHeartbeats 8000000 in
set_option maxRecDepth 100000 in
theorem tunlike_great (A : Option Addr) (n c : Nat) (cs : List Cl8) (hn : cs.length = n) (hc : n ≤ c) (hm : c ≤ maxLen) (Ad : Option Addr) (nd cd : Nat) (ds : List Cl8) (hnd : ds.length = nd) (hcd : nd ≤ cd) (hmd : cd ≤ maxLen) (w : World) (hcs : Cls8 w w.heap.size A cs) (hds : Cls8 w w.heap.size Ad ds) (hg : great8 cs = true ∨ great8 ds = true) :
    Calls Tryz.prog 6 #[.slice A n c, .slice Ad nd cd] w fun e w' => e = .returned (.bool true) ∧ Below w.heap.size w w' := by
  obtain ⟨g8, hg8⟩ : ∃ g, great8 cs = g := ⟨_, rfl⟩
  obtain ⟨gd, hgd⟩ : ∃ g, great8 ds = g := ⟨_, rfl⟩
  have Hg8 := Lib.hid hg8
  have Hgd := Lib.hid hgd
  rw [hg8, hgd] at hg
  clear hg8 hgd
  have Hn := Lib.hid hn
  have Hnd := Lib.hid hnd
  have Hcs := Lib.hid hcs
  have Hds := Lib.hid hds
  have Hmc := Lib.hid hm
  have Hmd := Lib.hid hmd
  unfold maxLen at hm hmd
  clear hn hcs hnd hds
  go_enter Tryz.func6, Tryz.ntmps6
  go_wp2_with fail
  go_at_call 9
  refine Calls.mono (speaks8_run w) ?_
  rintro e w3 ⟨rfl, hb3⟩
  dsimp only
  go_wp2_with fail
  go_at_call 10
  refine Calls.mono (great8_any cs A n c w3 Hn.out hc hm (Hcs.out.base hb3)) ?_
  rintro e w4 ⟨rfl, hb34⟩
  have hb4 := hb3.trans (hb34.mono hb3.size)
  clear hb34 hb3
  rw [Hg8.out]
  cases g8 with
  | true =>
    dsimp only
    go_wp2_with fail
    go_ret
    exact ⟨rfl, hb4⟩
  | false =>
    obtain rfl : gd = true := hg.elim (fun h => by cases h) id
    clear hg
    dsimp only
    go_wp2_with fail
    go_at_call 10
    refine Calls.mono (great8_any ds Ad nd cd w4 Hnd.out hcd hmd (Hds.out.base hb4)) ?_
    rintro e w5 ⟨rfl, hb45⟩
    have hb5 := hb4.trans (hb45.mono hb4.size)
    rw [Hgd.out]
    dsimp only
    go_wp2_with fail
    go_ret
    exact ⟨rfl, hb5⟩

theorem app_low {B : Nat} {w w' : World} {v : Value} {xs : List Itm} (h : IRow w B v xs) (hB : B ≤ w.heap.size) (hg : w.grownBy w' v.ownBlock) : Below B w w' ∧ B ≤ w'.heap.size :=
  ⟨(Below.refl B w).grown hg hB (fun k hk => (h.lt k hk).1), Nat.le_trans hB hg.size⟩
theorem IRow.lowB {B B1 : Nat} {w w' : World} {v : Value} {xs : List Itm} (h : IRow w B1 v xs) (hlt : ∀ k, v.ownBlock = some k → k < B) (hb : Below B w w') : IRow w' B1 v xs := by
  refine ⟨h.1, h.2.1, ?_⟩
  rcases h.2.2 with hn | ⟨g, cap, cur, rfl, h1, hg, rest⟩
  · exact .inl hn
  · exact .inr ⟨g, cap, cur, rfl, h1, (hb.block g (hlt g rfl)).trans hg, rest⟩

set_option maxHeartbeats 40000000 in
set_option maxRecDepth 100000 in
theorem tunlike_in (A : Option Addr) (n c : Nat) (cs : List Cl8) (hn : cs.length = n) (hc : n ≤ c) (hm : c ≤ maxLen) (Ad : Option Addr) (nd cd : Nat) (ds : List Cl8) (hnd : ds.length = nd) (hcd : nd ≤ cd) (hmd : cd ≤ maxLen) (w : World) (hcs : Cls8 w w.heap.size A cs) (hds : Cls8 w w.heap.size Ad ds) (hg : great8 cs = false) (hgd : great8 ds = false) :
    Calls Tryz.prog 6 #[.slice A n c, .slice Ad nd cd] w fun e w' => e = .returned (.bool true) ∧ Below w.heap.size w w' := by
  obtain ⟨L, hL⟩ : ∃ L, L = (playI cs).map Itm.it := ⟨_, rfl⟩
  have hLr : Rise L := by rw [hL]; exact (playI_rise cs (fun x hx => (hcs.1 x hx).k32)).1
  have hL32 : ∀ x ∈ L, x.1.length = 32 := by
    rw [hL]
    rintro x hx
    obtain ⟨y, hy, rfl⟩ := List.mem_map.1 hx
    exact (playI_rise cs (fun x hx => (hcs.1 x hx).k32)).2.1 y hy
  have hIl : ∀ y ∈ playI cs, ItOk w w.heap.size y ∧ y.val.length ≤ 200 := fun y hy => by
    obtain ⟨z, hz, rfl⟩ := (playI_facts cs).2.1 y hy
    exact ⟨hcs.1 z hz, (great8_no hg).2 z hz⟩
  have hLv : ∀ x ∈ L, x.2.length ≤ 1000 := by
    rw [hL]
    rintro x hx
    obtain ⟨y, hy, rfl⟩ := List.mem_map.1 hx
    exact Nat.le_trans (hIl y hy).2 (by decide)
  have hLn : (playI cs).length ≤ 50 := Nat.le_trans (playI_facts cs).2.2 (great8_no hg).1
  have HLg := Lib.hid (show Good ((playI cs).map Itm.it) by rw [← hL]; exact hLr.good hL32)
  have HLg2 := Lib.hid (hLr.good hL32)
  obtain ⟨SL, hSL⟩ : ∃ SL, SL = Lib.byteCells (rootF L) := ⟨_, rfl⟩
  have hLroot : (rootF L).length = 32 := by unfold rootF nodeD; split <;> exact shaF_length _
  have HL := Lib.hid hL
  have HSL := Lib.hid hSL
  have HLr := Lib.hid hLr
  have HL32 := Lib.hid hL32
  have HLn := Lib.hid hLn
  have HLv := Lib.hid hLv
  have HhIl := Lib.hid hIl
  have HLroot := Lib.hid hLroot
  clear hSL hL hLroot hLr hL32 hIl hLn hLv
  obtain ⟨M, hM⟩ : ∃ L, L = (playI ds).map Itm.it := ⟨_, rfl⟩
  have hMr : Rise M := by rw [hM]; exact (playI_rise ds (fun x hx => (hds.1 x hx).k32)).1
  have hM32 : ∀ x ∈ M, x.1.length = 32 := by
    rw [hM]
    rintro x hx
    obtain ⟨y, hy, rfl⟩ := List.mem_map.1 hx
    exact (playI_rise ds (fun x hx => (hds.1 x hx).k32)).2.1 y hy
  have hIm : ∀ y ∈ playI ds, ItOk w w.heap.size y ∧ y.val.length ≤ 200 := fun y hy => by
    obtain ⟨z, hz, rfl⟩ := (playI_facts ds).2.1 y hy
    exact ⟨hds.1 z hz, (great8_no hgd).2 z hz⟩
  have hMv : ∀ x ∈ M, x.2.length ≤ 1000 := by
    rw [hM]
    rintro x hx
    obtain ⟨y, hy, rfl⟩ := List.mem_map.1 hx
    exact Nat.le_trans (hIm y hy).2 (by decide)
  have hMn : (playI ds).length ≤ 50 := Nat.le_trans (playI_facts ds).2.2 (great8_no hgd).1
  have HMg := Lib.hid (show Good ((playI ds).map Itm.it) by rw [← hM]; exact hMr.good hM32)
  have HMg2 := Lib.hid (hMr.good hM32)
  obtain ⟨TL, hTL⟩ : ∃ SL, SL = Lib.byteCells (rootF M) := ⟨_, rfl⟩
  have hMroot : (rootF M).length = 32 := by unfold rootF nodeD; split <;> exact shaF_length _
  have HM := Lib.hid hM
  have HTL := Lib.hid hTL
  have HMr := Lib.hid hMr
  have HM32 := Lib.hid hM32
  have HMn := Lib.hid hMn
  have HMv := Lib.hid hMv
  have HhIm := Lib.hid hIm
  have HMroot := Lib.hid hMroot
  clear hTL hM hMroot hMr hM32 hIm hMn hMv
  have h50 : n ≤ 50 := by rw [← hn]; exact (great8_no hg).1
  have h50d : nd ≤ 50 := by rw [← hnd]; exact (great8_no hgd).1
  have Hv200 := Lib.hid (great8_no hg).2
  have Hd200 := Lib.hid (great8_no hgd).2
  have hgt := gt32
  obtain ⟨rq, hrq⟩ : ∃ r, decide (rootF L = rootF M) = r := ⟨_, rfl⟩
  have heR : ∀ w, (Op.equalIn 10000 24 (.agg SL.toArray) (.agg TL.toArray)).run Tryz.prog w = .ok rq w := fun w => by
    rw [eqv_at Tryz.underlying24 _ _ HLroot.out HMroot.out SL TL HSL.out HTL.out w, hrq]
  have Hrq := Lib.hid hrq
  have Hg8 := Lib.hid hg
  have Hgd := Lib.hid hgd
  clear hg hgd hrq
  obtain ⟨IZ, hIZ⟩ : ∃ IZ, IZ = itZ := ⟨_, rfl⟩
  have HIZ := Lib.hid (fun w : World => show (zeroValue 40).run Tryz.prog w = .ok (.agg IZ.toArray) w by rw [hIZ]; kernel_rfl)
  have HIZl := Lib.hid (show IZ.length = 33 by rw [hIZ]; rfl)
  clear hIZ
  have Hn := Lib.hid hn
  have Hnd := Lib.hid hnd
  have Hcs := Lib.hid hcs
  have Hds := Lib.hid hds
  have Hmc := Lib.hid hm
  have Hmd := Lib.hid hmd
  unfold maxLen at hm hmd
  clear hn hcs hnd hds
  go_enter Tryz.func6, Tryz.ntmps6
  go_wp2_with fail
  go_at_call 9
  refine Calls.mono (speaks8_run w) ?_
  rintro e w3 ⟨rfl, hb3⟩
  dsimp only
  go_wp2_with fail
  go_at_call 10
  refine Calls.mono (great8_any cs A n c w3 Hn.out hc hm (Hcs.out.base hb3)) ?_
  rintro e w4 ⟨rfl, hb34⟩
  have hb4 := hb3.trans (hb34.mono hb3.size)
  clear hb34 hb3
  rw [Hg8.out]
  dsimp only
  go_wp2_with fail
  go_at_call 10
  refine Calls.mono (great8_any ds Ad nd cd w4 Hnd.out hcd hmd (Hds.out.base hb4)) ?_
  rintro e w4b ⟨rfl, hb44⟩
  have hb4b := hb4.trans (hb44.mono hb4.size)
  rw [Hgd.out]
  clear hb44 hb4
  dsimp only
  go_wp2_with fail
  go_at_call 11
  refine Calls.mono (forest_play w.heap.size [] cs A n c w4b (Forest.none _ _) hb4b.size Hn.out h50 hc Hmc.out (Hcs.out.base hb4b) Hv200.out) ?_
  rintro e w5 ⟨xb, v5, rfl, ha5, hI5, hF5, hb45⟩
  rw [← HL.out] at hF5
  have hb5 := hb4b.trans (hb45.mono hb4b.size)
  have hxlt := (hF5.lt (x := (xb, L)) (by simp)).1
  obtain ⟨A5, c5, rfl, h5c, h5m, hIt5⟩ := hI5.slice
  obtain ⟨n5, hn5⟩ : ∃ n, (playI cs).length = n := ⟨_, rfl⟩
  rw [hn5] at h5c hI5 ⊢
  have h5n : n5 ≤ 50 := by rw [← hn5]; exact HLn.out
  have Hn5 := Lib.hid hn5
  have h5c' : c5 ≤ 9223372036854775807 := by unfold maxLen at h5m; exact h5m
  clear hb45 hn5 hIt5 h5m
  dsimp only
  go_wp2_with fail
  go_at_call 11
  refine Calls.mono (forest_play w.heap.size [(xb, L)] ds Ad nd cd w5 hF5 hb5.size Hnd.out h50d hcd Hmd.out (Hds.out.base hb5) Hd200.out) ?_
  rintro e w6 ⟨yb, v6, rfl, ha6, hI6, hF6, hb56⟩
  rw [← HM.out] at hF6
  have hxy : xb ≠ yb := by omega
  have hb6 := hb5.trans (hb56.mono hb5.size)
  have hI56 := hI5.up hb56
  obtain ⟨A6, c6, rfl, h6c, h6m, hIt6⟩ := hI6.slice
  obtain ⟨n6, hn6⟩ : ∃ n, (playI ds).length = n := ⟨_, rfl⟩
  rw [hn6] at h6c hI6 ⊢
  have h6n : n6 ≤ 50 := by rw [← hn6]; exact HMn.out
  have Hn6 := Lib.hid hn6
  have h6c' : c6 ≤ 9223372036854775807 := by unfold maxLen at h6m; exact h6m
  obtain ⟨B5, hB5⟩ : ∃ B, w4b.heap.size = B := ⟨_, rfl⟩
  obtain ⟨B6, hB6⟩ : ∃ B, w5.heap.size = B := ⟨_, rfl⟩
  rw [hB5] at hI56
  rw [hB6] at hI6
  have HfitL := Lib.hid (fun (w' : World) (hI : IRow w' B5 (.slice A5 n5 c5) (playI cs)) (hb : Below w.heap.size w w') => fit_row hI Hn5.out h5c (by omega) hb HhIl.out HLg.out)
  have HfitM := Lib.hid (fun (w' : World) (hI : IRow w' B6 (.slice A6 n6 c6) (playI ds)) (hb : Below w.heap.size w w') => fit_row hI Hn6.out h6c (by omega) hb HhIm.out HMg.out)
  have HI5 := Lib.hid hI56
  have HI6 := Lib.hid hI6
  have HF6 := Lib.hid hF6
  have Hb6 := Lib.hid hb6
  obtain ⟨s0, hs0⟩ : ∃ s, ((n5 : Int) == (n6 : Int)) = s := ⟨_, rfl⟩
  have hsS : (s0 = true → n5 = n6 ∧ ∀ (j : Nat) (x y : Itm), j < 0 → (playI cs)[j]? = some x → (playI ds)[j]? = some y → x.it = y.it) ∧ (s0 = false → L ≠ M) := by
    refine ⟨fun h => ⟨?_, fun j x y hj => by omega⟩, fun h e => ?_⟩
    · rw [h] at hs0
      have := eq_of_beq hs0
      omega
    · rw [h] at hs0
      have h2 : ¬ ((n5 : Int) = (n6 : Int)) := by simpa using hs0
      have e1 := congrArg List.length e
      rw [HL.out, HM.out, List.length_map, List.length_map, Hn5.out, Hn6.out] at e1
      omega
  clear hb56 hn6 hIt6 h6m hB5 hB6 hI5 hF5 hb5 hb4b hI56 hI6 hF6 hb6 ha5 ha6 hxlt
  dsimp only
  go_wp2_with fail
  go_loopw [9, 10] (fun sv iv wr => ∃ (sb : Bool) (i nd' : Nat), i ≤ n5 ∧ sv = .bool sb ∧ iv = .int .i64 i ∧ wr = w6.drewN nd' ∧ Hid ((sb = true → n5 = n6 ∧ ∀ (j : Nat) (x y : Itm), j < i → (playI cs)[j]? = some x → (playI ds)[j]? = some y → x.it = y.it) ∧ (sb = false → L ≠ M))) (fun _ iv _ => n5 - (intOf iv).toNat)
  case atStart => exact ⟨s0, 0, 0, Nat.zero_le _, by first | rfl | rw [hs0], rfl, rfl, hsS⟩
  case round =>
    clear hsS hs0
    obtain ⟨sb, i, nd', hin, rfl, rfl, rfl, HS⟩ := hrel
    have hbr : Below w.heap.size w (w6.drewN nd') := Below.dN Hb6.out nd'
    have hFr : Forest w.heap.size [(yb, M), (xb, L)] (w6.drewN nd') := HF6.out.up (Below.dN (Below.refl _ _) nd')
    have hI5r : IRow (w6.drewN nd') B5 (.slice A5 n5 c5) (playI cs) := HI5.out.up (Below.dN (Below.refl _ _) nd')
    have hI6r : IRow (w6.drewN nd') B6 (.slice A6 n6 c6) (playI ds) := HI6.out.up (Below.dN (Below.refl _ _) nd')
    obtain ⟨wr, hwr⟩ : ∃ x, x = w6.drewN nd' := ⟨_, rfl⟩
    cases sb with
    | false =>
      have hne : L ≠ M := HS.out.2 rfl
      have Hne := Lib.hid hne
      rw [← hwr] at hbr hFr hI5r hI6r ⊢
      clear hne HS hwr
      go_wp2_with fail
      go_at_call 12
      refine Calls.mono (forest_root w.heap.size xb L [(yb, M)] SL HSL.out wr (hFr.sub (by intro y hy; simp at hy ⊢; exact hy.symm))) ?_
      rintro e w7 ⟨rfl, hF7, hT7⟩
      have hb7 := hbr.trans (hT7.below hbr.size)
      have hI57 := hT7.irow hI5r
      have hI67 := hT7.irow hI6r
      clear hI5r hI6r hFr hT7 hbr
      dsimp only
      go_wp2_with fail
      go_at_call 12
      refine Calls.mono (forest_root w.heap.size yb M [(xb, L)] TL HTL.out w7 (hF7.sub (by intro y hy; simp at hy ⊢; exact hy.symm))) ?_
      rintro e w8 ⟨rfl, hF8, hT8⟩
      have hb8 := hb7.trans (hT8.below hb7.size)
      have hI58 := hT8.irow hI57
      have hI68 := hT8.irow hI67
      clear hI57 hI67 hF7 hF8 hT8 hb7
      dsimp only
      cases rq with
      | false =>
        go_wp2_with fail
        go_ret
        exact ⟨rfl, hb8⟩
      | true =>
        have hroot : rootF L = rootF M := of_decide_eq_true Hrq.out
        have Hroot := Lib.hid hroot
        clear hroot
        obtain ⟨W9, hW9⟩ : ∃ x, x = w8.alloc (.cells #[] 40) := ⟨_, rfl⟩
        have hbe : Below w8.heap.size w8 W9 := by rw [hW9]; exact (Below.refl _ _).alloc (Nat.le_refl _) _
        have hI90 : IRow W9 w8.heap.size (.slice (some ⟨w8.heap.size, 0, none⟩) 0 0) [] := by rw [hW9]; exact IRow.empty w8 _ (Nat.le_refl _)
        have h5lt : ∀ k, (Value.slice A5 n5 c5).ownBlock = some k → k < w8.heap.size := fun k hk => (hI58.lt k hk).2
        have h6lt : ∀ k, (Value.slice A6 n6 c6).ownBlock = some k → k < w8.heap.size := fun k hk => (hI68.lt k hk).2
        have hI59 := hI58.up hbe
        have hI69 := hI68.up hbe
        have hb9 := hb8.trans (hbe.mono hb8.size)
        have hz9 : w8.heap.size ≤ W9.heap.size := hbe.size
        have hw8 := hb8.size
        have hit5 := its_of_row hI59
        have h5lim : ([] : List Itm).length + n5 ≤ 1000000 := by simp; omega
        obtain ⟨B8, hB8⟩ : ∃ x, w8.heap.size = x := ⟨_, rfl⟩
        rw [hB8] at hI90 hz9 hw8 h5lt h6lt
        have HW9 := Lib.hid hW9
        have HB8 := Lib.hid hB8
        clear hW9 hbe hI58 hI68 hB8 hb8
        go_upto_region 17 with (first
          | (at_builtin; (try change wpList _ _ _ _ _ (w8.alloc (.cells #[] 40))); (try rw [← HW9.out]); (try rw [HB8.out]); refine wpList_append_its rfl _ _ rfl hI90 hz9 rfl A5 n5 c5 (playI cs) rfl Hn5.out hit5 h5lim ?_; intro v10 w10 hI10 hg10; rw [List.nil_append] at hI10; obtain ⟨hl10, hz10⟩ := app_low hI90 hz9 hg10; have hI510 := hI59.lowB h5lt hl10; have hI610 := hI69.lowB h6lt hl10; have hb10 := hb9.trans (hl10.mono hw8); have hit6 := its_of_row hI610; have h6lim : (playI cs).length + n6 ≤ 1000000 := by (rw [Hn5.out]; omega))
          | (at_builtin; refine wpList_append_its rfl _ _ rfl hI10 hz10 rfl A6 n6 c6 (playI ds) rfl Hn6.out hit6 h6lim ?_; intro v11 w11 hI11 hg11; obtain ⟨hl11, hz11⟩ := app_low hI10 hz10 hg11; have hI511 := hI510.lowB h5lt hl11; have hI611 := hI610.lowB h6lt hl11; have hb11 := hb10.trans (hl11.mono hw8); obtain ⟨zs, hzs⟩ : ∃ z, playI cs ++ playI ds = z := ⟨_, rfl⟩; rw [hzs] at hI11; obtain ⟨A9, c9, rfl, h9c, h9m, _⟩ := hI11.slice; obtain ⟨n9, hn9⟩ : ∃ x, zs.length = x := ⟨_, rfl⟩; rw [hn9] at hI11 h9c ⊢; clear hit5 hit6 h5lim h6lim hI90 hI59 hI69 hI10 hI510 hI610 hg10 hg11 hl10 hl11 hb9 hb10 hz9 hz10 h5lt h6lt))
        have h9n : n9 ≤ 1000 := by rw [← hn9, ← hzs, List.length_append, Hn5.out, Hn6.out]; omega
        have Hn9 := Lib.hid hn9
        have Hzs := Lib.hid hzs
        clear hn9 hzs h9m
        go_loopw [101] (fun iv wr => ∃ i : Nat, i ≤ n9 ∧ iv = .int .i64 i ∧ Below w.heap.size w wr ∧ IRow wr B8 (.slice A9 n9 c9) zs ∧ IRow wr B5 (.slice A5 n5 c5) (playI cs) ∧ IRow wr B6 (.slice A6 n6 c6) (playI ds) ∧ Hid (∀ (j : Nat) (x : Itm), j < i → zs[j]? = some x → ∀ (k : Nat) (a b : List UInt8), (proveF x.key 65 L 0)[k]? = some a → (proveF x.key 65 M 0)[k]? = some b → a = b)) (fun iv _ => n9 - (intOf iv).toNat)
        case atStart => exact ⟨0, Nat.zero_le _, rfl, hb11, hI11, hI511, hI611, fun j x hj => by omega⟩
        case round =>
          clear hb11 hI11 hI511 hI611 hz11
          obtain ⟨i, hin, rfl, hbr, hIr, hI5r, hI6r, HS⟩ := hrel
          by_cases hlt2 : i < n9
          · have hd4 : decide ((i : Int) < (n9 : Int)) = true := by simp; omega
            obtain ⟨y, hy⟩ : ∃ y, zs[i]? = some y := ⟨zs[i]'(by rw [Hn9.out]; exact hlt2), List.getElem?_eq_getElem _⟩
            have hItr : ItsAt wr A9 zs := by
              obtain ⟨A', c', q, _, _, h⟩ := hIr.slice
              injection q with q1 q2 q3
              rw [q1]; exact h
            obtain ⟨b, off, rfl, hblk, hrow⟩ := hItr (by rw [Hn9.out]; omega)
            obtain ⟨hy32, hrg0⟩ := hrow i y hy
            obtain ⟨VL, hVL⟩ : ∃ VL, VL = itC y := ⟨_, rfl⟩
            have hVl : VL.length = 33 := by rw [hVL, itC_length hy32]
            have hrg : wr.rangeAt b (off + i * 33) VL := by rw [hVL]; exact hrg0
            have HVi := Lib.hid (show (Tryz.prog.info? 40).map (·.size) = some VL.length by rw [hVl]; exact itSize)
            have HVj := Lib.hid (show (Tryz.prog.info? 40).map (·.size) = some VL.toArray.size by rw [List.size_toArray, hVl]; exact itSize)
            have HV1 := Lib.hid (show VL.toArray.all (·.oneCell') = true by rw [hVL]; exact all_oneCell_toArray (itC_one y))
            have HVz := Lib.hid (show IZ.toArray.size = VL.toArray.size by rw [List.size_toArray, List.size_toArray, HIZl.out, hVl])
            obtain ⟨wa, hwa⟩ : ∃ W, W = (wr.alloc (.cells IZ.toArray 40)).setRow wr.heap.size VL.toArray := ⟨_, rfl⟩
            obtain ⟨hVa, hbra⟩ := alloc_row wr 40 IZ.toArray VL
            rw [← hwa] at hVa hbra
            obtain ⟨YL, hYL⟩ : ∃ YL, YL = Lib.byteCells y.key := ⟨_, rfl⟩
            obtain ⟨ly, hly⟩ : ∃ l, y.val.length = l := ⟨_, rfl⟩
            obtain ⟨Ay, hAy⟩ : ∃ l, y.adr = l := ⟨_, rfl⟩
            obtain ⟨cy, hcy⟩ : ∃ l, y.cap = l := ⟨_, rfl⟩
            have hyk : ∀ w', Arr w' wr.heap.size 40 VL → w'.rangeAt wr.heap.size 0 YL := fun w' h j v hj => by
              rw [Nat.zero_add, h.cell, hVL]
              unfold itC
              rw [← hYL, List.getElem?_append_left (List.getElem?_eq_some_iff.1 hj).1]
              exact hj
            have hyv : ∀ w', Arr w' wr.heap.size 40 VL → w'.cell? ⟨wr.heap.size, 32, none⟩ = some (.slice Ay ly cy) := fun w' h => by
              rw [h.cell, hVL]
              unfold itC
              rw [List.getElem?_append_right (by rw [Lib.byteCells_length, hy32]; exact Nat.le_refl _), Lib.byteCells_length, hy32, ← hly, ← hAy, ← hcy]
              rfl
            have HYi := Lib.hid (show (Tryz.prog.info? 24).map (·.size) = some YL.length by rw [hYL, Lib.byteCells_length, hy32]; kernel_rfl)
            have Hyk := Lib.hid hyk
            have Hyv := Lib.hid hyv
            have Hy := Lib.hid hy
            have Hwa := Lib.hid hwa
            have Hly := Lib.hid hly
            have HAy := Lib.hid hAy
            have Hcy := Lib.hid hcy
            have HYL := Lib.hid hYL
            have Hy32 := Lib.hid hy32
            clear hwa hly hy hrow hVL hVl hAy hcy hYL hyk hyv hItr hrg0 hy32
            have hIa := hIr.up hbra
            have hI5a := hI5r.up hbra
            have hI6a := hI6r.up hbra
            have hba := hbr.trans (hbra.mono hbr.size)
            clear hIr hI5r hI6r hbr
            go_upto_region 19 with (first
              | (refine wpList_load_mid rfl _ _ rfl b (off + i * 33) rfl VL _ hrg Tryz.underlying40 rfl HVi.out ?_)
              | (refine wpList_allocZ8 rfl 40 rfl IZ.toArray (HIZ.out _) ?_)
              | (refine wpList_store_row rfl _ _ _ rfl wr.heap.size VL.toArray rfl rfl 40 IZ.toArray (heap_alloc_new wr _) HVj.out HVz.out HV1.out ?_; rw [← Hwa.out]))
            obtain ⟨cb, hcb⟩ : ∃ x, wr.heap.size = x := ⟨_, rfl⟩
            rw [hcb] at hVa Hyk Hyv ⊢
            clear hcb
            obtain ⟨P, hP⟩ : ∃ P, proveF y.key 65 L 0 = P := ⟨_, rfl⟩
            obtain ⟨Q, hQ⟩ : ∃ P, proveF y.key 65 M 0 = P := ⟨_, rfl⟩
            have HPl : Hid (∀ a ∈ P, a.length ≤ 1900) := by show ∀ a ∈ P, a.length ≤ 1900; rw [← hP]; exact proveF_lenT y.key 65 L 0 HLg2.out HLv.out (fun i hi => by omega) (by omega)
            have HQl : Hid (∀ a ∈ Q, a.length ≤ 1900) := by show ∀ a ∈ Q, a.length ≤ 1900; rw [← hQ]; exact proveF_lenT y.key 65 M 0 HMg2.out HMv.out (fun i hi => by omega) (by omega)
            have Hcl : Hid (∀ (k : Nat) (a b : List UInt8), P.take k = Q.take k → P[k]? = some a → Q[k]? = some b → shaF (tagF 4 [a]) = shaF (tagF 4 [b])) := fun k a b h1 h2 h3 => unlike_clash HLg2.out HMg2.out HLv.out HMv.out Hroot.out y.key k a b (by rw [hP, hQ]; exact h1) (by rw [hP]; exact h2) (by rw [hQ]; exact h3)
            have HP := Lib.hid hP
            have HQ := Lib.hid hQ
            clear hP hQ
            refine wp_region_held_drew (S := fun w' => Arr w' cb 40 VL) (by kernel_rfl) (hVa.drewN 1) (fun hHeld => ?_)
            refine anyH_take (i := 0) (v := .slice A5 n5 c5) (some 105) rfl rfl (by kernel_rfl) (by kernel_rfl) (by kernel_rfl) (fun _ _ _ h => h) (Or.inl ⟨by rfl, fun w' hw => by rfl⟩) (by assumption) ?_
            simp only [Act.put, List.setIfInBounds_toArray, List.set_cons_zero, List.set_cons_succ]
            refine anyH_take (i := 1) (v := .pointer (some ⟨cb, 0, none⟩)) (some 106) rfl rfl (by kernel_rfl) (by kernel_rfl) (by kernel_rfl) (fun _ _ _ h => h) (Or.inl ⟨by rfl, fun w' hw => by go_simp⟩) (by assumption) ?_
            simp only [Act.put, List.setIfInBounds_toArray, List.set_cons_zero, List.set_cons_succ]
            refine anyH_take (i := 2) (some 107) rfl rfl (by kernel_rfl) (by kernel_rfl) (by kernel_rfl) (fun _ _ _ h => h) (yieldsIf_load_mid (by rfl) 24 (.tmp 106) rfl cb 0 rfl YL _ (fun w' h => Hyk.out w' h) Tryz.underlying24 rfl HYi.out) (by assumption) ?_
            simp only [Act.put, List.setIfInBounds_toArray, List.set_cons_zero, List.set_cons_succ]
            refine anyH_take (i := 4) (v := .slice A6 n6 c6) (some 109) rfl rfl (by kernel_rfl) (by kernel_rfl) (by kernel_rfl) (fun _ _ _ h => h) (Or.inl ⟨by rfl, fun w' hw => by rfl⟩) (by assumption) ?_
            simp only [Act.put, List.setIfInBounds_toArray, List.set_cons_zero, List.set_cons_succ]
            refine anyH_take (i := 5) (v := .pointer (some ⟨cb, 0, none⟩)) (some 110) rfl rfl (by kernel_rfl) (by kernel_rfl) (by kernel_rfl) (fun _ _ _ h => h) (Or.inl ⟨by rfl, fun w' hw => by go_simp⟩) (by assumption) ?_
            simp only [Act.put, List.setIfInBounds_toArray, List.set_cons_zero, List.set_cons_succ]
            refine anyH_take (i := 6) (some 111) rfl rfl (by kernel_rfl) (by kernel_rfl) (by kernel_rfl) (fun _ _ _ h => h) (yieldsIf_load_mid (by rfl) 24 (.tmp 110) rfl cb 0 rfl YL _ (fun w' h => Hyk.out w' h) Tryz.underlying24 rfl HYi.out) (by assumption) ?_
            simp only [Act.put, List.setIfInBounds_toArray, List.set_cons_zero, List.set_cons_succ]
            refine wpAnyH_ready (rs := [3]) (by kernel_rfl) (by simp) ?_
            refine AllReadyH.cons rfl (fun K hK => ?_) AllReadyH.nil
            go_simp
            go_at_call 16
            refine Calls.mono (prove_runI y.key Hy32.out YL HYL.out (playI cs) A5 n5 c5 wa.drew (HfitL.out _ (hI5a.up (Below.dN (Below.refl _ _) 1)) (Below.dN hba 1)) P (by rw [← HL.out]; exact HP.out)) ?_
            rintro e w12 ⟨v12, rfl, hN12, hbd12⟩
            have hb12a : Below wa.heap.size wa w12 := (Below.dN (Below.refl wa.heap.size wa) 1).trans hbd12
            have hV12 := hVa.below hb12a hVa.lt
            have hI12 := hIa.up hb12a
            have hI512 := hI5a.up hb12a
            have hI612 := hI6a.up hb12a
            have hb12 := hba.trans (hb12a.mono hba.size)
            obtain ⟨AP, cP, e12, _⟩ := hN12.rows
            subst e12
            clear hVa hIa hI5a hI6a hba hbd12 hb12a
            refine hK.out _ _ hV12 (fun hHeldx => ?_)
            clear hK K
            try simp only [Act.put, List.setIfInBounds_toArray, List.set_cons_zero, List.set_cons_succ]
            refine wpAnyH_ready (rs := [7]) (by kernel_rfl) (by simp) ?_
            refine AllReadyH.cons rfl (fun K hK => ?_) AllReadyH.nil
            go_simp
            go_at_call 16
            refine Calls.mono (prove_runI y.key Hy32.out YL HYL.out (playI ds) A6 n6 c6 w12 (HfitM.out _ hI612 hb12) Q (by rw [← HM.out]; exact HQ.out)) ?_
            rintro e w13 ⟨v13, rfl, hN13, hb1213⟩
            have hN12b := hN12.up hb1213
            obtain ⟨AP2, cP2, ep, hp1, hp2, hp3⟩ := hN12b.rows
            injection ep with ep1 ep2 ep3
            subst ep1 ep3
            obtain ⟨AQ, cQ, rfl, hq1, hq2, hq3⟩ := hN13.rows
            obtain ⟨np, hnp⟩ : ∃ x, P.length = x := ⟨_, rfl⟩
            obtain ⟨nq, hnq⟩ : ∃ x, Q.length = x := ⟨_, rfl⟩
            rw [hnp] at hp1 ⊢
            rw [hnq] at hq1 ⊢
            have hP63 : cP ≤ 9223372036854775807 := by unfold maxLen at hp2; exact hp2
            have hQ63 : cQ ≤ 9223372036854775807 := by unfold maxLen at hq2; exact hq2
            have hV13 := hV12.below hb1213 hV12.lt
            have hI13 := hI12.up hb1213
            have hI513 := hI512.up hb1213
            have hI613 := hI612.up hb1213
            have hb13 := hb12.trans (hb1213.mono hb12.size)
            have Hnp := Lib.hid hnp
            have Hnq := Lib.hid hnq
            have HPr := Lib.hid hp3
            have HQr := Lib.hid hq3
            clear hnp hnq hp3 hq3 hN12 hN12b hN13 hV12 hI12 hI512 hI612 hb12 hb1213 hp2 hq2
            refine hK.out _ _ hV13 (fun hHeldx => ?_)
            clear hK K
            try simp only [Act.put, List.setIfInBounds_toArray, List.set_cons_zero, List.set_cons_succ]
            refine anyH_take (i := 8) (v := .slice AP np cP) (some 13) rfl rfl (by kernel_rfl) (by kernel_rfl) (by kernel_rfl) (fun _ _ _ h => h) (Or.inl ⟨by rfl, fun w' hw => by rfl⟩) (by assumption) ?_
            simp only [Act.put, List.setIfInBounds_toArray, List.set_cons_zero, List.set_cons_succ]
            refine anyH_take (i := 9) (v := .slice AQ nq cQ) (some 14) rfl rfl (by kernel_rfl) (by kernel_rfl) (by kernel_rfl) (fun _ _ _ h => h) (Or.inl ⟨by rfl, fun w' hw => by rfl⟩) (by assumption) ?_
            simp only [Act.put, List.setIfInBounds_toArray, List.set_cons_zero, List.set_cons_succ]
            refine wpAnyH_done (by kernel_rfl) ?_ _
            clear hHeld hV13
            go_wp2_with fail
            go_loopw [15] (fun iv wq => ∃ k : Nat, k ≤ np ∧ k ≤ nq ∧ iv = .int .i64 k ∧ Below w13.heap.size w13 wq ∧ Hid (P.take k = Q.take k)) (fun iv _ => np - (intOf iv).toNat)
            case atStart => exact ⟨0, Nat.zero_le _, Nat.zero_le _, rfl, Below.refl _ _, rfl⟩
            case round =>
              obtain ⟨k, hk1, hk2, rfl, hbq, Hk⟩ := hrel
              obtain ⟨wr, hwr⟩ : ∃ x, x = wr := ⟨_, rfl⟩
              subst hwr
              have hPrr : RowsAt wr wr.heap.size AP P := (HPr.out.below hbq (Nat.le_refl _)).more hbq.size
              have hQrr : RowsAt wr wr.heap.size AQ Q := (HQr.out.below hbq (Nat.le_refl _)).more hbq.size
              have hbw : Below w.heap.size w wr := hb13.trans (hbq.mono hb13.size)
              by_cases hip : k < np
              · have hd1 : decide ((k : Int) < (np : Int)) = true := by simp; omega
                by_cases hir : k < nq
                · have hd2 : decide ((k : Int) < (nq : Int)) = true := by simp; omega
                  obtain ⟨a, ha⟩ : ∃ a, P[k]? = some a := ⟨P[k]'(by rw [Hnp.out]; exact hip), List.getElem?_eq_getElem _⟩
                  obtain ⟨b2, hb2'⟩ : ∃ b, Q[k]? = some b := ⟨Q[k]'(by rw [Hnq.out]; exact hir), List.getElem?_eq_getElem _⟩
                  have hga : P.getD k [] = a := by simp [List.getD, ha]
                  have hgb : Q.getD k [] = b2 := by simp [List.getD, hb2']
                  obtain ⟨bp, op, rfl, hbpl, hcp⟩ := hPrr (by rw [Hnp.out]; omega)
                  obtain ⟨br, orr, rfl, hbrl, hcr2⟩ := hQrr (by rw [Hnq.out]; omega)
                  obtain ⟨Aa, ca, ha1, ha2, ha3, ha4⟩ := hcp k (by rw [Hnp.out]; exact hip)
                  obtain ⟨Ab, cbb, hb1', hb2x, hb3', hb4'⟩ := hcr2 k (by rw [Hnq.out]; exact hir)
                  rw [hga] at ha1 ha2 ha4
                  rw [hgb] at hb1' hb2x hb4'
                  obtain ⟨la, hla⟩ : ∃ l, a.length = l := ⟨_, rfl⟩
                  obtain ⟨lb, hlb⟩ : ∃ l, b2.length = l := ⟨_, rfl⟩
                  rw [hla] at ha1 ha2
                  rw [hlb] at hb1' hb2x
                  have Hca := Lib.hid (fun (w' : World) (h : Below wr.heap.size wr w') => show w'.cell? ⟨bp, op + k, none⟩ = some (.slice Aa la ca) from (World.cell?_of_block (h.block bp hbpl)).trans ha1)
                  have Hcb := Lib.hid (fun (w' : World) (h : Below wr.heap.size wr w') => show w'.cell? ⟨br, orr + k, none⟩ = some (.slice Ab lb cbb) from (World.cell?_of_block (h.block br hbrl)).trans hb1')
                  have Hba := Lib.hid ha4
                  have Hbb := Lib.hid hb4'
                  have Hla := Lib.hid hla
                  have Hlb := Lib.hid hlb
                  have Ha := Lib.hid ha
                  have Hb := Lib.hid hb2'
                  have hlam : la ≤ 1900 := by rw [← hla]; exact HPl.out a (List.mem_of_getElem? ha)
                  have hlbm : lb ≤ 1900 := by rw [← hlb]; exact HQl.out b2 (List.mem_of_getElem? hb2')
                  obtain ⟨ans, hans⟩ : ∃ x, decide (a = b2) = x := ⟨_, rfl⟩
                  have Hans := Lib.hid hans
                  have Hlam : Hid (la ≤ maxLen) := Nat.le_trans hlam (by decide)
                  have Hlbm : Hid (lb ≤ maxLen) := Nat.le_trans hlbm (by decide)
                  clear hga hgb hcp hcr2 ha1 ha4 hb1' hb4' hla hlb ha hb2' hans hPrr hQrr
                  go_upto_region 23 with fail
                  refine wp_region_held_drew (S := fun w' => Below wr.heap.size wr w') (by kernel_rfl) (Below.dN (Below.refl _ wr) 1) (fun hHeld => ?_)
                  refine anyH_take (i := 0) (v := .slice (some ⟨bp, op, none⟩) np cP) (some 125) rfl rfl (by kernel_rfl) (by kernel_rfl) (by kernel_rfl) (fun _ _ _ h => h) (Or.inl ⟨by rfl, fun w' hw => by go_simp⟩) (by assumption) ?_
                  simp only [Act.put, List.setIfInBounds_toArray, List.set_cons_zero, List.set_cons_succ]
                  refine anyH_take (i := 1) (v := .int .i64 (k : Nat)) (some 126) rfl rfl (by kernel_rfl) (by kernel_rfl) (by kernel_rfl) (fun _ _ _ h => h) (Or.inl ⟨by rfl, fun w' hw => by go_simp⟩) (by assumption) ?_
                  simp only [Act.put, List.setIfInBounds_toArray, List.set_cons_zero, List.set_cons_succ]
                  refine anyH_take (i := 2) (v := .pointer (some ⟨bp, op + k, none⟩)) (some 127) rfl rfl (by kernel_rfl) (by kernel_rfl) (by kernel_rfl) (fun _ _ _ h => h) (Or.inl ⟨by rfl, fun w' hw => by (go_simp; try (intro h; omega))⟩) (by assumption) ?_
                  simp only [Act.put, List.setIfInBounds_toArray, List.set_cons_zero, List.set_cons_succ]
                  refine anyH_take (i := 3) (v := .slice Aa la ca) (some 128) rfl rfl (by kernel_rfl) (by kernel_rfl) (by kernel_rfl) (fun _ _ _ h => h) (Or.inl ⟨by rfl, fun w' hw => by (have hc := Hca.out w' hw; go_simp)⟩) (by assumption) ?_
                  simp only [Act.put, List.setIfInBounds_toArray, List.set_cons_zero, List.set_cons_succ]
                  refine anyH_take (i := 4) (v := .slice (some ⟨br, orr, none⟩) nq cQ) (some 129) rfl rfl (by kernel_rfl) (by kernel_rfl) (by kernel_rfl) (fun _ _ _ h => h) (Or.inl ⟨by rfl, fun w' hw => by go_simp⟩) (by assumption) ?_
                  simp only [Act.put, List.setIfInBounds_toArray, List.set_cons_zero, List.set_cons_succ]
                  refine anyH_take (i := 5) (v := .int .i64 (k : Nat)) (some 130) rfl rfl (by kernel_rfl) (by kernel_rfl) (by kernel_rfl) (fun _ _ _ h => h) (Or.inl ⟨by rfl, fun w' hw => by go_simp⟩) (by assumption) ?_
                  simp only [Act.put, List.setIfInBounds_toArray, List.set_cons_zero, List.set_cons_succ]
                  refine anyH_take (i := 6) (v := .pointer (some ⟨br, orr + k, none⟩)) (some 131) rfl rfl (by kernel_rfl) (by kernel_rfl) (by kernel_rfl) (fun _ _ _ h => h) (Or.inl ⟨by rfl, fun w' hw => by (go_simp; try (intro h; omega))⟩) (by assumption) ?_
                  simp only [Act.put, List.setIfInBounds_toArray, List.set_cons_zero, List.set_cons_succ]
                  refine anyH_take (i := 7) (v := .slice Ab lb cbb) (some 132) rfl rfl (by kernel_rfl) (by kernel_rfl) (by kernel_rfl) (fun _ _ _ h => h) (Or.inl ⟨by rfl, fun w' hw => by (have hc := Hcb.out w' hw; go_simp)⟩) (by assumption) ?_
                  simp only [Act.put, List.setIfInBounds_toArray, List.set_cons_zero, List.set_cons_succ]
                  refine wpAnyH_ready (rs := [8]) (by kernel_rfl) (by simp) ?_
                  refine AllReadyH.cons rfl (fun K hK => ?_) AllReadyH.nil
                  go_simp
                  go_at_call 18
                  refine Calls.mono (same_n wr.heap.size wr.heap.size Aa Ab ca cbb la lb a b2 (wr.drewN 1) ans Hba.out Hbb.out Hla.out Hlb.out Hlam.out Hlbm.out Hans.out) ?_
                  rintro e w14 ⟨rfl, k14, rfl⟩
                  refine hK.out _ _ (Below.dN (Below.dN (Below.refl _ wr) 1) k14) (fun hHeldx => ?_)
                  clear hK K
                  try simp only [Act.put, List.setIfInBounds_toArray, List.set_cons_zero, List.set_cons_succ]
                  cases ans with
                  | true =>
                    refine anyH_take (i := 9) (v := .bool false) (some 134) rfl rfl (by kernel_rfl) (by kernel_rfl) (by kernel_rfl) (fun _ _ _ h => h) (Or.inl ⟨by rfl, fun w' hw => by go_simp⟩) (by assumption) ?_
                    simp only [Act.put, List.setIfInBounds_toArray, List.set_cons_zero, List.set_cons_succ]
                    refine wpAnyH_done (by kernel_rfl) ?_ _
                    clear hHeld
                    have hab : a = b2 := by simpa using Hans.out
                    have Hi2 : Hid (P.take (k + 1) = Q.take (k + 1)) := take_oneT Hk.out Ha.out (by rw [hab]; exact Hb.out)
                    have hbn := Below.dN hbq (1 + k14)
                    clear hab
                    go_wp2_with fail
                    go_roundw
                    case rel => exact ⟨k + 1, by omega, by omega, by go_num, hbn, Hi2⟩
                    case measure => simp [intOf]; omega
                  | false =>
                    refine anyH_take (i := 9) (v := .bool true) (some 134) rfl rfl (by kernel_rfl) (by kernel_rfl) (by kernel_rfl) (fun _ _ _ h => h) (Or.inl ⟨by rfl, fun w' hw => by go_simp⟩) (by assumption) ?_
                    simp only [Act.put, List.setIfInBounds_toArray, List.set_cons_zero, List.set_cons_succ]
                    refine wpAnyH_done (by kernel_rfl) ?_ _
                    clear hHeld
                    obtain ⟨XS, hXS⟩ : ∃ SL, SL = Lib.byteCells (shaF (tagF 4 [a])) := ⟨_, rfl⟩
                    have HSb : Hid (XS = Lib.byteCells (shaF (tagF 4 [b2]))) := by show XS = _; rw [hXS, Hcl.out k a b2 Hk.out Ha.out Hb.out]
                    have HXS := Lib.hid hXS
                    have HcmpX := Lib.hid (fun w => digCmpI _ _ (shaF_length (tagF 4 [a])) (shaF_length (tagF 4 [a])) XS XS hXS hXS true (by simp) w)
                    have HYa := Lib.hid (show (tagF 4 [a]).length ≤ 1000000 from tag_one_le a (by rw [Hla.out]; omega))
                    have HYb := Lib.hid (show (tagF 4 [b2]).length ≤ 1000000 from tag_one_le b2 (by rw [Hlb.out]; omega))
                    clear hXS
                    go_upto_region 24 with fail
                    obtain ⟨w18, hw18⟩ : ∃ W, W = ((wr.drewN 1).drewN k14).drewN 1 := ⟨_, rfl⟩
                    have hB18 : Below wr.heap.size wr w18 := by rw [hw18]; exact Below.dN (Below.dN (Below.dN (Below.refl _ wr) 1) k14) 1
                    refine wp_region_held_drew (S := fun w' => Below wr.heap.size wr w') (by kernel_rfl) (by first | (rw [← hw18]; exact hB18) | exact Below.dN (Below.dN (Below.dN (Below.refl _ wr) 1) k14) 1 | exact Below.dN (Below.dN (Below.refl _ wr) _) 1) (fun hHeld => ?_)
                    first | rw [← hw18] at hHeld ⊢ | (change wpAnyH _ _ _ _ _ _ _ _ (((wr.drewN 1).drewN k14).drewN 1); rw [← hw18])
                    clear hw18
                    refine anyH_take (i := 0) (v := .slice (some ⟨bp, op, none⟩) np cP) (some 135) rfl rfl (by kernel_rfl) (by kernel_rfl) (by kernel_rfl) (fun _ _ _ h => h) (Or.inl ⟨by rfl, fun _ hw => by go_simp⟩) (by assumption) ?_
                    simp only [Act.put, List.setIfInBounds_toArray, List.set_cons_zero, List.set_cons_succ]
                    refine anyH_take (i := 1) (v := .int .i64 (k : Nat)) (some 136) rfl rfl (by kernel_rfl) (by kernel_rfl) (by kernel_rfl) (fun _ _ _ h => h) (Or.inl ⟨by rfl, fun _ hw => by go_simp⟩) (by assumption) ?_
                    simp only [Act.put, List.setIfInBounds_toArray, List.set_cons_zero, List.set_cons_succ]
                    refine anyH_take (i := 2) (v := .pointer (some ⟨bp, op + k, none⟩)) (some 137) rfl rfl (by kernel_rfl) (by kernel_rfl) (by kernel_rfl) (fun _ _ _ h => h) (Or.inl ⟨by rfl, fun _ hw => by (go_simp; try (intro h; omega))⟩) (by assumption) ?_
                    simp only [Act.put, List.setIfInBounds_toArray, List.set_cons_zero, List.set_cons_succ]
                    refine anyH_take (i := 3) (v := .slice Aa la ca) (some 138) rfl rfl (by kernel_rfl) (by kernel_rfl) (by kernel_rfl) (fun _ _ _ h => h) (Or.inl ⟨by rfl, fun _ hw => by (have hc := Hca.out _ hw; go_simp)⟩) (by assumption) ?_
                    simp only [Act.put, List.setIfInBounds_toArray, List.set_cons_zero, List.set_cons_succ]
                    refine anyH_take (i := 6) (v := .slice (some ⟨br, orr, none⟩) nq cQ) (some 141) rfl rfl (by kernel_rfl) (by kernel_rfl) (by kernel_rfl) (fun _ _ _ h => h) (Or.inl ⟨by rfl, fun _ hw => by go_simp⟩) (by assumption) ?_
                    simp only [Act.put, List.setIfInBounds_toArray, List.set_cons_zero, List.set_cons_succ]
                    refine anyH_take (i := 7) (v := .int .i64 (k : Nat)) (some 142) rfl rfl (by kernel_rfl) (by kernel_rfl) (by kernel_rfl) (fun _ _ _ h => h) (Or.inl ⟨by rfl, fun _ hw => by go_simp⟩) (by assumption) ?_
                    simp only [Act.put, List.setIfInBounds_toArray, List.set_cons_zero, List.set_cons_succ]
                    refine anyH_take (i := 8) (v := .pointer (some ⟨br, orr + k, none⟩)) (some 143) rfl rfl (by kernel_rfl) (by kernel_rfl) (by kernel_rfl) (fun _ _ _ h => h) (Or.inl ⟨by rfl, fun _ hw => by (go_simp; try (intro h; omega))⟩) (by assumption) ?_
                    simp only [Act.put, List.setIfInBounds_toArray, List.set_cons_zero, List.set_cons_succ]
                    refine anyH_take (i := 9) (v := .slice Ab lb cbb) (some 144) rfl rfl (by kernel_rfl) (by kernel_rfl) (by kernel_rfl) (fun _ _ _ h => h) (Or.inl ⟨by rfl, fun _ hw => by (have hc := Hcb.out _ hw; go_simp)⟩) (by assumption) ?_
                    simp only [Act.put, List.setIfInBounds_toArray, List.set_cons_zero, List.set_cons_succ]
                    refine wpAnyH_ready (rs := [4, 10]) (by kernel_rfl) (by simp) ?_
                    refine AllReadyH.cons rfl (fun KC hKC => ?_) (AllReadyH.cons rfl (fun KC hKC => ?_) AllReadyH.nil)
                    · go_simp
                      have hBa41 := hB18.alloc hB18.size (.cells #[.slice Aa la ca] 38)
                      refine hKC.out _ _ hBa41 (fun hHeld41 => ?_)
                      clear hKC KC
                      try simp only [Act.put, List.setIfInBounds_toArray, List.set_cons_zero, List.set_cons_succ]
                      change wpAnyH _ _ _ _ _ _ _ _ (w18.alloc (.cells #[.slice Aa la ca] 38))
                      obtain ⟨g41, hg41⟩ : ∃ x, x = w18.heap.size := ⟨_, rfl⟩
                      have N41 := nd_rows_one (n := la) (c := ca) 38 Hla.out ha2 ha3 (Hba.out.below hB18 (Nat.le_refl _)) hB18.size
                      have hb41 : Below w18.heap.size w18 (w18.alloc (.cells #[.slice Aa la ca] 38)) := (Below.refl _ _).alloc (Nat.le_refl _) _
                      obtain ⟨w41, hw41⟩ : ∃ x, x = w18.alloc (.cells #[.slice Aa la ca] 38) := ⟨_, rfl⟩
                      have hBs41 : w41.heap.size = w18.heap.size + 1 := by rw [hw41]; simp
                      rw [← hw41] at hb41 N41 ⊢
                      have hB41 := hB18.trans (hb41.mono hB18.size)
                      rw [← hBs41, ← hg41] at N41
                      try rw [← hg41]
                      clear hw41 hg41 hBs41
                      refine wpAnyH_ready (rs := [5, 10]) (by kernel_rfl) (by simp) ?_
                      refine AllReadyH.cons rfl (fun KC hKC => ?_) (AllReadyH.cons rfl (fun KC hKC => ?_) AllReadyH.nil)
                      · go_simp
                        go_at_call 26
                        refine Calls.mono (rtag_at 4 4 [a] XS (some ⟨g41, 0, none⟩) 1 1 _ rfl HXS.out rfl (by omega) N41 HYa.out) ?_
                        rintro e w42 ⟨rfl, hb42⟩
                        have hB42 := hB41.trans (hb42.mono hB41.size)
                        have Fy42 := ((N41).below hb42 (Nat.le_refl _)).more hb42.size
                        clear N41
                        go_wp2_with fail
                        refine hKC.out _ _ hB42 (fun hHeld42 => ?_)
                        clear hKC KC
                        try simp only [Act.put, List.setIfInBounds_toArray, List.set_cons_zero, List.set_cons_succ]
                        refine wpAnyH_ready (rs := [10]) (by kernel_rfl) (by simp) ?_
                        refine AllReadyH.cons rfl (fun KC hKC => ?_) AllReadyH.nil
                        go_simp
                        have hBa43 := hB42.alloc hB42.size (.cells #[.slice Ab lb cbb] 38)
                        refine hKC.out _ _ hBa43 (fun hHeld43 => ?_)
                        clear hKC KC
                        try simp only [Act.put, List.setIfInBounds_toArray, List.set_cons_zero, List.set_cons_succ]
                        change wpAnyH _ _ _ _ _ _ _ _ (w42.alloc (.cells #[.slice Ab lb cbb] 38))
                        obtain ⟨g43, hg43⟩ : ∃ x, x = w42.heap.size := ⟨_, rfl⟩
                        have N43 := nd_rows_one (n := lb) (c := cbb) 38 Hlb.out hb2x hb3' (Hbb.out.below hB42 (Nat.le_refl _)) hB42.size
                        have hb43 : Below w42.heap.size w42 (w42.alloc (.cells #[.slice Ab lb cbb] 38)) := (Below.refl _ _).alloc (Nat.le_refl _) _
                        obtain ⟨w43, hw43⟩ : ∃ x, x = w42.alloc (.cells #[.slice Ab lb cbb] 38) := ⟨_, rfl⟩
                        have hBs43 : w43.heap.size = w42.heap.size + 1 := by rw [hw43]; simp
                        rw [← hw43] at hb43 N43 ⊢
                        have Fy43 := ((Fy42).below hb43 (Nat.le_refl _)).more hb43.size
                        clear Fy42
                        have hB43 := hB42.trans (hb43.mono hB42.size)
                        rw [← hBs43, ← hg43] at N43
                        try rw [← hg43]
                        clear hw43 hg43 hBs43
                        refine wpAnyH_ready (rs := [11]) (by kernel_rfl) (by simp) ?_
                        refine AllReadyH.cons rfl (fun KC hKC => ?_) AllReadyH.nil
                        go_simp
                        go_at_call 26
                        refine Calls.mono (rtag_at 4 4 [b2] XS (some ⟨g43, 0, none⟩) 1 1 _ rfl HSb.out rfl (by omega) N43 HYb.out) ?_
                        rintro e w44 ⟨rfl, hb44⟩
                        have hB44 := hB43.trans (hb44.mono hB43.size)
                        have Fy44 := ((Fy43).below hb44 (Nat.le_refl _)).more hb44.size
                        clear Fy43
                        have Fz44 := ((N43).below hb44 (Nat.le_refl _)).more hb44.size
                        clear N43
                        go_wp2_with fail
                        refine hKC.out _ _ hB44 (fun hHeld44 => ?_)
                        clear hKC KC
                        try simp only [Act.put, List.setIfInBounds_toArray, List.set_cons_zero, List.set_cons_succ]
                        refine anyH_take (i := 12) (v := .bool true) (some 147) rfl rfl (by kernel_rfl) (by kernel_rfl) (by kernel_rfl) (fun _ _ _ h => h) (Or.inl ⟨by rfl, fun _ hw => by (have hc := HcmpX.out; have hg := gt32; go_simp)⟩) (by assumption) ?_
                        simp only [Act.put, List.setIfInBounds_toArray, List.set_cons_zero, List.set_cons_succ]
                        refine anyH_take (i := 13) (v := .bool true) (some 4) rfl rfl (by kernel_rfl) (by kernel_rfl) (by kernel_rfl) (fun _ _ _ h => h) (Or.inl ⟨by rfl, fun _ hw => by go_simp⟩) (by assumption) ?_
                        simp only [Act.put, List.setIfInBounds_toArray, List.set_cons_zero, List.set_cons_succ]
                        refine wpAnyH_done (by kernel_rfl) ?_ _
                        clear hHeld
                        go_wp2_with fail
                        go_ret
                        exact ⟨rfl, hbw.trans (hB44.mono hbw.size)⟩
                      · go_simp
                        have hBa45 := hB41.alloc hB41.size (.cells #[.slice Ab lb cbb] 38)
                        refine hKC.out _ _ hBa45 (fun hHeld45 => ?_)
                        clear hKC KC
                        try simp only [Act.put, List.setIfInBounds_toArray, List.set_cons_zero, List.set_cons_succ]
                        change wpAnyH _ _ _ _ _ _ _ _ (w41.alloc (.cells #[.slice Ab lb cbb] 38))
                        obtain ⟨g45, hg45⟩ : ∃ x, x = w41.heap.size := ⟨_, rfl⟩
                        have N45 := nd_rows_one (n := lb) (c := cbb) 38 Hlb.out hb2x hb3' (Hbb.out.below hB41 (Nat.le_refl _)) hB41.size
                        have hb45 : Below w41.heap.size w41 (w41.alloc (.cells #[.slice Ab lb cbb] 38)) := (Below.refl _ _).alloc (Nat.le_refl _) _
                        obtain ⟨w45, hw45⟩ : ∃ x, x = w41.alloc (.cells #[.slice Ab lb cbb] 38) := ⟨_, rfl⟩
                        have hBs45 : w45.heap.size = w41.heap.size + 1 := by rw [hw45]; simp
                        rw [← hw45] at hb45 N45 ⊢
                        have Fy45 := ((N41).below hb45 (Nat.le_refl _)).more hb45.size
                        clear N41
                        have hB45 := hB41.trans (hb45.mono hB41.size)
                        rw [← hBs45, ← hg45] at N45
                        try rw [← hg45]
                        clear hw45 hg45 hBs45
                        refine wpAnyH_ready (rs := [5]) (by kernel_rfl) (by simp) ?_
                        refine AllReadyH.cons rfl (fun KC hKC => ?_) AllReadyH.nil
                        go_simp
                        go_at_call 26
                        refine Calls.mono (rtag_at 4 4 [a] XS (some ⟨g41, 0, none⟩) 1 1 _ rfl HXS.out rfl (by omega) Fy45 HYa.out) ?_
                        rintro e w46 ⟨rfl, hb46⟩
                        have hB46 := hB45.trans (hb46.mono hB45.size)
                        have Fy46 := ((Fy45).below hb46 (Nat.le_refl _)).more hb46.size
                        clear Fy45
                        have Fz46 := ((N45).below hb46 (Nat.le_refl _)).more hb46.size
                        clear N45
                        go_wp2_with fail
                        refine hKC.out _ _ hB46 (fun hHeld46 => ?_)
                        clear hKC KC
                        try simp only [Act.put, List.setIfInBounds_toArray, List.set_cons_zero, List.set_cons_succ]
                        refine wpAnyH_ready (rs := [11]) (by kernel_rfl) (by simp) ?_
                        refine AllReadyH.cons rfl (fun KC hKC => ?_) AllReadyH.nil
                        go_simp
                        go_at_call 26
                        refine Calls.mono (rtag_at 4 4 [b2] XS (some ⟨g45, 0, none⟩) 1 1 _ rfl HSb.out rfl (by omega) Fz46 HYb.out) ?_
                        rintro e w47 ⟨rfl, hb47⟩
                        have hB47 := hB46.trans (hb47.mono hB46.size)
                        have Fy47 := ((Fy46).below hb47 (Nat.le_refl _)).more hb47.size
                        clear Fy46
                        have Fz47 := ((Fz46).below hb47 (Nat.le_refl _)).more hb47.size
                        clear Fz46
                        go_wp2_with fail
                        refine hKC.out _ _ hB47 (fun hHeld47 => ?_)
                        clear hKC KC
                        try simp only [Act.put, List.setIfInBounds_toArray, List.set_cons_zero, List.set_cons_succ]
                        refine anyH_take (i := 12) (v := .bool true) (some 147) rfl rfl (by kernel_rfl) (by kernel_rfl) (by kernel_rfl) (fun _ _ _ h => h) (Or.inl ⟨by rfl, fun _ hw => by (have hc := HcmpX.out; have hg := gt32; go_simp)⟩) (by assumption) ?_
                        simp only [Act.put, List.setIfInBounds_toArray, List.set_cons_zero, List.set_cons_succ]
                        refine anyH_take (i := 13) (v := .bool true) (some 4) rfl rfl (by kernel_rfl) (by kernel_rfl) (by kernel_rfl) (fun _ _ _ h => h) (Or.inl ⟨by rfl, fun _ hw => by go_simp⟩) (by assumption) ?_
                        simp only [Act.put, List.setIfInBounds_toArray, List.set_cons_zero, List.set_cons_succ]
                        refine wpAnyH_done (by kernel_rfl) ?_ _
                        clear hHeld
                        go_wp2_with fail
                        go_ret
                        exact ⟨rfl, hbw.trans (hB47.mono hbw.size)⟩
                    · go_simp
                      have hBa48 := hB18.alloc hB18.size (.cells #[.slice Ab lb cbb] 38)
                      refine hKC.out _ _ hBa48 (fun hHeld48 => ?_)
                      clear hKC KC
                      try simp only [Act.put, List.setIfInBounds_toArray, List.set_cons_zero, List.set_cons_succ]
                      change wpAnyH _ _ _ _ _ _ _ _ (w18.alloc (.cells #[.slice Ab lb cbb] 38))
                      obtain ⟨g48, hg48⟩ : ∃ x, x = w18.heap.size := ⟨_, rfl⟩
                      have N48 := nd_rows_one (n := lb) (c := cbb) 38 Hlb.out hb2x hb3' (Hbb.out.below hB18 (Nat.le_refl _)) hB18.size
                      have hb48 : Below w18.heap.size w18 (w18.alloc (.cells #[.slice Ab lb cbb] 38)) := (Below.refl _ _).alloc (Nat.le_refl _) _
                      obtain ⟨w48, hw48⟩ : ∃ x, x = w18.alloc (.cells #[.slice Ab lb cbb] 38) := ⟨_, rfl⟩
                      have hBs48 : w48.heap.size = w18.heap.size + 1 := by rw [hw48]; simp
                      rw [← hw48] at hb48 N48 ⊢
                      have hB48 := hB18.trans (hb48.mono hB18.size)
                      rw [← hBs48, ← hg48] at N48
                      try rw [← hg48]
                      clear hw48 hg48 hBs48
                      refine wpAnyH_ready (rs := [4]) (by kernel_rfl) (by simp) ?_
                      refine AllReadyH.cons rfl (fun KC hKC => ?_) AllReadyH.nil
                      go_simp
                      have hBa49 := hB48.alloc hB48.size (.cells #[.slice Aa la ca] 38)
                      refine hKC.out _ _ hBa49 (fun hHeld49 => ?_)
                      clear hKC KC
                      try simp only [Act.put, List.setIfInBounds_toArray, List.set_cons_zero, List.set_cons_succ]
                      change wpAnyH _ _ _ _ _ _ _ _ (w48.alloc (.cells #[.slice Aa la ca] 38))
                      obtain ⟨g49, hg49⟩ : ∃ x, x = w48.heap.size := ⟨_, rfl⟩
                      have N49 := nd_rows_one (n := la) (c := ca) 38 Hla.out ha2 ha3 (Hba.out.below hB48 (Nat.le_refl _)) hB48.size
                      have hb49 : Below w48.heap.size w48 (w48.alloc (.cells #[.slice Aa la ca] 38)) := (Below.refl _ _).alloc (Nat.le_refl _) _
                      obtain ⟨w49, hw49⟩ : ∃ x, x = w48.alloc (.cells #[.slice Aa la ca] 38) := ⟨_, rfl⟩
                      have hBs49 : w49.heap.size = w48.heap.size + 1 := by rw [hw49]; simp
                      rw [← hw49] at hb49 N49 ⊢
                      have Fz49 := ((N48).below hb49 (Nat.le_refl _)).more hb49.size
                      clear N48
                      have hB49 := hB48.trans (hb49.mono hB48.size)
                      rw [← hBs49, ← hg49] at N49
                      try rw [← hg49]
                      clear hw49 hg49 hBs49
                      refine wpAnyH_ready (rs := [5]) (by kernel_rfl) (by simp) ?_
                      refine AllReadyH.cons rfl (fun KC hKC => ?_) AllReadyH.nil
                      go_simp
                      go_at_call 26
                      refine Calls.mono (rtag_at 4 4 [a] XS (some ⟨g49, 0, none⟩) 1 1 _ rfl HXS.out rfl (by omega) N49 HYa.out) ?_
                      rintro e w50 ⟨rfl, hb50⟩
                      have hB50 := hB49.trans (hb50.mono hB49.size)
                      have Fz50 := ((Fz49).below hb50 (Nat.le_refl _)).more hb50.size
                      clear Fz49
                      have Fy50 := ((N49).below hb50 (Nat.le_refl _)).more hb50.size
                      clear N49
                      go_wp2_with fail
                      refine hKC.out _ _ hB50 (fun hHeld50 => ?_)
                      clear hKC KC
                      try simp only [Act.put, List.setIfInBounds_toArray, List.set_cons_zero, List.set_cons_succ]
                      refine wpAnyH_ready (rs := [11]) (by kernel_rfl) (by simp) ?_
                      refine AllReadyH.cons rfl (fun KC hKC => ?_) AllReadyH.nil
                      go_simp
                      go_at_call 26
                      refine Calls.mono (rtag_at 4 4 [b2] XS (some ⟨g48, 0, none⟩) 1 1 _ rfl HSb.out rfl (by omega) Fz50 HYb.out) ?_
                      rintro e w51 ⟨rfl, hb51⟩
                      have hB51 := hB50.trans (hb51.mono hB50.size)
                      have Fz51 := ((Fz50).below hb51 (Nat.le_refl _)).more hb51.size
                      clear Fz50
                      have Fy51 := ((Fy50).below hb51 (Nat.le_refl _)).more hb51.size
                      clear Fy50
                      go_wp2_with fail
                      refine hKC.out _ _ hB51 (fun hHeld51 => ?_)
                      clear hKC KC
                      try simp only [Act.put, List.setIfInBounds_toArray, List.set_cons_zero, List.set_cons_succ]
                      refine anyH_take (i := 12) (v := .bool true) (some 147) rfl rfl (by kernel_rfl) (by kernel_rfl) (by kernel_rfl) (fun _ _ _ h => h) (Or.inl ⟨by rfl, fun _ hw => by (have hc := HcmpX.out; have hg := gt32; go_simp)⟩) (by assumption) ?_
                      simp only [Act.put, List.setIfInBounds_toArray, List.set_cons_zero, List.set_cons_succ]
                      refine anyH_take (i := 13) (v := .bool true) (some 4) rfl rfl (by kernel_rfl) (by kernel_rfl) (by kernel_rfl) (fun _ _ _ h => h) (Or.inl ⟨by rfl, fun _ hw => by go_simp⟩) (by assumption) ?_
                      simp only [Act.put, List.setIfInBounds_toArray, List.set_cons_zero, List.set_cons_succ]
                      refine wpAnyH_done (by kernel_rfl) ?_ _
                      clear hHeld
                      go_wp2_with fail
                      go_ret
                      exact ⟨rfl, hbw.trans (hB51.mono hbw.size)⟩
                · have hd2 : decide ((k : Int) < (nq : Int)) = false := by simp; omega
                  have hnew : Hid (∀ (j : Nat) (x : Itm), j < i + 1 → zs[j]? = some x → ∀ (k : Nat) (a b : List UInt8), (proveF x.key 65 L 0)[k]? = some a → (proveF x.key 65 M 0)[k]? = some b → a = b) := fun j x hj hx => by
                    by_cases e : j = i
                    · subst e
                      rw [Hy.out] at hx
                      injection hx with hx
                      subst hx
                      rw [HP.out, HQ.out]
                      exact take_all Hk.out (by rw [Hnp.out, Hnq.out]; omega)
                    · exact HS.out j x (by omega) hx
                  have hIq := hI13.up hbq
                  have hI5q := hI513.up hbq
                  have hI6q := hI613.up hbq
                  clear hPrr hQrr HS
                  go_wp2_with fail
                  case roundEnd => exact ⟨⟨i + 1, by omega, by simp, hbw, hIq, hI5q, hI6q, hnew⟩, by simp [intOf]; omega⟩
              · have hd1 : decide ((k : Int) < (np : Int)) = false := by simp; omega
                have hnew : Hid (∀ (j : Nat) (x : Itm), j < i + 1 → zs[j]? = some x → ∀ (k : Nat) (a b : List UInt8), (proveF x.key 65 L 0)[k]? = some a → (proveF x.key 65 M 0)[k]? = some b → a = b) := fun j x hj hx => by
                  by_cases e : j = i
                  · subst e
                    rw [Hy.out] at hx
                    injection hx with hx
                    subst hx
                    rw [HP.out, HQ.out]
                    exact take_all Hk.out (by rw [Hnp.out, Hnq.out]; omega)
                  · exact HS.out j x (by omega) hx
                have hIq := hI13.up hbq
                have hI5q := hI513.up hbq
                have hI6q := hI613.up hbq
                clear hPrr hQrr HS
                go_wp2_with fail
                case roundEnd => exact ⟨⟨i + 1, by omega, by simp, hbw, hIq, hI5q, hI6q, hnew⟩, by simp [intOf]; omega⟩
          · obtain rfl : n9 = i := by omega
            have hd4 : decide ((n9 : Int) < (n9 : Int)) = false := by simp
            have hfin : L = [] ∨ M = [] := by
              refine unlike_end HLr.out HMr.out HL32.out HM32.out HLv.out HMv.out Hne.out fun x hx => ?_
              have hx2 : ∃ y ∈ zs, y.key = x.1 := by
                rw [← Hzs.out]
                rcases hx with hx | hx
                · rw [HL.out] at hx
                  obtain ⟨y, hy, e⟩ := List.mem_map.1 hx
                  exact ⟨y, List.mem_append.2 (.inl hy), by rw [← e]; rfl⟩
                · rw [HM.out] at hx
                  obtain ⟨y, hy, e⟩ := List.mem_map.1 hx
                  exact ⟨y, List.mem_append.2 (.inr hy), by rw [← e]; rfl⟩
              obtain ⟨y, hy, e⟩ := hx2
              obtain ⟨j, hj, e2⟩ := List.mem_iff_getElem.1 hy
              rw [← e]
              exact HS.out j y (by rw [← Hn9.out]; exact hj) (by rw [List.getElem?_eq_getElem hj, e2])
            have h56 : n5 = 0 ∨ n6 = 0 := by
              rcases hfin with h | h
              · left; rw [← Hn5.out, ← List.length_map (f := Itm.it), ← HL.out, h]; rfl
              · right; rw [← Hn6.out, ← List.length_map (f := Itm.it), ← HM.out, h]; rfl
            clear hfin HS
            by_cases h0 : n5 = 0
            · subst h0
              go_wp2_with fail
              go_ret
              exact ⟨rfl, hbr⟩
            · obtain rfl : n6 = 0 := by omega
              have hd5 : ((n5 : Int) == 0) = false := by simp; omega
              have hd6 : decide ((n5 : Int) = 0) = false := by simp; omega
              go_wp2_with fail
              go_ret
              exact ⟨rfl, hbr⟩
    | true =>
      obtain ⟨h56, _⟩ := HS.out.1 rfl
      by_cases hlt2 : i < n5
      · have hd1 : decide ((i : Int) < (n5 : Int)) = true := by simp; omega
        obtain ⟨x, hx⟩ : ∃ x, (playI cs)[i]? = some x := ⟨(playI cs)[i]'(by rw [Hn5.out]; exact hlt2), List.getElem?_eq_getElem _⟩
        obtain ⟨y, hy⟩ : ∃ y, (playI ds)[i]? = some y := ⟨(playI ds)[i]'(by rw [Hn6.out]; omega), List.getElem?_eq_getElem _⟩
        have hi6 : i < n6 := by omega
        obtain ⟨b, off, rfl, hblk, hrow⟩ := its_of_row hI5r (by rw [Hn5.out]; omega)
        obtain ⟨b', off', rfl, hblk', hrow'⟩ := its_of_row hI6r (by rw [Hn6.out]; omega)
        obtain ⟨hx32, hrg⟩ := hrow i x hx
        obtain ⟨hy32, hrg'⟩ := hrow' i y hy
        obtain ⟨XL, hXL⟩ : ∃ XL, XL = Lib.byteCells x.key := ⟨_, rfl⟩
        obtain ⟨YL, hYL⟩ : ∃ XL, XL = Lib.byteCells y.key := ⟨_, rfl⟩
        have hk1 := ItsAt.key hrg XL hXL
        have hv1 := ItsAt.val hx32 hrg
        have hk2 := ItsAt.key hrg' YL hYL
        have hv2 := ItsAt.val hy32 hrg'
        obtain ⟨lx, hlx⟩ : ∃ l, x.val.length = l := ⟨_, rfl⟩
        obtain ⟨Ax, hAx⟩ : ∃ l, x.adr = l := ⟨_, rfl⟩
        obtain ⟨cx, hcx⟩ : ∃ l, x.cap = l := ⟨_, rfl⟩
        obtain ⟨ly, hly⟩ : ∃ l, y.val.length = l := ⟨_, rfl⟩
        obtain ⟨Ay, hAy⟩ : ∃ l, y.adr = l := ⟨_, rfl⟩
        obtain ⟨cy, hcy⟩ : ∃ l, y.cap = l := ⟨_, rfl⟩
        have hxo := HhIl.out x (List.mem_of_getElem? hx)
        have hyo := HhIm.out y (List.mem_of_getElem? hy)
        have hbx : Bs (w6.drewN nd') w.heap.size Ax x.val := by rw [← hAx]; exact hxo.1.bs.below (Below.dN Hb6.out nd') (Nat.le_refl _)
        have hby : Bs (w6.drewN nd') w.heap.size Ay y.val := by rw [← hAy]; exact hyo.1.bs.below (Below.dN Hb6.out nd') (Nat.le_refl _)
        rw [hlx, hAx, hcx] at hv1
        rw [hly, hAy, hcy] at hv2
        have hlxm : lx ≤ maxLen := by rw [← hlx]; exact Nat.le_trans hxo.2 (by decide)
        have hlym : ly ≤ maxLen := by rw [← hly]; exact Nat.le_trans hyo.2 (by decide)
        have HXi := Lib.hid (show (Tryz.prog.info? 24).map (·.size) = some XL.length by rw [hXL, Lib.byteCells_length, hx32]; kernel_rfl)
        have HYi := Lib.hid (show (Tryz.prog.info? 24).map (·.size) = some YL.length by rw [hYL, Lib.byteCells_length, hy32]; kernel_rfl)
        obtain ⟨r0, hr0⟩ : ∃ r0, decide (x.key = y.key) = r0 := ⟨_, rfl⟩
        have hcmp := fun w => digCmpI x.key y.key hx32 hy32 XL YL hXL hYL r0 hr0 w
        have Hcmp := Lib.hid hcmp
        obtain ⟨ans, hans⟩ : ∃ r, decide (x.val = y.val) = r := ⟨_, rfl⟩
        have Hans := Lib.hid hans
        have Hr0 := Lib.hid hr0
        have Hx := Lib.hid hx
        have Hy := Lib.hid hy
        have Hlx := Lib.hid hlx
        have Hly := Lib.hid hly
        have Hlxm := Lib.hid hlxm
        have Hlym := Lib.hid hlym
        have Hbx := Lib.hid hbx
        have Hby := Lib.hid hby
        have hki : ((i : Int) < (n5 : Int)) := by omega
        have hki6 : ((i : Int) < (n6 : Int)) := by omega
        have H56 := Lib.hid h56
        clear h56
        clear hrow hrow' hrg hrg' hXL hYL hlx hAx hcx hly hAy hcy hxo hyo hbx hby hcmp hans hr0 hx hy hx32 hy32 hlxm hlym hwr hFr hI5r hI6r hbr
        clear wr
        go_upto_region 13 with fail
        refine wp_region_held_drew (S := fun w' => (w'.rangeAt b (off + i * 33) XL ∧ w'.cell? ⟨b, off + i * 33 + 32, none⟩ = some (.slice Ax lx cx)) ∧ w'.rangeAt b' (off' + i * 33) YL ∧ w'.cell? ⟨b', off' + i * 33 + 32, none⟩ = some (.slice Ay ly cy)) (by kernel_rfl) ⟨⟨hk1, hv1⟩, hk2, hv2⟩ (fun hHeld => ?_)
        refine anyH_take (i := 0) (v := .slice (some ⟨b, off, none⟩) n5 c5) (some 54) rfl rfl (by kernel_rfl) (by kernel_rfl) (by kernel_rfl) (fun _ _ _ h => h) (Or.inl ⟨by rfl, fun w' hw => by rfl⟩) (by assumption) ?_
        simp only [Act.put, List.setIfInBounds_toArray, List.set_cons_zero, List.set_cons_succ]
        refine anyH_take (i := 1) (v := .int .i64 (i : Nat)) (some 55) rfl rfl (by kernel_rfl) (by kernel_rfl) (by kernel_rfl) (fun _ _ _ h => h) (Or.inl ⟨by rfl, fun w' hw => by rfl⟩) (by assumption) ?_
        simp only [Act.put, List.setIfInBounds_toArray, List.set_cons_zero, List.set_cons_succ]
        refine anyH_take (i := 2) (v := .pointer (some ⟨b, off + i * 33, none⟩)) (some 56) rfl rfl (by kernel_rfl) (by kernel_rfl) (by kernel_rfl) (fun _ _ _ h => h) (Or.inl ⟨by rfl, fun w' hw => by (go_simp; try (intro h; omega))⟩) (by assumption) ?_
        simp only [Act.put, List.setIfInBounds_toArray, List.set_cons_zero, List.set_cons_succ]
        refine anyH_take (i := 3) (v := .pointer (some ⟨b, off + i * 33, none⟩)) (some 57) rfl rfl (by kernel_rfl) (by kernel_rfl) (by kernel_rfl) (fun _ _ _ h => h) (Or.inl ⟨by rfl, fun w' hw => by go_simp⟩) (by assumption) ?_
        simp only [Act.put, List.setIfInBounds_toArray, List.set_cons_zero, List.set_cons_succ]
        refine anyH_take (i := 4) (some 58) rfl rfl (by kernel_rfl) (by kernel_rfl) (by kernel_rfl) (fun _ _ _ h => h) (yieldsIf_load_mid (by rfl) 24 (.tmp 57) rfl b (off + i * 33) rfl XL _ (fun w' h => h.1.1) Tryz.underlying24 rfl HXi.out) (by assumption) ?_
        simp only [Act.put, List.setIfInBounds_toArray, List.set_cons_zero, List.set_cons_succ]
        refine anyH_take (i := 5) (v := (.slice (some ⟨b', off', none⟩) n6 c6)) (some 59) rfl rfl (by kernel_rfl) (by kernel_rfl) (by kernel_rfl) (fun _ _ _ h => h) (Or.inl ⟨by rfl, fun w' hw => by rfl⟩) (by assumption) ?_
        simp only [Act.put, List.setIfInBounds_toArray, List.set_cons_zero, List.set_cons_succ]
        refine anyH_take (i := 6) (v := .int .i64 (i : Nat)) (some 60) rfl rfl (by kernel_rfl) (by kernel_rfl) (by kernel_rfl) (fun _ _ _ h => h) (Or.inl ⟨by rfl, fun w' hw => by rfl⟩) (by assumption) ?_
        simp only [Act.put, List.setIfInBounds_toArray, List.set_cons_zero, List.set_cons_succ]
        refine anyH_take (i := 7) (v := (.pointer (some ⟨b', off' + i * 33, none⟩))) (some 61) rfl rfl (by kernel_rfl) (by kernel_rfl) (by kernel_rfl) (fun _ _ _ h => h) (Or.inl ⟨by rfl, fun w' hw => by (go_simp; try (intro h; omega))⟩) (by assumption) ?_
        simp only [Act.put, List.setIfInBounds_toArray, List.set_cons_zero, List.set_cons_succ]
        refine anyH_take (i := 8) (v := (.pointer (some ⟨b', off' + i * 33, none⟩))) (some 62) rfl rfl (by kernel_rfl) (by kernel_rfl) (by kernel_rfl) (fun _ _ _ h => h) (Or.inl ⟨by rfl, fun w' hw => by go_simp⟩) (by assumption) ?_
        simp only [Act.put, List.setIfInBounds_toArray, List.set_cons_zero, List.set_cons_succ]
        refine anyH_take (i := 9) (some 63) rfl rfl (by kernel_rfl) (by kernel_rfl) (by kernel_rfl) (fun _ _ _ h => h) (yieldsIf_load_mid (by rfl) 24 (.tmp 62) rfl b' (off' + i * 33) rfl YL _ (fun w' h => h.2.1) Tryz.underlying24 rfl HYi.out) (by assumption) ?_
        simp only [Act.put, List.setIfInBounds_toArray, List.set_cons_zero, List.set_cons_succ]
        refine anyH_take (i := 10) (v := .bool r0) (some 64) rfl rfl (by kernel_rfl) (by kernel_rfl) (by kernel_rfl) (fun _ _ _ h => h) (Or.inl ⟨by rfl, fun w' hw => by (have hc := Hcmp.out; have hg := gt32I; go_simp)⟩) (by assumption) ?_
        simp only [Act.put, List.setIfInBounds_toArray, List.set_cons_zero, List.set_cons_succ]
        refine anyH_take (i := 11) (v := .bool r0) (some 65) rfl rfl (by kernel_rfl) (by kernel_rfl) (by kernel_rfl) (fun _ _ _ h => h) (Or.inl ⟨by rfl, fun w' hw => by rfl⟩) (by assumption) ?_
        simp only [Act.put, List.setIfInBounds_toArray, List.set_cons_zero, List.set_cons_succ]
        cases r0 with
        | false =>
          refine anyH_take (i := 12) (v := undef) (some 66) rfl rfl (by kernel_rfl) (by kernel_rfl) (by kernel_rfl) (fun _ _ _ h => h) (Or.inr ⟨by rfl, rfl⟩) (by assumption) ?_
          simp only [Act.put, List.setIfInBounds_toArray, List.set_cons_zero, List.set_cons_succ]
          refine anyH_take (i := 13) (v := undef) (some 67) rfl rfl (by kernel_rfl) (by kernel_rfl) (by kernel_rfl) (fun _ _ _ h => h) (Or.inr ⟨by rfl, rfl⟩) (by assumption) ?_
          simp only [Act.put, List.setIfInBounds_toArray, List.set_cons_zero, List.set_cons_succ]
          refine anyH_take (i := 14) (v := undef) (some 68) rfl rfl (by kernel_rfl) (by kernel_rfl) (by kernel_rfl) (fun _ _ _ h => h) (Or.inr ⟨by rfl, rfl⟩) (by assumption) ?_
          simp only [Act.put, List.setIfInBounds_toArray, List.set_cons_zero, List.set_cons_succ]
          refine anyH_take (i := 15) (v := undef) (some 69) rfl rfl (by kernel_rfl) (by kernel_rfl) (by kernel_rfl) (fun _ _ _ h => h) (Or.inr ⟨by rfl, rfl⟩) (by assumption) ?_
          simp only [Act.put, List.setIfInBounds_toArray, List.set_cons_zero, List.set_cons_succ]
          refine anyH_take (i := 16) (v := undef) (some 70) rfl rfl (by kernel_rfl) (by kernel_rfl) (by kernel_rfl) (fun _ _ _ h => h) (Or.inr ⟨by rfl, rfl⟩) (by assumption) ?_
          simp only [Act.put, List.setIfInBounds_toArray, List.set_cons_zero, List.set_cons_succ]
          refine anyH_take (i := 17) (v := undef) (some 71) rfl rfl (by kernel_rfl) (by kernel_rfl) (by kernel_rfl) (fun _ _ _ h => h) (Or.inr ⟨by rfl, rfl⟩) (by assumption) ?_
          simp only [Act.put, List.setIfInBounds_toArray, List.set_cons_zero, List.set_cons_succ]
          refine anyH_take (i := 18) (v := undef) (some 72) rfl rfl (by kernel_rfl) (by kernel_rfl) (by kernel_rfl) (fun _ _ _ h => h) (Or.inr ⟨by rfl, rfl⟩) (by assumption) ?_
          simp only [Act.put, List.setIfInBounds_toArray, List.set_cons_zero, List.set_cons_succ]
          refine anyH_take (i := 19) (v := undef) (some 73) rfl rfl (by kernel_rfl) (by kernel_rfl) (by kernel_rfl) (fun _ _ _ h => h) (Or.inr ⟨by rfl, rfl⟩) (by assumption) ?_
          simp only [Act.put, List.setIfInBounds_toArray, List.set_cons_zero, List.set_cons_succ]
          refine anyH_take (i := 20) (v := undef) (some 74) rfl rfl (by kernel_rfl) (by kernel_rfl) (by kernel_rfl) (fun _ _ _ h => h) (Or.inr ⟨by rfl, rfl⟩) (by assumption) ?_
          simp only [Act.put, List.setIfInBounds_toArray, List.set_cons_zero, List.set_cons_succ]
          refine anyH_take (i := 21) (v := undef) (some 75) rfl rfl (by kernel_rfl) (by kernel_rfl) (by kernel_rfl) (fun _ _ _ h => h) (Or.inr ⟨by rfl, rfl⟩) (by assumption) ?_
          simp only [Act.put, List.setIfInBounds_toArray, List.set_cons_zero, List.set_cons_succ]
          refine anyH_take (i := 22) (v := undef) (some 76) rfl rfl (by kernel_rfl) (by kernel_rfl) (by kernel_rfl) (fun _ _ _ h => h) (Or.inr ⟨by rfl, rfl⟩) (by assumption) ?_
          simp only [Act.put, List.setIfInBounds_toArray, List.set_cons_zero, List.set_cons_succ]
          refine anyH_take (i := 23) (v := .bool false) (some 77) rfl rfl (by kernel_rfl) (by kernel_rfl) (by kernel_rfl) (fun _ _ _ h => h) (Or.inl ⟨by rfl, fun w' hw => by rfl⟩) (by assumption) ?_
          simp only [Act.put, List.setIfInBounds_toArray, List.set_cons_zero, List.set_cons_succ]
          refine anyH_take (i := 24) (v := .bool false) (some 9) rfl rfl (by kernel_rfl) (by kernel_rfl) (by kernel_rfl) (fun _ _ _ h => h) (Or.inl ⟨by rfl, fun w' hw => by rfl⟩) (by assumption) ?_
          simp only [Act.put, List.setIfInBounds_toArray, List.set_cons_zero, List.set_cons_succ]
          refine wpAnyH_done (by kernel_rfl) ?_ _
          clear hHeld
          have hnew : Hid ((false = true → n5 = n6 ∧ ∀ (j : Nat) (x y : Itm), j < i + 1 → (playI cs)[j]? = some x → (playI ds)[j]? = some y → x.it = y.it) ∧ (false = false → L ≠ M)) := by
            refine ⟨fun h => (by cases h), fun _ => ?_⟩
            rw [HL.out, HM.out]
            exact map_ne Hx.out Hy.out fun e => of_decide_eq_false Hr0.out (congrArg Prod.fst e)
          clear hk1 hv1 hk2 hv2 HS
          go_wp2_with fail
          case roundEnd => exact ⟨⟨false, i + 1, nd' + 1, by omega, by simp, by simp, rfl, hnew⟩, by simp [intOf]; omega⟩
        | true =>
          refine anyH_take (i := 12) (v := .slice (some ⟨b, off, none⟩) n5 c5) (some 66) rfl rfl (by kernel_rfl) (by kernel_rfl) (by kernel_rfl) (fun _ _ _ h => h) (Or.inl ⟨by rfl, fun w' hw => by rfl⟩) (by assumption) ?_
          simp only [Act.put, List.setIfInBounds_toArray, List.set_cons_zero, List.set_cons_succ]
          refine anyH_take (i := 13) (v := .int .i64 (i : Nat)) (some 67) rfl rfl (by kernel_rfl) (by kernel_rfl) (by kernel_rfl) (fun _ _ _ h => h) (Or.inl ⟨by rfl, fun w' hw => by rfl⟩) (by assumption) ?_
          simp only [Act.put, List.setIfInBounds_toArray, List.set_cons_zero, List.set_cons_succ]
          refine anyH_take (i := 14) (v := .pointer (some ⟨b, off + i * 33, none⟩)) (some 68) rfl rfl (by kernel_rfl) (by kernel_rfl) (by kernel_rfl) (fun _ _ _ h => h) (Or.inl ⟨by rfl, fun w' hw => by (go_simp; try (intro h; omega))⟩) (by assumption) ?_
          simp only [Act.put, List.setIfInBounds_toArray, List.set_cons_zero, List.set_cons_succ]
          refine anyH_take (i := 15) (v := .pointer (some ⟨b, off + i * 33 + 32, none⟩)) (some 69) rfl rfl (by kernel_rfl) (by kernel_rfl) (by kernel_rfl) (fun _ _ _ h => h) (Or.inl ⟨by rfl, fun w' hw => by go_simp⟩) (by assumption) ?_
          simp only [Act.put, List.setIfInBounds_toArray, List.set_cons_zero, List.set_cons_succ]
          refine anyH_take (i := 16) (v := .slice Ax lx cx) (some 70) rfl rfl (by kernel_rfl) (by kernel_rfl) (by kernel_rfl) (fun _ _ _ h => h) (Or.inl ⟨by rfl, fun w' hw => by (have hq := hw.1.2; go_simp)⟩) (by assumption) ?_
          simp only [Act.put, List.setIfInBounds_toArray, List.set_cons_zero, List.set_cons_succ]
          refine anyH_take (i := 17) (v := (.slice (some ⟨b', off', none⟩) n6 c6)) (some 71) rfl rfl (by kernel_rfl) (by kernel_rfl) (by kernel_rfl) (fun _ _ _ h => h) (Or.inl ⟨by rfl, fun w' hw => by rfl⟩) (by assumption) ?_
          simp only [Act.put, List.setIfInBounds_toArray, List.set_cons_zero, List.set_cons_succ]
          refine anyH_take (i := 18) (v := .int .i64 (i : Nat)) (some 72) rfl rfl (by kernel_rfl) (by kernel_rfl) (by kernel_rfl) (fun _ _ _ h => h) (Or.inl ⟨by rfl, fun w' hw => by rfl⟩) (by assumption) ?_
          simp only [Act.put, List.setIfInBounds_toArray, List.set_cons_zero, List.set_cons_succ]
          refine anyH_take (i := 19) (v := (.pointer (some ⟨b', off' + i * 33, none⟩))) (some 73) rfl rfl (by kernel_rfl) (by kernel_rfl) (by kernel_rfl) (fun _ _ _ h => h) (Or.inl ⟨by rfl, fun w' hw => by (go_simp; try (intro h; omega))⟩) (by assumption) ?_
          simp only [Act.put, List.setIfInBounds_toArray, List.set_cons_zero, List.set_cons_succ]
          refine anyH_take (i := 20) (v := (.pointer (some ⟨b', off' + i * 33 + 32, none⟩))) (some 74) rfl rfl (by kernel_rfl) (by kernel_rfl) (by kernel_rfl) (fun _ _ _ h => h) (Or.inl ⟨by rfl, fun w' hw => by go_simp⟩) (by assumption) ?_
          simp only [Act.put, List.setIfInBounds_toArray, List.set_cons_zero, List.set_cons_succ]
          refine anyH_take (i := 21) (v := .slice Ay ly cy) (some 75) rfl rfl (by kernel_rfl) (by kernel_rfl) (by kernel_rfl) (fun _ _ _ h => h) (Or.inl ⟨by rfl, fun w' hw => by (have hq := hw.2.2; go_simp)⟩) (by assumption) ?_
          simp only [Act.put, List.setIfInBounds_toArray, List.set_cons_zero, List.set_cons_succ]
          refine wpAnyH_ready (rs := [22]) (by kernel_rfl) (by simp) ?_
          refine AllReadyH.cons rfl (fun K hK => ?_) AllReadyH.nil
          go_simp
          go_at_call 18
          refine Calls.mono (same_n w.heap.size w.heap.size Ax Ay cx cy lx ly x.val y.val ((w6.drewN nd').drewN 1) ans Hbx.out Hby.out Hlx.out Hly.out Hlxm.out Hlym.out Hans.out) ?_
          rintro e w7 ⟨rfl, k7, rfl⟩
          refine hK.out _ _ ⟨⟨hk1, hv1⟩, hk2, hv2⟩ (fun hHeldx => ?_)
          clear hK K
          try simp only [Act.put, List.setIfInBounds_toArray, List.set_cons_zero, List.set_cons_succ]
          refine anyH_take (i := 23) (v := .bool ans) (some 77) rfl rfl (by kernel_rfl) (by kernel_rfl) (by kernel_rfl) (fun _ _ _ h => h) (Or.inl ⟨by rfl, fun w' hw => by go_simp⟩) (by assumption) ?_
          simp only [Act.put, List.setIfInBounds_toArray, List.set_cons_zero, List.set_cons_succ]
          refine anyH_take (i := 24) (v := .bool ans) (some 9) rfl rfl (by kernel_rfl) (by kernel_rfl) (by kernel_rfl) (fun _ _ _ h => h) (Or.inl ⟨by rfl, fun w' hw => by rfl⟩) (by assumption) ?_
          simp only [Act.put, List.setIfInBounds_toArray, List.set_cons_zero, List.set_cons_succ]
          refine wpAnyH_done (by kernel_rfl) ?_ _
          clear hHeld
          have hnew : Hid ((ans = true → n5 = n6 ∧ ∀ (j : Nat) (x y : Itm), j < i + 1 → (playI cs)[j]? = some x → (playI ds)[j]? = some y → x.it = y.it) ∧ (ans = false → L ≠ M)) := by
            refine ⟨fun h => ⟨H56.out, fun j x' y' hj hx' hy' => ?_⟩, fun h => ?_⟩
            · by_cases e : j = i
              · subst e
                rw [Hx.out] at hx'
                rw [Hy.out] at hy'
                injection hx' with hx'
                injection hy' with hy'
                subst hx' hy'
                exact Prod.ext (of_decide_eq_true Hr0.out) (of_decide_eq_true (Hans.out.trans h))
              · exact (HS.out.1 rfl).2 j x' y' (by omega) hx' hy'
            · rw [HL.out, HM.out]
              exact map_ne Hx.out Hy.out fun e => of_decide_eq_false (Hans.out.trans h) (congrArg Prod.snd e)
          clear hk1 hv1 hk2 hv2 HS
          go_wp2_with fail
          exact ⟨⟨ans, i + 1, nd' + 1 + k7, by omega, by simp, by simp, rfl, hnew⟩, by simp [intOf]; omega⟩
      · obtain rfl : n5 = i := by omega
        have hd1 : decide ((n5 : Int) < (n5 : Int)) = false := by simp
        have hLM : L = M := by
          rw [HL.out, HM.out]
          exact map_eq (by rw [Hn5.out, Hn6.out]; exact h56) fun j x y hx hy => (HS.out.1 rfl).2 j x y (by have := (List.getElem?_eq_some_iff.1 hx).1; rw [Hn5.out] at this; exact this) hx hy
        rw [← hwr] at hbr hFr hI5r hI6r ⊢
        clear hwr HS
        have hrt : rq = true := by rw [← Hrq.out]; exact decide_eq_true (by rw [hLM])
        subst hrt
        clear hLM
        go_wp2_with fail
        go_at_call 12
        refine Calls.mono (forest_root w.heap.size xb L [(yb, M)] SL HSL.out wr (hFr.sub (by intro y hy; simp at hy ⊢; exact hy.symm))) ?_
        rintro e w7 ⟨rfl, hF7, hT7⟩
        have hb7 := hbr.trans (hT7.below hbr.size)
        dsimp only
        go_wp2_with fail
        go_at_call 12
        refine Calls.mono (forest_root w.heap.size yb M [(xb, L)] TL HTL.out w7 (hF7.sub (by intro y hy; simp at hy ⊢; exact hy.symm))) ?_
        rintro e w8 ⟨rfl, hF8, hT8⟩
        have hb8 := hb7.trans (hT8.below hb7.size)
        dsimp only
        go_wp2_with fail
        go_ret
        exact ⟨rfl, hb8⟩

theorem tunlike_walk (A : Option Addr) (n c : Nat) (cs : List Cl8) (hn : cs.length = n) (hc : n ≤ c) (hm : c ≤ maxLen) (Ad : Option Addr) (nd cd : Nat) (ds : List Cl8) (hnd : ds.length = nd) (hcd : nd ≤ cd) (hmd : cd ≤ maxLen) (w : World) (hcs : Cls8 w w.heap.size A cs) (hds : Cls8 w w.heap.size Ad ds) : Calls Tryz.prog 6 #[.slice A n c, .slice Ad nd cd] w fun e w' => e = .returned (.bool true) ∧ Below w.heap.size w w' := by
  by_cases h : great8 cs = true ∨ great8 ds = true
  · exact tunlike_great A n c cs hn hc hm Ad nd cd ds hnd hcd hmd w hcs hds h
  · have q : ∀ b : Bool, ¬ b = true → b = false := fun b h => by cases b with | false => rfl | true => exact absurd rfl h
    exact tunlike_in A n c cs hn hc hm Ad nd cd ds hnd hcd hmd w hcs hds (q _ fun e => h (.inl e)) (q _ fun e => h (.inr e))

end Go.Proofs.YtjbiegbdnppncaaGreat

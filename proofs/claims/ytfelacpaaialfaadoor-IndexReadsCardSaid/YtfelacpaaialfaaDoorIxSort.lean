/-
  Items sorted by their fingerprints.
-/
import Derived.Test.YtfelacpaaialfaaDoorIxRow
import Derived.Test.YtfelacpaaialfaaDoorIxRight
import Derived.Test.YtfelacpaaialfaaDoorIxCmp
import Derived.Test.YtfelacpaaialfaaDoorIxMem
import Derived.Shelf.SlSortCmp.NoneTotal
import Derived.Shelf.Lay
import Derived.Ground.SlsfProg
namespace Go.Proofs.YtfelacpaaialfaaDoor
open Go.RowKit Go.Shelf Go.Sort
set_option linter.unusedVariables false
set_option linter.unusedSimpArgs false

shelf_lay_g SlLaysF0.n6 Slsf 6 at Tryd 26 as Tryd.sortIt

theorem it_agg (w : World) : (isAgg 61).run Tryd.prog w = .ok true w := by kernel_rfl
theorem it_sizeOf (w : World) : (Go.sizeOf 61).run Tryd.prog w = .ok 35 w := by kernel_rfl

set_option maxHeartbeats 4000000 in
set_option maxRecDepth 100000 in
/-- The function literal: bytes.Compare of the fingerprints. -/
theorem itcmp_any (x y : Ix) (hx : x.d.length = 32) (hy : y.d.length = 32) (XL YL : List Value) (hX : XL = itC x) (hY : YL = itC y) (w : World) :
    Calls Tryd.prog 27 #[.agg XL.toArray, .agg YL.toArray] w fun e w' => e = .returned (.int .i64 (Lib.compareBytes x.d y.d)) ∧ ∃ q os', w' = grow (w.drewN q) os' := by
  obtain ⟨g, hg⟩ : ∃ z, z = w.heap.size := ⟨_, rfl⟩
  obtain ⟨w1, hw1⟩ : ∃ z, z = (w.alloc (.cells XL.toArray 61)).alloc (.cells YL.toArray 61) := ⟨_, rfl⟩
  have hx1 : Arr w1 g 61 XL := by rw [hw1, hg]; exact (Arr.new w _ _).alloc _
  have hy1 : Arr w1 (g + 1) 61 YL := by
    have := Arr.new (w.alloc (.cells XL.toArray 61)) 61 YL
    rw [hw1, hg]
    simpa using this
  have hr1 : ∀ w', Arr w' g 61 XL → w'.rangeAt g 0 (Lib.byteCells x.d) := fun w' h => (it_parts hx (by have := h.range; rwa [hX] at this)).1
  have hr2 : ∀ w', Arr w' (g + 1) 61 YL → w'.rangeAt (g + 1) 0 (Lib.byteCells y.d) := fun w' h => (it_parts hy (by have := h.range; rwa [hY] at this)).1
  have Hq := Lib.hid (show w1 = grow w #[.cells XL.toArray 61, .cells YL.toArray 61] by rw [hw1, alloc_eq_grow, alloc_eq_grow, grow_grow]; rfl)
  have Hr1 := Lib.hid hr1
  have Hr2 := Lib.hid hr2
  have Hw1 := Lib.hid hw1
  have Hg := Lib.hid hg
  have Hx := Lib.hid hx
  have Hy := Lib.hid hy
  clear hX hY hw1 hg hx hy hr1 hr2
  go_enter Tryd.func27, Tryd.ntmps27
  go_upto_region 1 with fail
  rw [← Hw1.out, ← Hg.out]
  refine wp_region_held_drew (S := (fun w' => Arr w' g 61 XL ∧ Arr w' (g + 1) 61 YL)) (by kernel_rfl) ⟨hx1, hy1⟩ (fun hHeld => ?_)
  refine anyH_take (i := 0) (v := .pointer (some ⟨g, 0, none⟩)) (some 5) rfl rfl (by kernel_rfl) (by kernel_rfl) (by kernel_rfl) (fun _ _ _ h => h) (Or.inl ⟨by rfl, fun w' hw => by (go_simp)⟩) (by assumption) ?_
  simp only [Act.put, List.setIfInBounds_toArray, List.set_cons_zero, List.set_cons_succ]
  refine anyH_take (i := 1) (v := .slice (some ⟨g, 0, none⟩) 32 32) (some 6) rfl rfl (by kernel_rfl) (by kernel_rfl) (by kernel_rfl) (fun _ _ _ h => h) (Or.inl ⟨by rfl, fun w' hw => by (go_simp)⟩) (by assumption) ?_
  simp only [Act.put, List.setIfInBounds_toArray, List.set_cons_zero, List.set_cons_succ]
  refine anyH_take (i := 2) (v := .pointer (some ⟨g + 1, 0, none⟩)) (some 7) rfl rfl (by kernel_rfl) (by kernel_rfl) (by kernel_rfl) (fun _ _ _ h => h) (Or.inl ⟨by rfl, fun w' hw => by (go_simp)⟩) (by assumption) ?_
  simp only [Act.put, List.setIfInBounds_toArray, List.set_cons_zero, List.set_cons_succ]
  refine anyH_take (i := 3) (v := .slice (some ⟨g + 1, 0, none⟩) 32 32) (some 8) rfl rfl (by kernel_rfl) (by kernel_rfl) (by kernel_rfl) (fun _ _ _ h => h) (Or.inl ⟨by rfl, fun w' hw => by (go_simp)⟩) (by assumption) ?_
  simp only [Act.put, List.setIfInBounds_toArray, List.set_cons_zero, List.set_cons_succ]
  refine wpAnyH_ready (rs := [4]) (by kernel_rfl) (by simp) ?_
  refine AllReadyH.cons rfl (fun K hK => ?_) AllReadyH.nil
  go_simp
  go_at_call 18
  refine Calls.mono (cmp_any g 0 (g + 1) 0 32 32 x.d y.d Hx.out Hy.out _ (Hr1.out _ hHeld.1) (Hr2.out _ hHeld.2)) ?_
  rintro e wq ⟨rfl, rfl⟩
  refine hK.out _ _ hHeld (fun hHeldx => ?_)
  clear hK K
  try simp only [Act.put, List.setIfInBounds_toArray, List.set_cons_zero, List.set_cons_succ]
  refine anyH_take (i := 5) (v := .int .i64 (Lib.compareBytes x.d y.d)) (some 4) rfl rfl (by kernel_rfl) (by kernel_rfl) (by kernel_rfl) (fun _ _ _ h => h) (Or.inl ⟨by rfl, fun w' hw => by (go_simp)⟩) (by assumption) ?_
  simp only [Act.put, List.setIfInBounds_toArray, List.set_cons_zero, List.set_cons_succ]
  refine wpAnyH_done (by kernel_rfl) ?_ _
  go_wp2_with fail
  go_ret
  exact ⟨rfl, 1, #[.cells XL.toArray 61, .cells YL.toArray 61], by rw [Hq.out]; rfl⟩

/-- An item with a whole fingerprint. -/
structure ItD where
  val : Ix
  ok : val.d.length = 32
instance : Inhabited ItD := ⟨⟨⟨zeros, 0, 0, 0⟩, rfl⟩⟩
def itE (x : ItD) : List Value := itC x.val
def itCf (x y : ItD) : Int := Lib.compareBytes x.val.d y.val.d
theorem itCf_lt (x y : ItD) : ltOf itCf x y = ltD x.val.d y.val.d := cmp_lt x.val.d y.val.d (by rw [x.ok, y.ok])
theorem it_swo : SWO (ltOf itCf) where
  irrefl x := by rw [itCf_lt]; exact ltD_irrefl _
  trans x y z h1 h2 := by rw [itCf_lt] at *; exact ltD_trans h1 h2
  ntrans x y z h1 h2 := by
    rw [itCf_lt] at *
    cases h : ltD x.val.d z.val.d with
    | false => rfl
    | true =>
      cases h3 : ltD y.val.d x.val.d with
      | true => rw [ltD_trans h3 h] at h2; cases h2
      | false => rw [ltD_total h1 h3] at h; rw [h] at h2; cases h2
theorem it_lays (blk off size : Nat) (w : World) : CmpLays Tryd.prog 27 #[] itE 35 itCf blk off size w :=
  fun _ _ _ _ x y => itcmp_any x.val y.val x.ok y.ok _ _ rfl rfl _

/-- As items with whole fingerprints. -/
def asD : (xs : List Ix) → (∀ x ∈ xs, x.d.length = 32) → List ItD
  | [], _ => []
  | x :: xs, h => ⟨x, h x List.mem_cons_self⟩ :: asD xs fun y hy => h y (List.mem_cons_of_mem _ hy)
theorem asD_map : ∀ (xs : List Ix) (h : ∀ x ∈ xs, x.d.length = 32), (asD xs h).map ItD.val = xs
  | [], _ => rfl
  | x :: xs, h => by unfold asD; rw [List.map_cons, asD_map]
theorem flat_itE : ∀ (l : List ItD), l.flatMap itE = itsC (l.map ItD.val)
  | [] => rfl
  | x :: l => by rw [List.flatMap_cons, flat_itE l]; rfl
theorem it_size (l : List ItD) : (itsC (l.map ItD.val)).length = l.length * 35 := by
  induction l with
  | nil => rfl
  | cons x l ih =>
    show (itC x.val ++ itsC _).length = _
    rw [List.length_append, ih, itC_length x.ok, List.length_cons]
    omega
/-- One cell of a row of items. -/
theorem flatD_get (l : List ItD) (t : Nat) (ht : t < l.length * 35) : (itsC (l.map ItD.val))[t]? = some (flatK itE 35 l.toArray)[t]! := by
  have hd : t / 35 < l.length := by omega
  rw [get_flatK itE 35 l.toArray t (by simpa using ht)]
  have e : (l.map ItD.val)[t / 35]? = some (l[t / 35]'hd).val := by rw [List.getElem?_map, List.getElem?_eq_getElem hd]; rfl
  have hx : l.toArray[t / 35]! = l[t / 35]'hd := by
    rw [getElem!_pos l.toArray (t / 35) (by simpa using hd)]
    rfl
  rw [hx]
  have hl : (itE (l[t / 35]'hd)).length = 35 := itC_length (l[t / 35]'hd).ok
  have hm : t % 35 < (itE (l[t / 35]'hd)).length := by rw [hl]; omega
  rw [getElem!_pos (itE (l[t / 35]'hd)) (t % 35) hm]
  have := flat_at (k := 35) (f := itC) (xs := l.map ItD.val) (fun x hx => by
    obtain ⟨z, _, rfl⟩ := List.mem_map.1 hx
    exact itC_length z.ok) e (t % 35) _ (List.getElem?_eq_getElem hm)
  rw [show t / 35 * 35 + t % 35 = t by omega] at this
  exact this
theorem perm_is {L : List Ix} (hL : L.Pairwise (fun a b => ltD a.d b.d = true)) {xs : List Ix} (hp : xs.Perm L) (hs : xs.Pairwise (fun a b => ltD b.d a.d = false)) : xs = L := by
  refine List.Perm.eq_of_pairwise (le := fun a b => ltD b.d a.d = false) (fun a b ha hb h1 h2 => ?_) hs (hL.imp fun h => ltD_asymm h) hp
  have e := ltD_total h1 h2
  have ha' := hp.mem_iff.1 ha
  have hb' := hb
  rcases List.mem_iff_getElem.1 ha' with ⟨i, hi, rfl⟩
  rcases List.mem_iff_getElem.1 hb' with ⟨j, hj, rfl⟩
  rcases Nat.lt_trichotomy i j with h | h | h
  · have := List.pairwise_iff_getElem.1 hL i j hi hj h
    rw [h2] at this; cases this
  · subst h; rfl
  · have := List.pairwise_iff_getElem.1 hL j i hj hi h
    rw [h1] at this; cases this

set_option maxHeartbeats 1000000 in
/-- slices.SortFunc of a row of items that is, but for the order, one that rises: it is that one. -/
theorem isort_any (B : Nat) (xs L : List Ix) (v : Value) (w : World) (hp : xs.Perm L) (hL : L.Pairwise (fun a b => ltD a.d b.d = true)) (h : IRw w B v xs) (hn : xs.length ≤ 1000000) :
    Calls Tryd.prog 26 #[v, .func (.func 27) #[] #[]] w fun e w' =>
      e = .returned (.tuple #[]) ∧ IRw w' B v L ∧ w.grownBy w' v.ownBlock := by
  have hlen := hp.length_eq
  rcases h.2.2 with ⟨rfl, hn0⟩ | ⟨g, cap, cur, rfl, h1, hg, h2, h3, h4, h5⟩
  · have hc := AnyF.slices_SortFunc_none Tryd.sortIt none 0 (.func (.func 27) #[] #[]) w
    change Calls Tryd.prog 26 _ _ _ at hc
    refine hc.mono ?_
    rintro e w' ⟨rfl, rfl⟩
    have e1 : xs = [] := List.length_eq_zero_iff.1 hn0
    have e2 : L = [] := List.length_eq_zero_iff.1 (by omega)
    subst e1 e2
    exact ⟨rfl, h, ⟨rfl, rfl, rfl, Nat.le_refl _, fun _ _ _ => rfl⟩⟩
  · obtain ⟨l, hlx⟩ : ∃ l : List ItD, l.map ItD.val = xs := ⟨asD xs h.1, asD_map xs h.1⟩
    have hsz : l.length = xs.length := by
      have := congrArg List.length hlx
      simpa using this
    have hglt := (Array.getElem?_eq_some_iff.1 hg).1
    have hH : HoldsK itE 35 w g 0 l.toArray := by
      intro j hj
      rw [size_flatK] at hj
      have hj' : j < l.length * 35 := by simpa using hj
      have hc := flatD_get l j hj'
      rw [hlx, ← h5, List.getElem?_take_of_lt (by rw [← hsz]; exact hj')] at hc
      refine ⟨?_, ?_⟩
      · rw [cell_of_row w g _ cur 61 (0, 0) hg, Nat.zero_add]
        simpa using hc
      · simp [World.frozen?, hg]
    have hc := AnyQ.slices_SortFunc Tryd.sortIt 35 it_agg it_sizeOf itE (fun x => itC_length x.ok) (fun x => itC_one x.val) itCf it_swo 27 #[] g 0 cap l.toArray w (enters_of Tryd.func27 (by kernel_rfl) rfl) (it_lays g 0 _ w) hH hglt (by rw [List.size_toArray, hsz]; omega)
    rw [List.size_toArray, hsz] at hc
    change Calls Tryd.prog 26 _ _ _ at hc
    refine hc.mono ?_
    rintro e w' ⟨rfl, d', n, os, hpm, hso, rfl⟩
    obtain ⟨p1, p2, p3⟩ := hpm
    have p1 : d'.size = xs.length := by rw [← hsz]; simpa using p1
    have hd' : d'.toList.Perm l := by
      have e1 : d'.extract 0 xs.length = d' := by rw [← p1]; exact Array.extract_size
      have e2 : l.toArray.extract 0 xs.length = l.toArray := by
        rw [show xs.length = l.toArray.size by rw [List.size_toArray, hsz]]
        exact Array.extract_size
      rw [e1, e2] at p3
      simpa using p3
    have hpL : (d'.toList.map ItD.val).Perm L := by
      have := hd'.map ItD.val
      rw [hlx] at this
      exact this.trans hp
    have hsL : (d'.toList.map ItD.val).Pairwise (fun a b => ltD b.d a.d = false) := by
      rw [List.pairwise_map, List.pairwise_iff_getElem]
      intro i j hi hj hij
      have hj' : j < d'.size := by simpa using hj
      have := hso i j (Nat.zero_le _) hij (by rw [← p1]; exact hj')
      rw [itCf_lt, getElem!_pos d' i (by omega), getElem!_pos d' j hj'] at this
      simpa using this
    have heq := perm_is hL hpL hsL
    have hLl : L.length = xs.length := hlen.symm
    have hdl : d'.toList.length = xs.length := by simpa using p1
    have hwg : (sortWorldK itE 35 w g 0 n d' os).heap[g]? = some (.cells (putCells id 0 (flatK itE 35 d') cur) 61 (0, 0)) := by
      unfold sortWorldK
      rw [heap_grow_old _ _ (by rw [size_putRowK]; exact hglt)]
      unfold putRowK putRow mapBlock
      rw [Array.getElem?_modify]
      simp only [if_true]
      show Option.map _ (w.heap[g]?) = _
      rw [hg]
      rfl
    refine ⟨rfl, ⟨fun c hc => ?_, ?_, .inr ⟨g, cap, putCells id 0 (flatK itE 35 d') cur, by rw [hLl], h1, hwg, by omega, h3, ?_, ?_⟩⟩, ⟨rfl, rfl, rfl, ?_, fun k hk hne => ?_⟩⟩
    · rw [← heq] at hc
      obtain ⟨z, _, rfl⟩ := List.mem_map.1 hc
      exact z.ok
    · rw [← heq, it_size, hdl, List.length_map, hdl]
    · unfold putCells; rw [Array.size_mapIdx]; exact h4
    · rw [hLl, ← heq]
      apply List.ext_getElem?
      intro t
      by_cases ht : t < xs.length * 35
      · have ht' : t < d'.toList.length * 35 := by rw [hdl]; exact ht
        rw [List.getElem?_take_of_lt ht, flatD_get d'.toList t ht']
        have hcs : t < cur.size := by have : xs.length * 35 ≤ cap * 35 := Nat.mul_le_mul_right _ h2; omega
        simp only [putCells, Array.getElem?_toList, Array.getElem?_mapIdx, Array.getElem?_eq_getElem hcs, Option.map_some]
        rw [if_pos ⟨Nat.zero_le _, by rw [size_flatK, p1]; omega⟩]
        simp
      · rw [List.getElem?_eq_none (by rw [List.length_take]; omega), List.getElem?_eq_none (by rw [it_size, hdl]; omega)]
    · have := size_sortWorldK_c itE 35 w g 0 n d' os
      exact this
    · have hkg : k ≠ g := fun e => hne (by rw [e]; rfl)
      unfold sortWorldK
      rw [heap_grow_old _ _ (by rw [size_putRowK]; exact hk)]
      unfold putRowK putRow mapBlock
      rw [Array.getElem?_modify, if_neg (Ne.symm hkg)]
      rfl

end Go.Proofs.YtfelacpaaialfaaDoor

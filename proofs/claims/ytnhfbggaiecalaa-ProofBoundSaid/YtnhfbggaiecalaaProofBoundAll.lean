/-
  The walk of ProofBound.
-/
import Derived.Test.YtnhfbggaiecalaaR8NodeAll
import Derived.Deep.DeepCutAuto
import Derived.Deep.CutBlock
import Derived.Deep.RegionHeld3
import Derived.IntWalk
import Derived.Test.YtnhfbggaiecalaaSame
import Derived.Test.YtnhfbggaiecalaaProofMath
import Derived.Test.YtnhfbggaiecalaaProofTakes
import Derived.Test.YtnhfbggaiecalaaItems
import Derived.Test.YtnhfbggaiecalaaR8Drop
import Derived.Test.YtnhfbggaiecalaaRowsArg
import Derived.Deep.Slices
import Derived.Deep.Fields
import Derived.ChangeSame
import Derived.OpenShut
import Derived.Test.YtnhfbggaiecalaaTagged
import Derived.Test.YtnhfbggaiecalaaPCheck
import Derived.Test.YtnhfbggaiecalaaGen
import Derived.Test.YtnhfbggaiecalaaShaAt
namespace Go.Proofs.Ytnhfbggaiecalaa
open Go.RowKit
set_option linter.unusedVariables false
set_option linter.unusedSimpArgs false

/-- What stands in memory of items, and that Node can be asked. -/
structure ItsFit (w : World) (xs : List Itm) (A : Option Addr) (n c : Nat) : Prop where
  len : xs.length = n
  le : n ≤ c
  lim : n ≤ 1000
  good : Good (xs.map Itm.it)
  vals : ∀ x ∈ xs, x.val.length ≤ 1000
  ok : ItsOk w w.heap.size xs
  at_ : ItsAt w A xs
theorem ItsFit.up {w w' : World} {xs : List Itm} {A : Option Addr} {n c : Nat} (h : ItsFit w xs A n c) (hb : Below w.heap.size w w') : ItsFit w' xs A n c :=
  ⟨h.len, h.le, h.lim, h.good, h.vals, fun x hx => by have k := (h.ok.below hb (Nat.le_refl _)) x hx; exact ⟨k.k32, k.le, k.lim, k.bs.more hb.size⟩, h.at_.up hb⟩
theorem ItsFit.node {w : World} {xs : List Itm} {A : Option Addr} {n c : Nat} (h : ItsFit w xs A n c) (h0 : 0 < n) (t : Nat) (ht : t ≤ 64) (hag : ∀ i, i < t → agreeF (xs.map Itm.it) i = true) :
    Calls Try.prog 23 #[.slice A n c, .int .i64 (t : Nat)] w fun e w' => ∃ v, e = .returned v ∧ Owns w' w.heap.size 5 v (nodeF 65 (xs.map Itm.it) t) ∧ Below w.heap.size w w' :=
  nodesI 65 xs t A n c w h.len h0 h.le h.lim h.good hag ht (by omega) h.vals h.ok h.at_
theorem ItsFit.node_len {w : World} {xs : List Itm} {A : Option Addr} {n c : Nat} (h : ItsFit w xs A n c) (h0 : 0 < n) (t : Nat) (ht : t ≤ 64) : (nodeF 65 (xs.map Itm.it) t).length ≤ 1900 := by
  refine nodeF_len 65 _ t (fun y hy => ?_) ht (by rw [List.length_map, h.len]; exact h0)
  obtain ⟨z, hz, rfl⟩ := List.mem_map.1 hy
  exact h.vals z hz

set_option maxHeartbeats 8000000 in
set_option maxRecDepth 100000 in
theorem root_runI (xs : List Itm) (A : Option Addr) (n c : Nat) (w : World) (h : ItsFit w xs A n c) (RL : List Value) (hRL : RL = Lib.byteCells (rootF (xs.map Itm.it))) :
    Calls Try.prog 13 #[.slice A n c] w fun e w' => e = .returned (.agg RL.toArray) ∧ Below w.heap.size w w' := by
  obtain ⟨W1, hW1⟩ : ∃ W1, W1 = w.alloc (.cells (Lib.byteCells zeros).toArray 23) := ⟨_, rfl⟩
  have hR1 : Arr W1 w.heap.size 23 (Lib.byteCells zeros) := by rw [hW1]; exact Arr.new w _ _
  have hb1 : Below w.heap.size w W1 := by rw [hW1]; exact (Below.refl _ w).alloc (Nat.le_refl _) _
  have h1 := h.up hb1
  have hrl : RL.length = 32 := by
    rw [hRL, Lib.byteCells_length]
    unfold rootF nodeD
    split <;> exact shaF_length _
  have HRi := Lib.hid (show (Try.prog.info? 23).map (·.size) = some RL.toArray.size by rw [List.size_toArray, hrl]; kernel_rfl)
  have HR1 := Lib.hid (show RL.toArray.all (·.oneCell') = true by rw [hRL]; simpa using byteCells_one _)
  have HRz := Lib.hid (show (Lib.byteCells zeros).toArray.size = RL.toArray.size by rw [List.size_toArray, List.size_toArray, hrl, Lib.byteCells_length]; simp [zeros])
  have hlen := h.len
  have HW1 := Lib.hid hW1
  have Hlen := Lib.hid hlen
  have H1 := Lib.hid h1
  clear hW1 h h1 hlen hrl
  by_cases h0 : n = 0
  · have hnil : xs = [] := List.eq_nil_of_length_eq_zero (by rw [Hlen.out]; exact h0)
    have hR : RL = Lib.byteCells (shaF (tagF 5 [])) := by rw [hRL, hnil]; rfl
    have HR := Lib.hid hR
    have hd : ((n : Int) == 0) = true := by rw [beq_iff_eq]; omega
    clear hRL hnil hR
    go_enter Try.func13, Try.ntmps13
    go_upto_region 1 with fail
    change Code.wp _ _ _ _ (w.alloc (.cells (Lib.byteCells zeros).toArray 23))
    rw [← HW1.out]
    clear HW1
    go_wp2_with fail
    go_at_call 16
    refine Calls.mono (rtag_at 5 5 [] RL none 0 0 W1 rfl HR.out rfl (by omega) (fun h => absurd h (by simp)) (by decide)) ?_
    rintro e w2 ⟨rfl, hb12⟩
    have hR2 := hR1.up hb12
    have hb2 := hb1.trans (hb12.mono hb1.size)
    dsimp only
    go_wp2_with (refine wpList_store_row rfl _ _ _ rfl w.heap.size RL.toArray rfl rfl 23 (Lib.byteCells zeros).toArray hR2 HRi.out HRz.out HR1.out ?_)
    have hset := hR2.setRow RL
    refine bodyPost_ret (v := .agg RL.toArray) (results_cell_row (by rfl) _ _ w.heap.size 23 RL.toArray (0, 0) _ (by rfl) hset Try.underlying23 rfl HRi.out) rfl ?_
    exact ⟨rfl, hb2.trans (((Only.refl (fun k => k = w.heap.size) w2).setRow (.inl rfl) RL.toArray).below hb2.size (fun k hk => by omega))⟩
  · obtain ⟨Y, hY⟩ : ∃ Y, nodeF 65 (xs.map Itm.it) 0 = Y := ⟨_, rfl⟩
    have hR : RL = Lib.byteCells (shaF (tagF 4 [Y])) := by
      rw [hRL]
      unfold rootF nodeD
      rw [if_neg (fun e => h0 (by have := congrArg List.length e; rw [List.length_map, Hlen.out] at this; simpa using this)), hY]
    have hYl := H1.out.node_len (by omega) 0 (by omega)
    have hcall := H1.out.node (by omega) 0 (by omega) (fun i hi => by omega)
    rw [hY] at hYl hcall
    have HR := Lib.hid hR
    have HYl := Lib.hid hYl
    have Hcall := Lib.hid hcall
    have hd : ((n : Int) == 0) = false := by rw [beq_eq_false_iff_ne]; omega
    clear hRL hR hY hYl hcall
    go_enter Try.func13, Try.ntmps13
    go_upto_region 1 with fail
    change Code.wp _ _ _ _ (w.alloc (.cells (Lib.byteCells zeros).toArray 23))
    rw [← HW1.out]
    clear HW1
    go_wp2_with fail
    go_at_call 23
    refine Calls.mono Hcall.out ?_
    rintro e w2 ⟨vN, rfl, hownN, hb12⟩
    have hR2 := hR1.up hb12
    have hb2 := hb1.trans (hb12.mono hb1.size)
    obtain ⟨AN, cN, rfl, hN1, hN2, hN3⟩ := hownN.slice
    obtain ⟨nN, hnN⟩ : ∃ nN, Y.length = nN := ⟨_, rfl⟩
    rw [hnN] at hN1 ⊢
    have hrowY := (rows_oneI (w := w2) (B := w2.heap.size) 27 hnN hN1 hN2 hN3 (Nat.le_refl _)).more (Nat.le_of_eq (show w2.heap.size + 1 = (w2.alloc (.cells #[.slice AN nN cN] 27)).heap.size by simp))
    have hR3 : Arr (w2.alloc (.cells #[.slice AN nN cN] 27)) w.heap.size 23 (Lib.byteCells zeros) := hR2.alloc _
    have hb3 : Below w.heap.size w (w2.alloc (.cells #[.slice AN nN cN] 27)) := hb2.alloc hb2.size _
    clear hownN hN1 hN2 hN3 hnN hR1 hR2 hb1 hb2 hb12
    dsimp only
    go_wp2_with fail
    go_at_call 16
    refine Calls.mono (rtag_at 4 4 [Y] RL _ 1 1 _ rfl HR.out rfl (by omega) hrowY (tag_bound Y (by have := HYl.out; omega))) ?_
    rintro e w4 ⟨rfl, hb34⟩
    have hR4 := hR3.up hb34
    have hb4 := hb3.trans (hb34.mono hb3.size)
    dsimp only
    go_wp2_with (refine wpList_store_row rfl _ _ _ rfl w.heap.size RL.toArray rfl rfl 23 (Lib.byteCells zeros).toArray hR4 HRi.out HRz.out HR1.out ?_)
    have hset := hR4.setRow RL
    refine bodyPost_ret (v := .agg RL.toArray) (results_cell_row (by rfl) _ _ w.heap.size 23 RL.toArray (0, 0) _ (by rfl) hset Try.underlying23 rfl HRi.out) rfl ?_
    exact ⟨rfl, hb4.trans (((Only.refl (fun k => k = w.heap.size) w4).setRow (.inl rfl) RL.toArray).below hb4.size (fun k hk => by omega))⟩

end Go.Proofs.Ytnhfbggaiecalaa

namespace Go.Proofs.Ytnhfbggaiecalaa
open Go.RowKit
set_option linter.unusedVariables false
set_option linter.unusedSimpArgs false

theorem rowAllI : (Try.prog.info? 27).map (fun i => (i.zero, i.size, i.bytes)) = some (some (.slice none 0 0), 1, 24) := by kernel_rfl
/-- A row of rows of bytes of the call's own. -/
def NRow (w : World) (B : Nat) (v : Value) (rs : List (List UInt8)) : Prop :=
  ∃ cs : List Value, w.ownsRow B 27 1 v rs.length cs ∧ ∀ (i : Nat) (r : List UInt8), rs[i]? = some r → ∃ (A : Option Addr) (c : Nat), cs[i]? = some (.slice A r.length c) ∧ r.length ≤ c ∧ c ≤ maxLen ∧ Bs w w.heap.size A r ∧ ∀ a : Addr, A = some a → 0 < r.length → v.ownBlock ≠ some a.block
theorem NRow.lt {w : World} {B : Nat} {v : Value} {rs : List (List UInt8)} (h : NRow w B v rs) : ∀ k, v.ownBlock = some k → B ≤ k ∧ k < w.heap.size := by
  obtain ⟨cs, h1, _⟩ := h
  exact World.ownsRow.lt h1
theorem NRow.up {w w' : World} {B : Nat} {v : Value} {rs : List (List UInt8)} (h : NRow w B v rs) (hb : Below w.heap.size w w') : NRow w' B v rs := by
  obtain ⟨cs, h1, h2⟩ := h
  refine ⟨cs, ⟨h1.1, ?_⟩, fun i r hr => ?_⟩
  · rcases h1.2 with hn | ⟨g, cap, cur, rfl, e1, hg, rest⟩
    · exact .inl hn
    · exact .inr ⟨g, cap, cur, rfl, e1, (hb.block g (Array.getElem?_eq_some_iff.1 hg).1).trans hg, rest⟩
  · obtain ⟨A, c, k1, k2, k3, k4, k5⟩ := h2 i r hr
    exact ⟨A, c, k1, k2, k3, (k4.below hb (Nat.le_refl _)).more hb.size, k5⟩
theorem NRow.base {w : World} {B B' : Nat} {v : Value} {rs : List (List UInt8)} (h : NRow w B v rs) (hB : B' ≤ B) : NRow w B' v rs := by
  obtain ⟨cs, h1, h2⟩ := h
  refine ⟨cs, ⟨h1.1, ?_⟩, h2⟩
  rcases h1.2 with hn | ⟨g, cap, cur, rfl, e1, rest⟩
  · exact .inl hn
  · exact .inr ⟨g, cap, cur, rfl, Nat.le_trans hB e1, rest⟩
theorem ItsAt.grown {w w' : World} {A : Option Addr} {xs : List Itm} {row : Option Nat} (h : ItsAt w A xs) (hg : w.grownBy w' row) (hne : ∀ a : Addr, A = some a → 0 < xs.length → row ≠ some a.block) : ItsAt w' A xs := fun hp => by
  obtain ⟨b, off, e, hlt, hr⟩ := h hp
  refine ⟨b, off, e, Nat.lt_of_lt_of_le hlt hg.size, fun i x hx => ⟨(hr i x hx).1, fun j v hj => ?_⟩⟩
  rw [← (hr i x hx).2 j v hj]
  exact World.cell?_of_block (hg.block b hlt (fun e2 => hne _ e hp e2.symm))
theorem NRow.empty (w : World) (B : Nat) (hB : B ≤ w.heap.size) : NRow (w.alloc (.cells #[] 27)) B (.slice (some ⟨w.heap.size, 0, none⟩) 0 0) [] :=
  ⟨[], ⟨rfl, .inr ⟨w.heap.size, 0, #[], rfl, hB, heap_alloc_new w _, Nat.le_refl _, by unfold maxLen; omega, rfl, rfl⟩⟩, fun i r h => by simp at h⟩
theorem NRow.snoc {w w' : World} {B : Nat} {v v' : Value} {rs : List (List UInt8)} {cs : List Value} {Y : List UInt8} {A : Option Addr} {n c : Nat} (h1 : w'.ownsRow B 27 1 v' (rs.length + 1) (cs ++ [.slice A n c])) (hl : cs.length = rs.length * 1)
    (h2 : ∀ (i : Nat) (r : List UInt8), rs[i]? = some r → ∃ (A : Option Addr) (c : Nat), cs[i]? = some (.slice A r.length c) ∧ r.length ≤ c ∧ c ≤ maxLen ∧ Bs w w.heap.size A r ∧ ∀ a : Addr, A = some a → 0 < r.length → v.ownBlock ≠ some a.block)
    (hg : w.grownBy w' v.ownBlock) (hp : v'.ownBlock = v.ownBlock ∨ v'.ownBlock = some w.heap.size) (hn : Y.length = n) (hc : n ≤ c) (hm : c ≤ maxLen) (hb : Bs w w.heap.size A Y) (ha : ∀ a : Addr, A = some a → 0 < Y.length → v.ownBlock ≠ some a.block) : NRow w' B v' (rs ++ [Y]) := by
  have keep : ∀ (A : Option Addr) (r : List UInt8), Bs w w.heap.size A r → (∀ a : Addr, A = some a → 0 < r.length → v.ownBlock ≠ some a.block) → Bs w' w'.heap.size A r ∧ ∀ a : Addr, A = some a → 0 < r.length → v'.ownBlock ≠ some a.block := by
    intro A r hb ha
    refine ⟨fun hp0 => ?_, fun a e h0 => ?_⟩
    · obtain ⟨b, off, e, hlt, hcell⟩ := hb hp0
      refine ⟨b, off, e, Nat.lt_of_lt_of_le hlt hg.size, fun j hj => ?_⟩
      rw [← hcell j hj]
      exact World.cell?_of_block (hg.block b hlt (fun e2 => ha _ e hp0 e2.symm))
    · rcases hp with hp | hp
      · rw [hp]; exact ha a e h0
      · rw [hp]
        obtain ⟨b, off, e2, hlt, _⟩ := hb h0
        rw [e] at e2
        injection e2 with e2
        subst e2
        intro e3
        injection e3 with e3
        simp only at e3
        omega
  subst hn
  refine ⟨cs ++ [.slice A Y.length c], by rw [List.length_append]; exact h1, fun i r hr => ?_⟩
  by_cases hi : i < rs.length
  · rw [List.getElem?_append_left hi] at hr
    obtain ⟨A', c', k1, k2, k3, k4, k5⟩ := h2 i r hr
    obtain ⟨q1, q2⟩ := keep A' r k4 k5
    exact ⟨A', c', by rw [List.getElem?_append_left (List.getElem?_eq_some_iff.1 k1).1]; exact k1, k2, k3, q1, q2⟩
  · have hlt := (List.getElem?_eq_some_iff.1 hr).1
    simp at hlt
    have hi2 : i = rs.length := by omega
    subst hi2
    rw [List.getElem?_append_right (Nat.le_refl _)] at hr
    simp at hr
    subst hr
    obtain ⟨q1, q2⟩ := keep A Y hb ha
    exact ⟨A, c, by rw [List.getElem?_append_right (by omega)]; simp [hl], hc, hm, q1, q2⟩
theorem NRow.rows {w : World} {B : Nat} {v : Value} {rs : List (List UInt8)} (h : NRow w B v rs) : ∃ A c, v = .slice A rs.length c ∧ rs.length ≤ c ∧ c ≤ maxLen ∧ RowsAt w w.heap.size A rs := by
  obtain ⟨cs, h1, h2⟩ := h
  rcases h1.2 with ⟨rfl, hn⟩ | ⟨g, cap, cur, rfl, e1, hg, e2, e3, e4, e5⟩
  · exact ⟨none, 0, by rw [hn], by omega, by unfold maxLen; omega, fun hp => by omega⟩
  · refine ⟨_, cap, rfl, e2, e3, fun hp => ⟨g, 0, rfl, (Array.getElem?_eq_some_iff.1 hg).1, fun i hi => ?_⟩⟩
    obtain ⟨A, c, k1, k2, k3, k4, _⟩ := h2 i (rs[i]'hi) (List.getElem?_eq_getElem hi)
    have hgd : rs.getD i [] = rs[i] := by simp [List.getD, hi]
    rw [hgd]
    refine ⟨A, c, ?_, k2, k3, k4⟩
    rw [← e5] at k1
    have hlt := (List.getElem?_eq_some_iff.1 k1).1
    rw [List.length_take] at hlt
    rw [List.getElem?_take_of_lt (by omega)] at k1
    rw [cell_of_row w g _ cur 27 (0, 0) hg, Nat.zero_add]
    simpa using k1

/-- The nodes on the way to a key. -/
def proveF (key : List UInt8) : Nat → List It → Nat → List (List UInt8)
  | 0, _, _ => []
  | f + 1, l, t => if l = [] then [] else nodeF 65 l t :: (if l.length = 1 ∨ restF (l.headD ([], [])).1 t (sharedF l t) ≠ restF key t (sharedF l t) then [] else proveF key f (subF l (sharedF l t) (nibF key (sharedF l t))) (sharedF l t + 1))
theorem proveF_none (key : List UInt8) (f t : Nat) : proveF key f [] t = [] := by
  cases f with
  | zero => rfl
  | succ f => unfold proveF; rw [if_pos rfl]

set_option maxHeartbeats 16000000 in
set_option maxRecDepth 100000 in
theorem prove_runI (key : List UInt8) (hk : key.length = 32) (KL : List Value) (hKL : KL = Lib.byteCells key) (xs : List Itm) (A0 : Option Addr) (n0 c0 : Nat) (w : World) (h : ItsFit w xs A0 n0 c0) (W : List (List UInt8)) (hW : proveF key 65 (xs.map Itm.it) 0 = W) :
    Calls Try.prog 15 #[.slice A0 n0 c0, .agg KL.toArray] w fun e w' => ∃ v, e = .returned v ∧ NRow w' w.heap.size v W ∧ Below w.heap.size w w' := by
  obtain ⟨i0, hi, hz0, hz1, hz2⟩ := info_parts rowAllI
  obtain ⟨W1, hW1⟩ : ∃ W1, W1 = w.alloc (.cells KL.toArray 23) := ⟨_, rfl⟩
  have hK1 : Arr W1 w.heap.size 23 KL := by rw [hW1]; exact Arr.new w _ _
  have hb1 : Below w.heap.size w W1 := by rw [hW1]; exact (Below.refl _ w).alloc (Nat.le_refl _) _
  have HW1 := Lib.hid hW1
  have HKi := Lib.hid (show (Try.prog.info? 23).map (·.size) = some KL.length by rw [hKL, Lib.byteCells_length, hk]; kernel_rfl)
  obtain ⟨W2, hW2⟩ : ∃ W2, W2 = W1.alloc (.cells #[] 27) := ⟨_, rfl⟩
  obtain ⟨g2, hg2⟩ : ∃ g2, g2 = W1.heap.size := ⟨_, rfl⟩
  have hO2 : NRow W2 (w.heap.size + 1) (.slice (some ⟨g2, 0, none⟩) 0 0) [] := by rw [hW2, hg2]; exact NRow.empty W1 _ hK1.lt
  have hK2 : Arr W2 w.heap.size 23 KL := by rw [hW2]; exact hK1.alloc _
  have hb2 : Below w.heap.size w W2 := by rw [hW2]; exact hb1.alloc hb1.size _
  have h2 := h.up hb2
  have hsep0 : Hid (∀ a : Addr, A0 = some a → 0 < xs.length → (Value.slice (some ⟨g2, 0, none⟩) 0 0).ownBlock ≠ some a.block) := fun a ea h0 e => by
    obtain ⟨b, off, e2, hlt, _⟩ := h.at_ h0
    rw [ea] at e2
    injection e2 with e2
    subst e2
    simp only [Value.ownBlock, Option.some.injEq] at e
    have := hb1.size
    omega
  have Hok0 := Lib.hid h.ok
  have HW2 := Lib.hid hW2
  have Hg2 := Lib.hid hg2
  have HKL := Lib.hid hKL
  have HW : Hid ([] ++ proveF key 65 (xs.map Itm.it) 0 = W) := hW
  clear hW1 hW2 hg2 hKL hK1 hb1 h hW
  go_enter Try.func15, Try.ntmps15
  go_upto_region 1 with fail
  change Code.wp _ _ _ _ (w.alloc (.cells KL.toArray 23))
  rw [← HW1.out]
  clear HW1
  go_upto_region 2 with fail
  rw [← Hg2.out]
  change Code.wp _ _ _ _ (W1.alloc (.cells #[] 27))
  rw [← HW2.out]
  clear HW2 Hg2
  go_upto_region 3 with fail
  go_loopw [0, 5, 6] (fun lv ov tv wr => ∃ (ps : List Itm) (A : Option Addr) (n c t f : Nat) (way : List (List UInt8)), Hid (∀ x ∈ ps, x ∈ xs) ∧ Hid (∀ a : Addr, A = some a → 0 < ps.length → ov.ownBlock ≠ some a.block) ∧ lv = .slice A n c ∧ tv = .int .i64 t ∧ t ≤ 64 ∧ 65 - t ≤ f ∧ ItsFit wr ps A n c ∧ Hid (∀ i, i < t → agreeF (ps.map Itm.it) i = true) ∧ NRow wr (w.heap.size + 1) ov way ∧ way.length ≤ t ∧ Hid (way ++ proveF key f (ps.map Itm.it) t = W) ∧ Arr wr w.heap.size 23 KL ∧ Below w.heap.size w wr) (fun _ _ tv _ => 65 - (intOf tv).toNat)
  case atStart => exact ⟨xs, A0, n0, c0, 0, 65, [], fun x hx => hx, hsep0, rfl, rfl, by omega, by omega, h2, fun i hi => by omega, hO2, by simp, HW, hK2, hb2⟩
  case round =>
    clear h2 hO2 HW hK2 hb2
    obtain ⟨ps, A, n, c, t, f, way, Hsub, Hsep, rfl, rfl, ht64, hft, hfit, Hag, hO, hwl, HW, hKr, hbr⟩ := hrel
    by_cases h0 : n = 0
    · have hd1 : decide ((0 : Int) < (n : Int)) = false := by simp; omega
      have hnil : ps = [] := List.eq_nil_of_length_eq_zero (by rw [hfit.len]; exact h0)
      have hWw : way = W := by have := HW.out; rw [hnil] at this; rw [show ([] : List Itm).map Itm.it = [] from rfl, proveF_none, List.append_nil] at this; exact this
      subst hWw
      clear hnil
      go_wp2_with fail
      go_ret
      exact ⟨_, rfl, hO.base (Nat.le_succ _), hbr⟩
    · have hd1 : decide ((0 : Int) < (n : Int)) = true := by simp; omega
      obtain ⟨f, rfl⟩ : ∃ f', f = f' + 1 := ⟨f - 1, by omega⟩
      obtain ⟨L, hL⟩ : ∃ L, ps.map Itm.it = L := ⟨_, rfl⟩
      have hLn : L.length = n := by rw [← hL, List.length_map, hfit.len]
      have hL0 : L ≠ [] := fun e => by rw [e] at hLn; simp at hLn; omega
      obtain ⟨sh, hsh⟩ : ∃ sh, sharedF L t = sh := ⟨_, rfl⟩
      have hts : t ≤ sh := by rw [← hsh]; exact sharedF_ge L t
      have hsh64 : sh ≤ 64 := by rw [← hsh]; exact sharedF_le L ht64
      obtain ⟨x0, hx0⟩ : ∃ x, ps[0]? = some x := ⟨ps[0]'(by rw [hfit.len]; omega), List.getElem?_eq_getElem _⟩
      have hhead : (L.headD ([], [])).1 = x0.key := by
        rw [← hL]
        cases ps with
        | nil => simp at hx0
        | cons y ys => simp at hx0; subst hx0; rfl
      obtain ⟨Y, hY⟩ : ∃ Y, nodeF 65 L t = Y := ⟨_, rfl⟩
      have hag := Hag.out
      have hstep := HW.out
      have hcall := hfit.node (by omega) t ht64 hag
      have hYl := hfit.node_len (by omega) t ht64
      rw [hL] at hstep hag hcall hYl
      rw [hY] at hcall hYl
      unfold proveF at hstep
      rw [if_neg hL0, hY, hLn, hsh, hhead] at hstep
      have Hstep := Lib.hid hstep
      have Hcall := Lib.hid hcall
      have HYl := Lib.hid hYl
      have Hag2 := Lib.hid hag
      have HL := Lib.hid hL
      have Hsh : Hid (sharedI ps t = sh) := by show sharedF (ps.map Itm.it) t = sh; rw [hL, hsh]
      have Hx0 := Lib.hid hx0
      have Hgood : Hid (Good L) := by show Good L; rw [← hL]; exact hfit.good
      have HLn := Lib.hid hLn
      have hsh1 : 2 ≤ n → sh < 64 := fun h2 => by rw [← hsh]; exact Hgood.out.split (by rw [HLn.out]; exact h2) ht64 Hag2.out
      have Hsh1 := Lib.hid hsh1
      have Hshag : Hid (∀ i, i < sh → agreeF L i = true) := by intro i hi; rw [← hsh] at hi; exact shared_agree Hag2.out i hi
      clear hstep hcall hYl hag hL hsh hx0 hhead hY hL0 hLn HW Hag hsh1
      go_wp2_with fail
      go_at_call 23
      refine Calls.mono Hcall.out ?_
      rintro e wa ⟨vN, rfl, hownN, hbra⟩
      obtain ⟨AN, cN, rfl, hN1, hN2, hN3⟩ := hownN.slice
      obtain ⟨nN, hnN⟩ : ∃ nN, Y.length = nN := ⟨_, rfl⟩
      have hOa := hO.up hbra
      have hlto := hO.lt
      have hapN : ∀ a : Addr, AN = some a → 0 < Y.length → ∀ k, Value.ownBlock _ = some k → k ≠ a.block := fun a ea _ k hk e => by
        have h1 := (hownN.lt a.block (by rw [ea]; rfl)).1
        have h2 := (hlto k hk).2
        omega
      rw [hnN] at hN1 ⊢
      have hfita := hfit.up hbra
      have hba := hbr.trans (hbra.mono hbr.size)
      have hKa := hKr.up hbra
      obtain ⟨wl, hwl'⟩ : ∃ W, W = wa.alloc (.cells #[.slice AN nN cN] 27) := ⟨_, rfl⟩
      have hbal : Below wa.heap.size wa wl := by rw [hwl']; exact (Below.refl _ wa).alloc (Nat.le_refl _) _
      have hOl := hOa.up hbal
      have hN3l : Bs wl wl.heap.size AN Y := (hN3.below hbal (Nat.le_refl _)).more hbal.size
      have hcell : ∀ j u, [Value.slice AN nN cN][j]? = some u → wl.cell? ((⟨wa.heap.size, 0, none⟩ : Addr).add j) = some u := by rw [hwl']; exact cell_one_new _ _ _
      obtain ⟨cs, hcs1, hcs2⟩ := hOl
      have hfitl := hfita.up hbal
      have hbl' := hba.trans (hbal.mono hba.size)
      have hKl := hKa.up hbal
      have Hnn := Lib.hid hnN
      have Hwl := Lib.hid hwl'
      clear hwl' hnN hO hOa hownN hN3 hbra hbr hKr hfit hfita hba hKa
      dsimp only
      go_wp2_with (at_builtin; refine wpList_append_own_at _ rfl _ _ 24 rfl (w.heap.size + 1) 27 i0 (.slice none 0 0) 1 24 Try.underlying24 hi hz0 hz1 hz2 rfl (by decide) _ way.length cs rfl (by rw [Hwl.out] at hcs1; exact hcs1) ⟨wa.heap.size, 0, none⟩ 1 1 [Value.slice AN nN cN] rfl rfl (by rw [Hwl.out] at hcell; exact hcell) (by intro u hu; simp at hu; subst hu; rfl) (by unfold maxLen; omega) (by omega) (by have := hKl.lt; rw [Hwl.out] at this; omega) ?_)
      intro v' w1 hown' hgrow _ hplace
      rw [← Hwl.out] at hgrow
      have hzl : wl.heap.size = wa.heap.size + 1 := by rw [Hwl.out]; simp
      first | rw [← hzl] at hplace | rw [← Hwl.out] at hplace
      have hltl := World.ownsRow.lt hcs1
      have hN1' := NRow.snoc (w := wl) hown' hcs1.1 hcs2 hgrow hplace Hnn.out hN1 hN2 hN3l (fun a ea h e => hapN a ea h a.block e rfl)
      have hb1 : Below w.heap.size w w1 := hbl'.trans ((Below.refl _ wl).grown hgrow hbl'.size (fun k hk => by have := (hltl k hk).1; omega))
      have hK1 : Arr w1 w.heap.size 23 KL := (hgrow.block w.heap.size hKl.lt (fun e => by have := (hltl _ e.symm).1; omega)).trans hKl
      have hat1 : ItsAt w1 A ps := hfitl.at_.grown hgrow Hsep.out
      have hfit1 : ItsFit w1 ps A n c := ⟨hfitl.len, hfitl.le, hfitl.lim, hfitl.good, hfitl.vals, fun x hx => by
        have k := (Hok0.out.below hb1 (Nat.le_refl _)) x (Hsub.out x hx)
        exact ⟨k.k32, k.le, k.lim, k.bs.more hb1.size⟩, hat1⟩
      have hsep1 : ∀ a : Addr, A = some a → 0 < ps.length → v'.ownBlock ≠ some a.block := fun a ea h0' e => by
        rcases hplace with hp | hp
        · exact Hsep.out a ea h0' (by rw [← hp]; exact e)
        · rw [hp] at e
          obtain ⟨b', off', e2, hlt', _⟩ := hfitl.at_ h0'
          rw [ea] at e2
          injection e2 with e2
          subst e2
          injection e with e
          simp only at hlt' e
          omega
      have hO1 : NRow w1 (w.heap.size + 1) v' (way ++ [Y]) := hN1'
      have Hsep1 := Lib.hid hsep1
      clear hown' hgrow hplace hltl hN1' hcs1 hcs2 hN1 hN2 hN3l hapN hfitl hbl' hKl hat1 hbal hcell hsep1 Hsep hlto
      go_wp2_with fail
      go_at_call 24
      refine Calls.mono (shared_run ps A n c t w1 hfit1.len (by omega) hfit1.le (by have := hfit1.lim; omega) ht64 hfit1.at_ sh Hsh.out) ?_
      rintro e w2 ⟨rfl, hb12⟩
      have hfit2 := hfit1.up hb12
      have hO2 := hO1.up hb12
      have hK2 := hK1.up hb12
      have hb2 := hb1.trans (hb12.mono hb1.size)
      clear hb12 hfit1 hO1 hK1 hb1
      dsimp only
      go_upto_region 6 with fail
      by_cases hn1 : n = 1
      · have hd2 : ((n : Int) == 1) = true := by rw [beq_iff_eq]; omega
        have hWw : way ++ [Y] = W := by have := Hstep.out; rw [if_pos (.inl hn1)] at this; exact this
        refine wp_region_held_drew (S := fun w' => True) (by kernel_rfl) trivial (fun hHeld => ?_)
        refine anyH_take (i := 0) (v := .slice A n c) (some 21) rfl rfl (by kernel_rfl) (by kernel_rfl) (by kernel_rfl) (fun _ _ _ h => h) (Or.inl ⟨by rfl, fun w' hw => by go_simp⟩) (by assumption) ?_
        simp only [Act.put, List.setIfInBounds_toArray, List.set_cons_zero, List.set_cons_succ]
        refine anyH_take (i := 1) (v := .int .i64 (n : Nat)) (some 22) rfl rfl (by kernel_rfl) (by kernel_rfl) (by kernel_rfl) (fun _ _ _ h => h) (Or.inl ⟨by rfl, fun w' hw => by go_simp⟩) (by assumption) ?_
        simp only [Act.put, List.setIfInBounds_toArray, List.set_cons_zero, List.set_cons_succ]
        refine anyH_take (i := 2) (v := .bool true) (some 23) rfl rfl (by kernel_rfl) (by kernel_rfl) (by kernel_rfl) (fun _ _ _ h => h) (Or.inl ⟨by rfl, fun w' hw => by go_simp⟩) (by assumption) ?_
        simp only [Act.put, List.setIfInBounds_toArray, List.set_cons_zero, List.set_cons_succ]
        refine anyH_take (i := 3) (v := .bool true) (some 24) rfl rfl (by kernel_rfl) (by kernel_rfl) (by kernel_rfl) (fun _ _ _ h => h) (Or.inl ⟨by rfl, fun w' hw => by go_simp⟩) (by assumption) ?_
        simp only [Act.put, List.setIfInBounds_toArray, List.set_cons_zero, List.set_cons_succ]
        refine anyH_take (i := 4) (v := undef) (some 25) rfl rfl (by kernel_rfl) (by kernel_rfl) (by kernel_rfl) (fun _ _ _ h => h) (Or.inr ⟨by rfl, rfl⟩) (by assumption) ?_
        simp only [Act.put, List.setIfInBounds_toArray, List.set_cons_zero, List.set_cons_succ]
        refine anyH_take (i := 5) (v := undef) (some 26) rfl rfl (by kernel_rfl) (by kernel_rfl) (by kernel_rfl) (fun _ _ _ h => h) (Or.inr ⟨by rfl, rfl⟩) (by assumption) ?_
        simp only [Act.put, List.setIfInBounds_toArray, List.set_cons_zero, List.set_cons_succ]
        refine anyH_take (i := 6) (v := undef) (some 27) rfl rfl (by kernel_rfl) (by kernel_rfl) (by kernel_rfl) (fun _ _ _ h => h) (Or.inr ⟨by rfl, rfl⟩) (by assumption) ?_
        simp only [Act.put, List.setIfInBounds_toArray, List.set_cons_zero, List.set_cons_succ]
        refine anyH_take (i := 7) (v := undef) (some 28) rfl rfl (by kernel_rfl) (by kernel_rfl) (by kernel_rfl) (fun _ _ _ h => h) (Or.inr ⟨by rfl, rfl⟩) (by assumption) ?_
        simp only [Act.put, List.setIfInBounds_toArray, List.set_cons_zero, List.set_cons_succ]
        refine anyH_take (i := 8) (v := undef) (some 29) rfl rfl (by kernel_rfl) (by kernel_rfl) (by kernel_rfl) (fun _ _ _ h => h) (Or.inr ⟨by rfl, rfl⟩) (by assumption) ?_
        simp only [Act.put, List.setIfInBounds_toArray, List.set_cons_zero, List.set_cons_succ]
        refine anyH_take (i := 9) (v := undef) (some 30) rfl rfl (by kernel_rfl) (by kernel_rfl) (by kernel_rfl) (fun _ _ _ h => h) (Or.inr ⟨by rfl, rfl⟩) (by assumption) ?_
        simp only [Act.put, List.setIfInBounds_toArray, List.set_cons_zero, List.set_cons_succ]
        refine anyH_take (i := 10) (v := undef) (some 31) rfl rfl (by kernel_rfl) (by kernel_rfl) (by kernel_rfl) (fun _ _ _ h => h) (Or.inr ⟨by rfl, rfl⟩) (by assumption) ?_
        simp only [Act.put, List.setIfInBounds_toArray, List.set_cons_zero, List.set_cons_succ]
        refine anyH_take (i := 11) (v := undef) (some 32) rfl rfl (by kernel_rfl) (by kernel_rfl) (by kernel_rfl) (fun _ _ _ h => h) (Or.inr ⟨by rfl, rfl⟩) (by assumption) ?_
        simp only [Act.put, List.setIfInBounds_toArray, List.set_cons_zero, List.set_cons_succ]
        refine anyH_take (i := 12) (v := undef) (some 33) rfl rfl (by kernel_rfl) (by kernel_rfl) (by kernel_rfl) (fun _ _ _ h => h) (Or.inr ⟨by rfl, rfl⟩) (by assumption) ?_
        simp only [Act.put, List.setIfInBounds_toArray, List.set_cons_zero, List.set_cons_succ]
        refine anyH_take (i := 13) (v := undef) (some 34) rfl rfl (by kernel_rfl) (by kernel_rfl) (by kernel_rfl) (fun _ _ _ h => h) (Or.inr ⟨by rfl, rfl⟩) (by assumption) ?_
        simp only [Act.put, List.setIfInBounds_toArray, List.set_cons_zero, List.set_cons_succ]
        refine anyH_take (i := 14) (v := undef) (some 35) rfl rfl (by kernel_rfl) (by kernel_rfl) (by kernel_rfl) (fun _ _ _ h => h) (Or.inr ⟨by rfl, rfl⟩) (by assumption) ?_
        simp only [Act.put, List.setIfInBounds_toArray, List.set_cons_zero, List.set_cons_succ]
        refine anyH_take (i := 15) (v := undef) (some 36) rfl rfl (by kernel_rfl) (by kernel_rfl) (by kernel_rfl) (fun _ _ _ h => h) (Or.inr ⟨by rfl, rfl⟩) (by assumption) ?_
        simp only [Act.put, List.setIfInBounds_toArray, List.set_cons_zero, List.set_cons_succ]
        refine anyH_take (i := 16) (v := undef) (some 37) rfl rfl (by kernel_rfl) (by kernel_rfl) (by kernel_rfl) (fun _ _ _ h => h) (Or.inr ⟨by rfl, rfl⟩) (by assumption) ?_
        simp only [Act.put, List.setIfInBounds_toArray, List.set_cons_zero, List.set_cons_succ]
        refine anyH_take (i := 17) (v := .bool true) (some 38) rfl rfl (by kernel_rfl) (by kernel_rfl) (by kernel_rfl) (fun _ _ _ h => h) (Or.inl ⟨by rfl, fun w' hw => by go_simp⟩) (by assumption) ?_
        simp only [Act.put, List.setIfInBounds_toArray, List.set_cons_zero, List.set_cons_succ]
        refine wpAnyH_done (by kernel_rfl) ?_ _
        clear hHeld
        have hO3 := (hO2.up (Below.dN (Below.refl w2.heap.size w2) 1)).base (Nat.le_succ w.heap.size)
        rw [hWw] at hO3
        clear hWw
        go_wp2_with fail
        go_ret
        exact ⟨_, rfl, hO3, Below.dN hb2 1⟩
      · have hd2 : ((n : Int) == 1) = false := by rw [beq_eq_false_iff_ne]; omega
        have hsh2 : sh < 64 := Hsh1.out (by omega)
        obtain ⟨b, off, hAe, hbl, hrow⟩ := hfit2.at_ (by rw [hfit2.len]; omega)
        obtain ⟨hxk, hrg⟩ := hrow 0 x0 Hx0.out
        obtain ⟨YL, hYL⟩ : ∃ YL, YL = Lib.byteCells x0.key := ⟨_, rfl⟩
        have Hrk : Hid (∀ w', Below w2.heap.size w2 w' → w'.rangeAt b off YL) := fun w' hb' => by
          have h := ItsAt.key hrg YL hYL
          rw [Nat.zero_mul, Nat.add_zero] at h
          intro j v hj
          rw [← h j v hj]
          exact World.cell?_of_block (hb'.block b hbl)
        have HYi := Lib.hid (show (Try.prog.info? 23).map (·.size) = some YL.length by rw [hYL, Lib.byteCells_length, hxk]; kernel_rfl)
        have HYL := Lib.hid hYL
        have Hxk := Lib.hid hxk
        obtain ⟨r, hr⟩ : ∃ r, decide (restF x0.key t sh = restF key t sh) = r := ⟨_, rfl⟩
        have Hr := Lib.hid hr
        have Hrl := Lib.hid (fun k => restF_length k t sh)
        obtain ⟨nr, hnr⟩ : ∃ nr, sh - t = nr := ⟨_, rfl⟩
        have Hnr := Lib.hid hnr
        subst hAe
        clear hrow hrg hxk hYL hr hnr
        refine wp_region_held_drew (S := fun w' => Below w2.heap.size w2 w') (by kernel_rfl) (Below.dN (Below.refl _ w2) 1) (fun hHeld => ?_)
        refine anyH_take (i := 0) (v := .slice (some ⟨b, off, none⟩) n c) (some 21) rfl rfl (by kernel_rfl) (by kernel_rfl) (by kernel_rfl) (fun _ _ _ h => h) (Or.inl ⟨by rfl, fun w' hw => by go_simp⟩) (by assumption) ?_
        simp only [Act.put, List.setIfInBounds_toArray, List.set_cons_zero, List.set_cons_succ]
        refine anyH_take (i := 1) (v := .int .i64 (n : Nat)) (some 22) rfl rfl (by kernel_rfl) (by kernel_rfl) (by kernel_rfl) (fun _ _ _ h => h) (Or.inl ⟨by rfl, fun w' hw => by go_simp⟩) (by assumption) ?_
        simp only [Act.put, List.setIfInBounds_toArray, List.set_cons_zero, List.set_cons_succ]
        refine anyH_take (i := 2) (v := .bool false) (some 23) rfl rfl (by kernel_rfl) (by kernel_rfl) (by kernel_rfl) (fun _ _ _ h => h) (Or.inl ⟨by rfl, fun w' hw => by go_simp⟩) (by assumption) ?_
        simp only [Act.put, List.setIfInBounds_toArray, List.set_cons_zero, List.set_cons_succ]
        refine anyH_take (i := 3) (v := .bool false) (some 24) rfl rfl (by kernel_rfl) (by kernel_rfl) (by kernel_rfl) (fun _ _ _ h => h) (Or.inl ⟨by rfl, fun w' hw => by go_simp⟩) (by assumption) ?_
        simp only [Act.put, List.setIfInBounds_toArray, List.set_cons_zero, List.set_cons_succ]
        refine anyH_take (i := 4) (v := .slice (some ⟨b, off, none⟩) n c) (some 25) rfl rfl (by kernel_rfl) (by kernel_rfl) (by kernel_rfl) (fun _ _ _ h => h) (Or.inl ⟨by rfl, fun w' hw => by go_simp⟩) (by assumption) ?_
        simp only [Act.put, List.setIfInBounds_toArray, List.set_cons_zero, List.set_cons_succ]
        refine anyH_take (i := 5) (v := .pointer (some ⟨b, off, none⟩)) (some 26) rfl rfl (by kernel_rfl) (by kernel_rfl) (by kernel_rfl) (fun _ _ _ h => h) (Or.inl ⟨by rfl, fun w' hw => by (go_simp; try (intro h; omega))⟩) (by assumption) ?_
        simp only [Act.put, List.setIfInBounds_toArray, List.set_cons_zero, List.set_cons_succ]
        refine anyH_take (i := 6) (v := .pointer (some ⟨b, off, none⟩)) (some 27) rfl rfl (by kernel_rfl) (by kernel_rfl) (by kernel_rfl) (fun _ _ _ h => h) (Or.inl ⟨by rfl, fun w' hw => by go_simp⟩) (by assumption) ?_
        simp only [Act.put, List.setIfInBounds_toArray, List.set_cons_zero, List.set_cons_succ]
        refine anyH_take (i := 7) (some 28) rfl rfl (by kernel_rfl) (by kernel_rfl) (by kernel_rfl) (fun _ _ _ h => h) (yieldsIf_load_mid (by rfl) 23 (.tmp 27) rfl b off rfl YL _ (fun w' h => Hrk.out w' h) Try.underlying23 rfl HYi.out) (by assumption) ?_
        simp only [Act.put, List.setIfInBounds_toArray, List.set_cons_zero, List.set_cons_succ]
        refine anyH_take (i := 8) (v := .int .i64 (t : Nat)) (some 29) rfl rfl (by kernel_rfl) (by kernel_rfl) (by kernel_rfl) (fun _ _ _ h => h) (Or.inl ⟨by rfl, fun w' hw => by go_simp⟩) (by assumption) ?_
        simp only [Act.put, List.setIfInBounds_toArray, List.set_cons_zero, List.set_cons_succ]
        refine anyH_take (i := 9) (v := .int .i64 (sh : Nat)) (some 30) rfl rfl (by kernel_rfl) (by kernel_rfl) (by kernel_rfl) (fun _ _ _ h => h) (Or.inl ⟨by rfl, fun w' hw => by go_simp⟩) (by assumption) ?_
        simp only [Act.put, List.setIfInBounds_toArray, List.set_cons_zero, List.set_cons_succ]
        refine anyH_take (i := 11) (some 32) rfl rfl (by kernel_rfl) (by kernel_rfl) (by kernel_rfl) (fun _ _ _ h => h) (yieldsIf_load_mid (by rfl) 23 (.tmp 3) rfl w.heap.size 0 rfl KL _ (fun w' h => (hK2.up h).range) Try.underlying23 rfl HKi.out) (by assumption) ?_
        simp only [Act.put, List.setIfInBounds_toArray, List.set_cons_zero, List.set_cons_succ]
        refine anyH_take (i := 12) (v := .int .i64 (t : Nat)) (some 33) rfl rfl (by kernel_rfl) (by kernel_rfl) (by kernel_rfl) (fun _ _ _ h => h) (Or.inl ⟨by rfl, fun w' hw => by go_simp⟩) (by assumption) ?_
        simp only [Act.put, List.setIfInBounds_toArray, List.set_cons_zero, List.set_cons_succ]
        refine anyH_take (i := 13) (v := .int .i64 (sh : Nat)) (some 34) rfl rfl (by kernel_rfl) (by kernel_rfl) (by kernel_rfl) (fun _ _ _ h => h) (Or.inl ⟨by rfl, fun w' hw => by go_simp⟩) (by assumption) ?_
        simp only [Act.put, List.setIfInBounds_toArray, List.set_cons_zero, List.set_cons_succ]
        refine wpAnyH_ready (rs := [10]) (by kernel_rfl) (by simp) ?_
        refine AllReadyH.cons rfl (fun K hK => ?_) AllReadyH.nil
        go_simp
        go_at_call 25
        refine Calls.mono (rest_run x0.key Hxk.out YL HYL.out t sh hts hsh64 (w2.drewN 1)) ?_
        rintro e w3 ⟨vR, rfl, hownR, hb23'⟩
        have hb23 : Below w2.heap.size w2 w3 := Below.dI (n := 1) hb23'
        obtain ⟨AR, cR, rfl, hR1, hR2, hR3⟩ := hownR.slice
        rw [Hrl.out, Hnr.out] at hR1 ⊢
        clear hb23' hownR
        dsimp only
        go_wp2_with fail
        refine hK.out _ _ hb23 (fun hHeldx => ?_)
        clear hK K
        try simp only [Act.put, List.setIfInBounds_toArray, List.set_cons_zero, List.set_cons_succ]
        refine wpAnyH_ready (rs := [14]) (by kernel_rfl) (by simp) ?_
        refine AllReadyH.cons rfl (fun K hK => ?_) AllReadyH.nil
        go_simp
        go_at_call 25
        refine Calls.mono (rest_run key hk KL HKL.out t sh hts hsh64 w3) ?_
        rintro e w4 ⟨vQ, rfl, hownQ, hb34⟩
        have hb24 : Below w2.heap.size w2 w4 := hb23.trans (hb34.mono hb23.size)
        obtain ⟨AQ, cQ, rfl, hQ1, hQ2, hQ3⟩ := hownQ.slice
        rw [Hrl.out, Hnr.out] at hQ1 ⊢
        have hR4 : Bs w4 w3.heap.size AR (restF x0.key t sh) := hR3.below hb34 (Nat.le_refl _)
        clear hb23 hb34 hownQ hR3
        dsimp only
        go_wp2_with fail
        refine hK.out _ _ hb24 (fun hHeldx => ?_)
        clear hK K
        try simp only [Act.put, List.setIfInBounds_toArray, List.set_cons_zero, List.set_cons_succ]
        refine wpAnyH_ready (rs := [15]) (by kernel_rfl) (by simp) ?_
        refine AllReadyH.cons rfl (fun K hK => ?_) AllReadyH.nil
        go_simp
        go_at_call 9
        refine Calls.mono (same_n w3.heap.size w4.heap.size AR AQ cR cQ nr nr (restF x0.key t sh) (restF key t sh) w4 r hR4 hQ3 (by rw [Hrl.out, Hnr.out]) (by rw [Hrl.out, Hnr.out]) (by omega) (by omega) Hr.out) ?_
        rintro e w5 ⟨rfl, k5, hw5⟩
        have hb25 : Below w2.heap.size w2 w5 := by rw [hw5]; exact Below.dN hb24 k5
        clear hw5 hb24 hR4 hQ3 hR1 hR2 hQ1 hQ2
        dsimp only
        go_wp2_with fail
        refine hK.out _ _ hb25 (fun hHeldx => ?_)
        clear hK K
        try simp only [Act.put, List.setIfInBounds_toArray, List.set_cons_zero, List.set_cons_succ]
        have hO5 := hO2.up hb25
        have hK5 := hK2.up hb25
        have hfit5 := hfit2.up hb25
        have hb5 := hb2.trans (hb25.mono hb2.size)
        clear hO2 hK2 hfit2 hb2 hb25 hHeld
        cases r with
        | false =>
          have hne : restF x0.key t sh ≠ restF key t sh := by simpa using Hr.out
          have hWw : way ++ [Y] = W := by have := Hstep.out; rw [if_pos (.inr hne)] at this; exact this
          have hO6 := hO5.base (Nat.le_succ w.heap.size)
          rw [hWw] at hO6
          clear hWw hne hO5
          refine anyH_take (i := 16) (v := .bool true) (some 37) rfl rfl (by kernel_rfl) (by kernel_rfl) (by kernel_rfl) (fun _ _ _ h => h) (Or.inl ⟨by rfl, fun w' hw => by go_simp⟩) (by assumption) ?_
          simp only [Act.put, List.setIfInBounds_toArray, List.set_cons_zero, List.set_cons_succ]
          refine anyH_take (i := 17) (v := .bool true) (some 38) rfl rfl (by kernel_rfl) (by kernel_rfl) (by kernel_rfl) (fun _ _ _ h => h) (Or.inl ⟨by rfl, fun w' hw => by go_simp⟩) (by assumption) ?_
          simp only [Act.put, List.setIfInBounds_toArray, List.set_cons_zero, List.set_cons_succ]
          refine wpAnyH_done (by kernel_rfl) ?_ _
          go_wp2_with fail
          go_ret
          exact ⟨_, rfl, hO6, hb5⟩
        | true =>
          have heq : restF x0.key t sh = restF key t sh := by simpa using Hr.out
          have hst := Hstep.out
          rw [if_neg (by rintro (h | h); exact hn1 h; exact h heq)] at hst
          obtain ⟨x, hx⟩ : ∃ x, nibF key sh = x := ⟨_, rfl⟩
          have hx16 : x < 16 := by rw [← hx]; exact nibF_lt _ _
          rw [hx] at hst
          have hst2 : (way ++ [Y]) ++ proveF key f (subF L sh x) (sh + 1) = W := by rw [← hst]; simp
          have Hst2 := Lib.hid hst2
          have Hx := Lib.hid hx
          have hki := hK5.range
          obtain ⟨s1, hs1⟩ : ∃ s1, sh + 1 = s1 := ⟨_, rfl⟩
          have hws : IntKind.i64.wrap ((sh : Int) + 1) = (s1 : Int) := by rw [IntWalk.i64_in _ (by omega)]; omega
          have Hs1 := Lib.hid hs1
          clear heq hst hst2 hx hs1
          refine anyH_take (i := 16) (v := .bool false) (some 37) rfl rfl (by kernel_rfl) (by kernel_rfl) (by kernel_rfl) (fun _ _ _ h => h) (Or.inl ⟨by rfl, fun w' hw => by go_simp⟩) (by assumption) ?_
          simp only [Act.put, List.setIfInBounds_toArray, List.set_cons_zero, List.set_cons_succ]
          refine anyH_take (i := 17) (v := .bool false) (some 38) rfl rfl (by kernel_rfl) (by kernel_rfl) (by kernel_rfl) (fun _ _ _ h => h) (Or.inl ⟨by rfl, fun w' hw => by go_simp⟩) (by assumption) ?_
          simp only [Act.put, List.setIfInBounds_toArray, List.set_cons_zero, List.set_cons_succ]
          refine wpAnyH_done (by kernel_rfl) ?_ _
          go_wp2_with (refine wpList_load_mid rfl _ _ rfl w.heap.size 0 rfl KL _ hki Try.underlying23 rfl HKi.out ?_)
          go_at_call 21
          refine Calls.mono (rnib_atI key hk KL HKL.out sh hsh2 x Hx.out w5) ?_
          rintro e w6 ⟨rfl, hb56⟩
          have hO6 := hO5.up hb56
          have hK6 := hK5.up hb56
          have hfit6 := hfit5.up hb56
          have hb6 := hb5.trans (hb56.mono hb5.size)
          clear hO5 hK5 hfit5 hb5 hb56 hki
          dsimp only
          go_wp2_with fail
          go_at_call 26
          refine Calls.mono (part_run ps _ n c sh x w6 hfit6.len hfit6.le (by have := hfit6.lim; omega) hsh2 (by omega) hfit6.at_) ?_
          rintro e w7 ⟨vp, rfl, hrowp, hb67⟩
          obtain ⟨Ap, cp, rfl, hp1, hp3, hItp⟩ := hrowp.slice
          have hO7 := hO6.up hb67
          have hK7 := hK6.up hb67
          have hb7 := hb6.trans (hb67.mono hb6.size)
          have hLp : (partI ps sh x).map Itm.it = subF L sh x := by rw [map_part, HL.out]
          have hsep7 : Hid (∀ a : Addr, Ap = some a → 0 < (partI ps sh x).length → v'.ownBlock ≠ some a.block) := fun a ea _ e => by
            have h1 := (hrowp.lt a.block (by rw [ea]; rfl)).1
            have h2 := (hO6.lt _ e).2
            omega
          have hsub7 : Hid (∀ y ∈ partI ps sh x, y ∈ xs) := fun y hy => Hsub.out y (part_mem hy).1
          have hfit7 : ItsFit w7 (partI ps sh x) Ap (partI ps sh x).length cp := ⟨rfl, hp1, by have := partI_len ps sh x; have := hfit6.len; have := hfit6.lim; omega, by rw [hLp]; exact Hgood.out.part sh x, fun y hy => hfit6.vals y (part_mem hy).1, fun y hy => by
            have k := (Hok0.out.below hb7 (Nat.le_refl _)) y (hsub7.out y hy)
            exact ⟨k.k32, k.le, k.lim, k.bs.more hb7.size⟩, hItp⟩
          have hag7 : Hid (∀ i, i < s1 → agreeF ((partI ps sh x).map Itm.it) i = true) := by show ∀ i, _; rw [hLp, ← Hs1.out]; exact part_agree Hshag.out
          have hW7 : Hid ((way ++ [Y]) ++ proveF key f ((partI ps sh x).map Itm.it) s1 = W) := by show _ = _; rw [hLp, ← Hs1.out]; exact Hst2.out
          have hwl7 : (way ++ [Y]).length ≤ s1 := by have := Hs1.out; simp; omega
          have hs64 : s1 ≤ 64 := by have := Hs1.out; omega
          have hfs : 65 - s1 ≤ f := by have := Hs1.out; omega
          have hts1 : t < s1 := by have := Hs1.out; omega
          obtain ⟨qs, hqs⟩ : ∃ qs, partI ps sh x = qs := ⟨_, rfl⟩
          rw [hqs] at hsep7 hsub7 hfit7 hag7 hW7 ⊢
          clear hrowp hItp hp1 hp3 hLp hO6 hK6 hfit6 hb6 hb67 hqs
          dsimp only
          go_wp2_with fail
          go_roundw
          case rel => exact ⟨qs, Ap, qs.length, cp, s1, f, way ++ [Y], hsub7, hsep7, rfl, by go_num, hs64, hfs, hfit7, hag7, hO7, hwl7, hW7, hK7, hb7⟩
          case measure => simp [intOf]; omega

end Go.Proofs.Ytnhfbggaiecalaa

namespace Go.Proofs.Ytnhfbggaiecalaa
open Go.RowKit
set_option linter.unusedVariables false
set_option linter.unusedSimpArgs false

theorem numF_backI (most v : Nat) (r : List UInt8) (h : v ≤ most) (hv : v < 18446744073709551616) : numF most (Lib.uvarint v ++ r) = (v, r, false) := by
  unfold numF
  rw [lead_uv v r hv]
  have := Lib.uvarint_pos v
  rw [if_neg (by simp only; omega)]
  simp
theorem numS_back (most v : Nat) (r : List UInt8) (h : v ≤ most) (hv : v < 18446744073709551616) : numS most (Lib.uvarint v ++ r, false) = (v, r, false) := by
  unfold numS
  simp only
  rw [numF_backI most v r h hv]
  rfl
theorem bytS_back (most : Nat) (b r : List UInt8) (h : b.length ≤ most) (hv : most < 18446744073709551616) : bytS most (bytB b ++ r, false) = (b, r, false) := by
  unfold bytS bytesF bytB
  rw [if_neg (by omega), Int.toNat_natCast, List.append_assoc]
  simp only
  rw [numF_backI most b.length (b ++ r) h (by omega)]
  simp only
  have : cutF b.length (b ++ r) = (b, r, false) := by
    unfold cutF
    rw [if_neg (by simp)]
    simp
  rw [this]
  rfl
theorem uv_one : Lib.uvarint 1 = [1] := by rw [Lib.uvarint_small (by omega)]; rfl
theorem uv_zero : Lib.uvarint 0 = [0] := by rw [Lib.uvarint_small (by omega)]; rfl
theorem nibs_rest (k : List UInt8) (t u : Nat) : nibsB (restF k t u) = true := by
  unfold nibsB restF
  rw [List.all_eq_true]
  intro x hx
  obtain ⟨i, _, rfl⟩ := List.mem_map.1 hx
  have := nibF_lt k (t + i)
  simp [Nat.toUInt8, UInt8.toNat_ofNat']
  omega

/-- A leaf's bytes, taken apart. -/
theorem ndR_leaf (x : It) (t : Nat) (ht : t ≤ 64) (hv : x.2.length ≤ 1000) (f : Nat) :
    ndR (64 - t) 9223372036854775807 (nodeF (f + 1) [x] t) = ⟨true, restF x.1 t 64, x.2, 0, ([], false), ([], false)⟩ := by
  have e : nodeF (f + 1) [x] t = Lib.uvarint 0 ++ (bytB (restF x.1 t 64) ++ (bytB x.2 ++ [])) := by rw [nodeF_one, uv_zero]; simp
  have h1 := numS_back 1 0 (bytB (restF x.1 t 64) ++ (bytB x.2 ++ [])) (by omega) (by omega)
  have h2 := bytS_back (64 - t) (restF x.1 t 64) (bytB x.2 ++ []) (by rw [restF_length]; exact Nat.le_refl _) (by omega)
  have h3 : bytS 9223372036854775807 (bytB x.2 ++ [], false) = (x.2, [], false) := bytS_back 9223372036854775807 x.2 [] (by omega) (by omega)
  unfold ndR
  rw [e, h1]
  simp only [if_true]
  rw [h2]
  simp only
  rw [h3]
theorem kidS_succI (m : Nat) (s : St) (n : Nat) : kidS m s (n + 1) = if bitM m n then cutS (kidS m s n) else kidS m s n := rfl
theorem popM_succI (m n : Nat) : popM m (n + 1) = popM m n + if bitM m n then 1 else 0 := rfl
/-- The bits of the nibbles that there are. -/
theorem maskF_bit (l : List It) (s : Nat) : ∀ (m n : Nat), n < m → bitM (maskF l s m) n = !(decide (subF l s n = [])) := by
  intro m
  induction m with
  | zero => intro n h; omega
  | succ m ih =>
    intro n h
    have hlt := maskF_lt l s m
    by_cases e : n = m
    · subst e
      unfold bitM
      rw [maskF_succ]
      by_cases hs : subF l s n = []
      · rw [if_pos hs, Nat.add_zero, Nat.div_eq_of_lt hlt]; simp [hs]
      · rw [if_neg hs, Nat.add_div_right _ (Nat.pos_of_ne_zero (by have := Nat.two_pow_pos n; omega)), Nat.div_eq_of_lt hlt]; simp [hs]
    · rw [← ih n (by omega)]
      unfold bitM
      rw [maskF_succ]
      split
      · rfl
      · have e2 : 2 ^ m = 2 ^ n * (2 * 2 ^ (m - n - 1)) := by
          rw [← Nat.pow_succ', ← Nat.pow_add]
          congr 1
          omega
        rw [e2, Nat.add_mul_div_left _ _ (Nat.two_pow_pos n)]
        congr 2
        omega
/-- The digests from a nibble on. -/
def sufB (f : Nat) (l : List It) (s n : Nat) : List UInt8 := (List.range' n (16 - n)).flatMap fun m => if subF l s m = [] then [] else shaF (tagF 4 [nodeF f (subF l s m) (s + 1)])
theorem sufB_zero (f : Nat) (l : List It) (s : Nat) : sufB f l s 0 = kidsB f l s 16 := by
  unfold sufB kidsB
  rw [List.range_eq_range']
theorem sufB_succ (f : Nat) (l : List It) (s n : Nat) (h : n < 16) : sufB f l s n = (if subF l s n = [] then [] else shaF (tagF 4 [nodeF f (subF l s n) (s + 1)])) ++ sufB f l s (n + 1) := by
  unfold sufB
  rw [show 16 - n = (16 - (n + 1)) + 1 by omega, List.range'_succ, List.flatMap_cons]
theorem sufB_end (f : Nat) (l : List It) (s : Nat) : sufB f l s 16 = [] := by simp [sufB]
theorem cutS_dig (d r : List UInt8) (hd : d.length = 32) : cutS (d ++ r, false) = (r, false) ∧ digF (d ++ r) = d := by
  have hl : ¬ ((d ++ r).length < 32) := by rw [List.length_append]; omega
  have e1 : (d ++ r).take 32 = d := by rw [← hd, List.take_left]
  have e2 : (d ++ r).drop 32 = r := by rw [← hd, List.drop_left]
  constructor
  · unfold cutS cutF
    simp only
    rw [if_neg hl, e2]
    rfl
  · unfold digF
    rw [if_neg hl, e1]
theorem kidS_suf (f : Nat) (l : List It) (s : Nat) : ∀ n, n ≤ 16 → kidS (maskF l s 16) (sufB f l s 0, false) n = (sufB f l s n, false)
  | 0, _ => rfl
  | n + 1, h => by
    rw [kidS_succI, kidS_suf f l s n (by omega), maskF_bit l s 16 n (by omega)]
    have hs := sufB_succ f l s n (by omega)
    by_cases e : subF l s n = []
    · rw [if_pos e, List.nil_append] at hs
      rw [hs]; simp [e]
    · rw [if_neg e] at hs
      rw [hs]
      simp only [e, decide_false, Bool.not_false, if_true]
      exact (cutS_dig _ _ (shaF_length _)).1
theorem kidD_suf (f : Nat) (l : List It) (s n : Nat) (h : n < 16) (e : subF l s n ≠ []) : kidD (maskF l s 16) (sufB f l s 0, false) n = shaF (tagF 4 [nodeF f (subF l s n) (s + 1)]) := by
  unfold kidD
  rw [kidS_suf f l s n (by omega)]
  have hs := sufB_succ f l s n h
  rw [if_neg e] at hs
  simp only
  rw [hs]
  exact (cutS_dig _ _ (shaF_length _)).2
/-- A branch's bytes, taken apart. -/
theorem ndR_branch (l : List It) (t f : Nat) (ht : t ≤ 64) (h2 : 2 ≤ l.length) :
    ndR (64 - t) 9223372036854775807 (nodeF (f + 1) l t) = ⟨false, restF (l.headD ([], [])).1 t (sharedF l t), [], maskF l (sharedF l t) 16, (sufB f l (sharedF l t) 0, false), ([], false)⟩ := by
  have hsh := sharedF_le l ht
  have hge := sharedF_ge l t
  have e : nodeF (f + 1) l t = Lib.uvarint 1 ++ (bytB (restF (l.headD ([], [])).1 t (sharedF l t)) ++ (Lib.uvarint (maskF l (sharedF l t) 16) ++ sufB f l (sharedF l t) 0)) := by
    rw [nodeF_two f l t h2, uv_one, sufB_zero]; simp
  have hm := maskF_lt l (sharedF l t) 16
  have h1 := numS_back 1 1 (bytB (restF (l.headD ([], [])).1 t (sharedF l t)) ++ (Lib.uvarint (maskF l (sharedF l t) 16) ++ sufB f l (sharedF l t) 0)) (by omega) (by omega)
  have h2' := bytS_back (64 - t) (restF (l.headD ([], [])).1 t (sharedF l t)) (Lib.uvarint (maskF l (sharedF l t) 16) ++ sufB f l (sharedF l t) 0) (by rw [restF_length]; omega) (by omega)
  have h3 := numS_back 65535 (maskF l (sharedF l t) 16) (sufB f l (sharedF l t) 0) (by omega) (by omega)
  unfold ndR
  rw [e, h1]
  simp only
  rw [if_neg (by omega), h2']
  simp only
  rw [h3]
  simp only
  rw [kidS_suf f l _ 16 (Nat.le_refl _), sufB_end]

/-- More fuel doesn't matter. -/
theorem nodeF_fuel : ∀ (f g : Nat) (l : List It) (t : Nat), Good l → (∀ i, i < t → agreeF l i = true) → t ≤ 64 → 0 < l.length → 65 - t ≤ f → 65 - t ≤ g → nodeF f l t = nodeF g l t
  | 0, _, l, t, _, _, ht, _, hf, _ => absurd hf (by omega)
  | _, 0, l, t, _, _, ht, _, _, hg => absurd hg (by omega)
  | f + 1, g + 1, l, t, hgood, hag, ht, hl, hf, hg => by
    rcases Nat.lt_or_ge l.length 2 with h | h
    · match l, hl, h with
      | [x], _, _ => rw [nodeF_one, nodeF_one]
    · rw [nodeF_two f l t h, nodeF_two g l t h]
      congr 1
      unfold kidsB
      simp only [List.flatMap_def]
      congr 1
      refine List.map_congr_left fun m hm => ?_
      by_cases e : subF l (sharedF l t) m = []
      · rw [if_pos e, if_pos e]
      · rw [if_neg e, if_neg e]
        have hs := hgood.split h ht hag
        have hge := sharedF_ge l t
        rw [nodeF_fuel f g _ (sharedF l t + 1) (hgood.part _ m) (part_agree (shared_agree hag)) (by omega) (List.length_pos_iff.2 e) (by omega) (by omega)]

theorem popM_mono (m : Nat) {a b : Nat} (h : a ≤ b) : popM m a ≤ popM m b := by
  induction b with
  | zero => have : a = 0 := by omega
            subst this; exact Nat.le_refl _
  | succ b ih =>
    by_cases e : a = b + 1
    · subst e; exact Nat.le_refl _
    · rw [popM_succI]; have := ih (by omega); omega
theorem popM_two (m : Nat) {a b : Nat} (hab : a < b) (hb : b < 16) (h1 : bitM m a = true) (h2 : bitM m b = true) : 1 < popM m 16 := by
  have e1 : 1 ≤ popM m (a + 1) := by rw [popM_succI, h1]; simp
  have e2 := popM_mono m (show a + 1 ≤ b by omega)
  have e3 : popM m (b + 1) = popM m b + 1 := by rw [popM_succI, h2]; simp
  have e4 := popM_mono m (show b + 1 ≤ 16 by omega)
  omega
/-- Of keys that part there are two nibbles. -/
theorem pop_parts {l : List It} {s : Nat} (h : agreeF l s = false) : 1 < popM (maskF l s 16) 16 := by
  have hne : ∃ x ∈ l, ∃ y ∈ l, nibF x.1 s ≠ nibF y.1 s := by
    by_cases hq : ∃ x ∈ l, ∃ y ∈ l, nibF x.1 s ≠ nibF y.1 s
    · exact hq
    · exfalso
      have : agreeF l s = true := agreeF_iff.2 fun x hx y hy => by
        by_cases e : nibF x.1 s = nibF y.1 s
        · exact e
        · exact absurd ⟨x, hx, y, hy, e⟩ hq
      rw [this] at h
      cases h
  obtain ⟨x, hx, y, hy, hxy⟩ := hne
  have bit : ∀ z ∈ l, bitM (maskF l s 16) (nibF z.1 s) = true := fun z hz => by
    rw [maskF_bit l s 16 _ (nibF_lt _ _)]
    have : subF l s (nibF z.1 s) ≠ [] := List.ne_nil_of_mem (mem_subF.2 ⟨hz, rfl⟩)
    simp [this]
  rcases Nat.lt_or_gt_of_ne hxy with h1 | h1
  · exact popM_two _ h1 (nibF_lt _ _) (bit x hx) (bit y hy)
  · exact popM_two _ h1 (nibF_lt _ _) (bit y hy) (bit x hx)

/-- A key's value among items. -/
def findF (l : List It) (key : List UInt8) : Option (List UInt8) := (l.find? fun x => decide (x.1 = key)).map (·.2)
theorem findF_none {l : List It} {key : List UInt8} (h : ∀ x ∈ l, x.1 ≠ key) : findF l key = none := by
  unfold findF
  rw [List.find?_eq_none.2 (fun x hx => by simpa using h x hx)]
  rfl
theorem findF_sub (l : List It) (key : List UInt8) (s : Nat) : findF (subF l s (nibF key s)) key = findF l key := by
  unfold findF subF
  rw [List.find?_filter]
  congr 2
  funext x
  by_cases e : x.1 = key
  · subst e; simp
  · simp [e]

/-- What differs first, of two ways. -/
def Differs (way rs : List (List UInt8)) : Prop := ∃ (i : Nat) (a b : List UInt8), way.take i = rs.take i ∧ way[i]? = some a ∧ rs[i]? = some b ∧ a ≠ b ∧ shaF (tagF 4 [a]) = shaF (tagF 4 [b])
theorem Differs.cons {way rs : List (List UInt8)} (h : Differs way rs) (x : List UInt8) : Differs (x :: way) (x :: rs) := by
  obtain ⟨i, a, b, h1, h2, h3, h4, h5⟩ := h
  exact ⟨i + 1, a, b, by simp [h1], by simpa using h2, by simpa using h3, h4, h5⟩

/-- Where nodes show something else than a trie tells, they differ from its own, and the first that differ have one digest. -/
theorem bound_way (key : List UInt8) (hk : key.length = 32) : ∀ (rs : List (List UInt8)) (l : List It) (t f : Nat) (res : Option (List UInt8)), l ≠ [] → Good l → (∀ x ∈ l, x.2.length ≤ 1000) → (∀ i, i < t → agreeF l i = true) → (∀ x ∈ l, ∀ i, i < t → nibF x.1 i = nibF key i) → t ≤ 64 → 65 - t ≤ f → (rs ≠ [] ∨ 0 < t) →
    chkF (nodeD l t) key rs t = some res → res = findF l key ∨ Differs (proveF key f l t) rs := by
  intro rs
  induction rs with
  | nil =>
    intro l t f res hl0 hgood hval hag hkey ht hf h0 hc
    exfalso
    unfold chkF at hc
    rw [if_neg (by rintro ⟨h, _⟩; rcases h0 with h0 | h0; exact h0 rfl; omega)] at hc
    cases hc
  | cons b r ih =>
    intro l t f res hl0 hgood hval hag hkey ht hf h0 hc
    obtain ⟨f, rfl⟩ : ∃ f', f = f' + 1 := ⟨f - 1, by omega⟩
    have hlp : 0 < l.length := List.length_pos_iff.2 hl0
    unfold chkF at hc
    have hcase : ¬ ((ndR (64 - t) 9223372036854775807 b).ok (64 - t) = false ∨ shaF (tagF 4 [b]) ≠ nodeD l t) := fun h => by
      rw [if_pos h] at hc; cases hc
    rw [if_neg hcase] at hc
    have hD : shaF (tagF 4 [b]) = nodeD l t := by
      by_cases e : shaF (tagF 4 [b]) = nodeD l t
      · exact e
      · exact absurd (.inr e) hcase
    have hprove : proveF key (f + 1) l t = nodeF 65 l t :: (if l.length = 1 ∨ restF (l.headD ([], [])).1 t (sharedF l t) ≠ restF key t (sharedF l t) then [] else proveF key f (subF l (sharedF l t) (nibF key (sharedF l t))) (sharedF l t + 1)) := by
      conv => lhs; unfold proveF
      rw [if_neg hl0]
    by_cases hb : nodeF 65 l t = b
    · subst hb
      rcases Nat.lt_or_ge l.length 2 with h | h2
      · left
        match l, hlp, h, hc, hval, hkey, hgood with
        | [x], _, _, hc, hval, hkey, hgood =>
          rw [ndR_leaf x t ht (hval x (by simp)) 64] at hc
          simp only [if_true] at hc
          rw [restF_length, show t + (64 - t) = 64 by omega] at hc
          have hx32 := hgood.k32 x (by simp)
          by_cases e : restF x.1 t 64 = restF key t 64
          · rw [if_pos e] at hc
            split at hc
            · injection hc with hc
              have hxk : x.1 = key := by
                refine nib_ext hx32 hk fun i hi => ?_
                by_cases hit : i < t
                · exact hkey x (by simp) i hit
                · have h1 := restF_get x.1 (t := t) (u := i) (v := 64) (by omega) hi
                  have h2 := restF_get key (t := t) (u := i) (v := 64) (by omega) hi
                  rw [← h1, ← h2, e]
              rw [← hc]
              unfold findF
              simp [hxk]
            · cases hc
          · rw [if_neg e] at hc
            split at hc
            · injection hc with hc
              rw [← hc, findF_none]
              intro z hz e2
              rw [List.mem_singleton] at hz
              subst hz
              exact e (by rw [e2])
            · cases hc
      · obtain ⟨sh, hsh⟩ : ∃ sh, sharedF l t = sh := ⟨_, rfl⟩
        have hs64 : sh < 64 := by rw [← hsh]; exact hgood.split h2 ht hag
        have hts : t ≤ sh := by rw [← hsh]; exact sharedF_ge l t
        have hshag : ∀ i, i < sh → agreeF l i = true := by rw [← hsh]; exact shared_agree hag
        rw [ndR_branch l t 64 ht h2, hsh] at hc
        simp only [Bool.false_eq_true, if_false] at hc
        rw [restF_length, show t + (sh - t) = sh by omega] at hc
        rw [hsh] at hprove
        obtain ⟨x0, r0, hlx⟩ : ∃ x0 r0, l = x0 :: r0 := by
          cases l with
          | nil => exact absurd rfl hl0
          | cons x0 r0 => exact ⟨x0, r0, rfl⟩
        have hhead : (l.headD ([], [])).1 = x0.1 := by rw [hlx]; rfl
        have hx0l : x0 ∈ l := by rw [hlx]; simp
        rw [hhead] at hc hprove
        by_cases e : restF x0.1 t sh = restF key t sh
        · rw [if_pos e] at hc
          have hbit : bitM (maskF l sh 16) (nibF key sh) = !(decide (subF l sh (nibF key sh) = [])) := maskF_bit l sh 16 _ (nibF_lt _ _)
          by_cases hsub : subF l sh (nibF key sh) = []
          · rw [hbit, hsub] at hc
            simp only [decide_true, Bool.not_true, Bool.false_eq_true, if_false] at hc
            split at hc
            · injection hc with hc
              left
              rw [← hc, findF_none]
              intro z hz e2
              have : z ∈ subF l sh (nibF key sh) := mem_subF.2 ⟨hz, by rw [e2]⟩
              rw [hsub] at this
              cases this
            · cases hc
          · rw [hbit] at hc
            simp only [hsub, decide_false, Bool.not_false, if_true] at hc
            have hnode : kidD (maskF l sh 16) (sufB 64 l sh 0, false) (nibF key sh) = nodeD (subF l sh (nibF key sh)) (sh + 1) := by
              rw [kidD_suf 64 l sh _ (nibF_lt _ _) hsub]
              unfold nodeD
              rw [nodeF_fuel 64 65 _ (sh + 1) (hgood.part sh _) (part_agree hshag) (by omega) (List.length_pos_iff.2 hsub) (by omega) (by omega)]
            rw [hnode] at hc
            have hkey2 : ∀ z ∈ subF l sh (nibF key sh), ∀ i, i < sh + 1 → nibF z.1 i = nibF key i := by
              intro z hz i hi
              obtain ⟨hz1, hz2⟩ := mem_subF.1 hz
              by_cases h1 : i = sh
              · rw [h1, hz2]
              · by_cases h3 : i < t
                · exact hkey z hz1 i h3
                · have h4 := agreeF_iff.1 (hshag i (by omega)) z hz1 x0 hx0l
                  have h5 := restF_get x0.1 (t := t) (u := i) (v := sh) (by omega) (by omega)
                  have h6 := restF_get key (t := t) (u := i) (v := sh) (by omega) (by omega)
                  rw [h4, ← h5, ← h6, e]
            have hrec := ih (subF l sh (nibF key sh)) (sh + 1) f res hsub (hgood.part sh _) (fun z hz => hval z (mem_subF.1 hz).1) (part_agree hshag) hkey2 (by omega) (by omega) (.inr (by omega)) hc
            rcases hrec with hrec | hrec
            · left; rw [hrec, findF_sub]
            · right
              rw [hprove, if_neg (by rintro (h | h); omega; exact h e)]
              exact hrec.cons _
        · rw [if_neg e] at hc
          split at hc
          · injection hc with hc
            left
            rw [← hc, findF_none]
            intro z hz e2
            refine e ?_
            rw [← e2]
            exact restF_congr fun i h1 h3 => agreeF_iff.1 (hshag i h3) x0 hx0l z hz
          · cases hc
    · right
      rw [hprove]
      exact ⟨0, nodeF 65 l t, b, rfl, rfl, rfl, hb, by rw [hD]; rfl⟩

end Go.Proofs.Ytnhfbggaiecalaa

namespace Go.Proofs.Ytnhfbggaiecalaa
open Go.RowKit
set_option linter.unusedVariables false
set_option linter.unusedSimpArgs false

/-- Is a row of bytes less than another one? -/
def lessF : List UInt8 → List UInt8 → Bool
  | a :: xs, b :: ys => if a = b then lessF xs ys else decide (a.toNat < b.toNat)
  | _, _ => false
theorem lessF_cons (a b : UInt8) (xs ys : List UInt8) : lessF (a :: xs) (b :: ys) = if a = b then lessF xs ys else decide (a.toNat < b.toNat) := rfl
theorem lessF_drop {a b : List UInt8} {i x y : Nat} (ha : i < a.length) (hb : i < b.length) (hx : (a.getD i 0).toNat = x) (hy : (b.getD i 0).toNat = y) :
    lessF (a.drop i) (b.drop i) = if x = y then lessF (a.drop (i + 1)) (b.drop (i + 1)) else decide (x < y) := by
  rw [List.drop_eq_getElem_cons ha, List.drop_eq_getElem_cons hb]
  have e1 : a.getD i 0 = a[i] := by simp [List.getD, ha]
  have e2 : b.getD i 0 = b[i] := by simp [List.getD, hb]
  rw [e1] at hx
  rw [e2] at hy
  rw [lessF_cons]
  by_cases h : a[i] = b[i]
  · rw [if_pos h, if_pos (by rw [← hx, ← hy, h])]
  · rw [if_neg h, if_neg (fun e => h (UInt8.toNat_inj.1 (by rw [hx, hy, e]))), hx, hy]

set_option maxHeartbeats 4000000 in
set_option maxRecDepth 100000 in
theorem less_run (a b : List UInt8) (ha : a.length = 32) (hb : b.length = 32) (AL BL : List Value) (hAL : AL = Lib.byteCells a) (hBL : BL = Lib.byteCells b) (r : Bool) (hr : lessF a b = r) (w : World) :
    Calls Try.prog 22 #[.agg AL.toArray, .agg BL.toArray] w fun e w' => e = .returned (.bool r) ∧ Below w.heap.size w w' := by
  obtain ⟨W1, hW1⟩ : ∃ W1, W1 = w.alloc (.cells AL.toArray 23) := ⟨_, rfl⟩
  obtain ⟨W2, hW2⟩ : ∃ W2, W2 = W1.alloc (.cells BL.toArray 23) := ⟨_, rfl⟩
  have hA1 : Arr W1 w.heap.size 23 AL := by rw [hW1]; exact Arr.new w _ _
  have hb1 : Below w.heap.size w W1 := by rw [hW1]; exact (Below.refl _ w).alloc (Nat.le_refl _) _
  have hz1 : W1.heap.size = w.heap.size + 1 := by rw [hW1]; simp
  have hA2 : Arr W2 w.heap.size 23 AL := by rw [hW2]; exact hA1.alloc _
  obtain ⟨g, hg⟩ : ∃ g, g = w.heap.size + 1 := ⟨_, rfl⟩
  have hB2 : Arr W2 g 23 BL := by rw [hW2, hg, ← hz1]; exact Arr.new W1 _ _
  have hb2 : Below w.heap.size w W2 := by rw [hW2]; exact hb1.alloc hb1.size _
  have HW1 := Lib.hid hW1
  have HW2 := Lib.hid hW2
  have Hg := Lib.hid hg
  have HAL := Lib.hid hAL
  have HBL := Lib.hid hBL
  have Hr0 : Hid (lessF (a.drop 0) (b.drop 0) = r) := hr
  clear hW1 hW2 hg hA1 hb1 hz1 hAL hBL hr
  go_enter Try.func22, Try.ntmps22
  go_upto_region 1 with fail
  change Code.wp _ _ _ _ ((w.alloc (.cells AL.toArray 23)).alloc (.cells BL.toArray 23))
  rw [← HW1.out, ← HW2.out, ← Hg.out]
  clear HW1 HW2 Hg
  go_upto_region 2 with fail
  go_loopw [5] (fun x wr => ∃ i : Nat, i ≤ 32 ∧ x = .int .i64 i ∧ Arr wr w.heap.size 23 AL ∧ Arr wr g 23 BL ∧ Below w.heap.size w wr ∧ Hid (lessF (a.drop i) (b.drop i) = r)) (fun x _ => 32 - (intOf x).toNat)
  case atStart => exact ⟨0, by omega, rfl, hA2, hB2, hb2, Hr0⟩
  case round =>
    clear hA2 hB2 hb2 Hr0
    obtain ⟨i, hi32, rfl, hA, hB, hbw, Hr⟩ := hrel
    by_cases hlt : i < 32
    · obtain ⟨x, hx⟩ : ∃ x, (a.getD i 0).toNat = x := ⟨_, rfl⟩
      obtain ⟨y, hy⟩ : ∃ y, (b.getD i 0).toNat = y := ⟨_, rfl⟩
      have hd := Hr.out
      rw [lessF_drop (by omega) (by omega) hx hy] at hd
      have hx256 : x < 256 := by rw [← hx]; exact UInt8.toNat_lt _
      have hy256 : y < 256 := by rw [← hy]; exact UInt8.toNat_lt _
      have hcx : wr.cell? ⟨w.heap.size, i, none⟩ = some (.int .u8 (x : Nat)) := by rw [hA.cell, HAL.out, ← hx]; exact byteCells_get (by omega)
      have hcy : wr.cell? ⟨g, i, none⟩ = some (.int .u8 (y : Nat)) := by rw [hB.cell, HBL.out, ← hy]; exact byteCells_get (by omega)
      have hd1 : decide ((i : Int) < (32 : Int)) = true := by simp; omega
      have hi2 : (i : Int) < 32 := by omega
      by_cases hxy : x = y
      · rw [if_pos hxy] at hd
        have Hd := Lib.hid hd
        subst hxy
        clear hd hx hy Hr
        go_upto_region 4 with fail
        go_quiet (fail)
        go_wp2_with fail
        go_roundw
        case rel => exact ⟨i + 1, by omega, by go_num, hA.drewN _, hB.drewN _, Below.dN hbw _, Hd⟩
        case measure => simp [intOf]; omega
      · rw [if_neg hxy] at hd
        have hne : ((x : Int) == (y : Int)) = false := by rw [beq_eq_false_iff_ne]; omega
        have hd2 : decide (x < y) = r := hd
        clear hd hx hy Hr
        go_upto_region 4 with fail
        go_quiet (fail)
        go_wp2_with fail
        go_quiet (fail)
        go_wp2_with fail
        go_ret
        refine ⟨?_, ?_⟩
        · first | rfl | (rw [hd2]; rfl)
        · first | exact Below.dN (Below.dN hbw _) _ | exact Below.dN hbw _
    · obtain rfl : i = 32 := by omega
      have hd1 : decide (((32 : Nat) : Int) < (32 : Int)) = false := by simp
      have hd := Hr.out
      rw [List.drop_of_length_le (by omega)] at hd
      have hr : r = false := by rw [← hd]; unfold lessF; rfl
      subst hr
      go_wp2_with fail
      go_ret
      exact ⟨rfl, hbw⟩

end Go.Proofs.Ytnhfbggaiecalaa

namespace Go.Proofs.Ytnhfbggaiecalaa
open Go.RowKit
set_option linter.unusedVariables false
set_option linter.unusedSimpArgs false

/-- One step of Put: the items so far, and whether the new one is among them. -/
def putS (key : List UInt8) (y : Itm) (s : List Itm × Bool) (x : Itm) : List Itm × Bool :=
  (s.1 ++ (if s.2 = false ∧ lessF x.key key = false then [y] else []) ++ (if x.key = key then [] else [x]), s.2 || !lessF x.key key)
def putL (key : List UInt8) (y : Itm) (xs : List Itm) : List Itm × Bool := xs.foldl (putS key y) ([], false)
/-- The items with one more, or another value. -/
def putI (key : List UInt8) (y : Itm) (xs : List Itm) : List Itm := if (putL key y xs).2 then (putL key y xs).1 else (putL key y xs).1 ++ [y]
theorem wpList_builtP8 {P : Program} {ops : Array Oper} {rest : List Oper} {o : Oper} {a : Act} {w : World} {Q : Exit → Act → World → Prop} (hg : o.guard = none) (t : TypeId) (parts : Array (Nat × Operand)) (ho : o.op = .build t parts)
    (ps : List (Nat × Value)) (hp : parts.toList.map (fun x => (x.1, a.eval x.2)) = ps) (cells : Array Value) (hf : P.built t ps = some cells)
    (h : wpList P ops Q rest (a.put o.dst (.agg cells)) w) : wpList P ops Q (o :: rest) a w :=
  wpList_buildTo hg t parts ho _ rfl cells (by rw [← hf, ← hp]; simp) h
theorem putL_take {xs : List Itm} {i : Nat} {x : Itm} (h : xs[i]? = some x) (key : List UInt8) (y : Itm) : putL key y (xs.take (i + 1)) = putS key y (putL key y (xs.take i)) x := by
  obtain ⟨hi, he⟩ := List.getElem?_eq_some_iff.1 h
  unfold putL
  rw [List.take_succ_eq_append_getElem hi, List.foldl_append, he]
  rfl
theorem putL_len (key : List UInt8) (y : Itm) : ∀ (xs : List Itm) (s : List Itm × Bool), (xs.foldl (putS key y) s).1.length ≤ s.1.length + 2 * xs.length
  | [], s => Nat.le_refl _
  | x :: xs, s => by
    have h := putL_len key y xs (putS key y s x)
    have h1 : (putS key y s x).1.length ≤ s.1.length + 2 := by
      unfold putS
      simp only [List.length_append]
      split <;> split <;> simp
    rw [List.foldl_cons, List.length_cons]
    omega

set_option maxHeartbeats 16000000 in
set_option maxRecDepth 100000 in
theorem put_runI (key : List UInt8) (hk : key.length = 32) (KL : List Value) (hKL : KL = Lib.byteCells key) (xs : List Itm) (A Av : Option Addr) (n c nv cv : Nat) (val : List UInt8) (hnv : val.length = nv) (w : World) (hn : xs.length = n) (hc : n ≤ c) (hm : n ≤ 100000) (hIt : ItsAt w A xs) (y : Itm) (hy : y = ⟨key, val, Av, cv⟩) :
    Calls Try.prog 11 #[.slice A n c, .agg KL.toArray, .slice Av nv cv] w fun e w' => ∃ v, e = .returned v ∧ IRow w' w.heap.size v (putI key y xs) ∧ Below w.heap.size w w' := by
  obtain ⟨W1, hW1⟩ : ∃ W1, W1 = w.alloc (.cells KL.toArray 23) := ⟨_, rfl⟩
  have hK1 : Arr W1 w.heap.size 23 KL := by rw [hW1]; exact Arr.new w _ _
  have hb1 : Below w.heap.size w W1 := by rw [hW1]; exact (Below.refl _ w).alloc (Nat.le_refl _) _
  have HW1 := Lib.hid hW1
  have HKi := Lib.hid (show (Try.prog.info? 23).map (·.size) = some KL.length by rw [hKL, Lib.byteCells_length, hk]; kernel_rfl)
  have HIt := Lib.hid hIt
  obtain ⟨W2, hW2⟩ : ∃ W2, W2 = W1.alloc (.cells #[] 45) := ⟨_, rfl⟩
  obtain ⟨g2, hg2⟩ : ∃ g2, g2 = W1.heap.size := ⟨_, rfl⟩
  have hO2 : IRow W2 w.heap.size (.slice (some ⟨g2, 0, none⟩) 0 0) (putL key y (xs.take 0)).1 := by rw [hW2, hg2]; exact IRow.empty W1 _ hb1.size
  have hK2 : Arr W2 w.heap.size 23 KL := by rw [hW2]; exact hK1.alloc _
  have hb12 : Below W1.heap.size W1 W2 := by rw [hW2]; exact (Below.refl _ W1).alloc (Nat.le_refl _) _
  have hb2 := hb1.trans (hb12.mono hb1.size)
  obtain ⟨TL, hTL⟩ : ∃ TL, TL = KL ++ [Value.slice Av nv cv] := ⟨_, rfl⟩
  have hTy : TL = itC y := by rw [hTL, hy, hKL, ← hnv]; rfl
  have hyk : y.key.length = 32 := by rw [hy]; exact hk
  have hTl : TL.length = 33 := by rw [hTy, itC_length hyk]
  have HTb := Lib.hid (show Try.prog.built 45 [(0, .agg KL.toArray), (1, .slice Av nv cv)] = some TL.toArray by rw [hTL]; exact it_built key hk KL hKL Av nv cv)
  have HTy := Lib.hid hTy
  have Hyk := Lib.hid hyk
  have HTl := Lib.hid hTl
  have HW2 := Lib.hid hW2
  have Hg2 := Lib.hid hg2
  have Hn := Lib.hid hn
  have HKL := Lib.hid hKL
  clear hW1 hW2 hg2 hKL hn hIt hK1 hb1 hb12 hTL hTy hTl hyk hy hnv
  go_enter Try.func11, Try.ntmps11
  go_upto_region 1 with fail
  change Code.wp _ _ _ _ (w.alloc (.cells KL.toArray 23))
  rw [← HW1.out]
  clear HW1
  go_upto_region 2 with fail
  rw [← Hg2.out]
  change Code.wp _ _ _ _ (W1.alloc (.cells #[] 45))
  rw [← HW2.out]
  clear HW2 Hg2
  go_upto_region 4 with fail
  go_loopw [7, 8, 9] (fun v q s wr => ∃ i : Nat, i ≤ n ∧ s = .int .i64 i ∧ q = .bool (putL key y (xs.take i)).2 ∧ Arr wr w.heap.size 23 KL ∧ Below w.heap.size w wr ∧ IRow wr w.heap.size v (putL key y (xs.take i)).1) (fun _ _ s _ => n - (intOf s).toNat)
  case atStart => exact ⟨0, by omega, rfl, rfl, hK2, hb2, hO2⟩
  case round =>
    clear hK2 hb2 hO2
    obtain ⟨i, hin, rfl, rfl, hKr, hbr, hO⟩ := hrel
    obtain ⟨so, hso⟩ : ∃ s, putL key y (xs.take i) = s := ⟨_, rfl⟩
    rw [hso] at hO ⊢
    obtain ⟨so, dn⟩ := so
    have hslen : so.length ≤ 200000 := by
      have h := putL_len key y (xs.take i) ([], false)
      rw [show (xs.take i).foldl (putS key y) ([], false) = (so, dn) from hso, List.length_take] at h
      simp only [List.length_nil] at h
      omega
    have Hso := Lib.hid hso
    have Hslen := Lib.hid hslen
    simp only at hO ⊢
    clear hso hslen
    by_cases hlt : i < n
    · have hd1 : decide (i < n) = true := by simpa using hlt
      obtain ⟨x, hx⟩ : ∃ x, xs[i]? = some x := ⟨xs[i]'(by rw [Hn.out]; exact hlt), List.getElem?_eq_getElem _⟩
      obtain ⟨b, off, hAe, hbl, hrow⟩ := HIt.out (by rw [Hn.out]; omega)
      obtain ⟨hxk, hrg⟩ := hrow i x hx
      have Hrow := Lib.hid hrow
      have HAe := Lib.hid hAe
      obtain ⟨YL, hYL⟩ : ∃ YL, YL = Lib.byteCells x.key := ⟨_, rfl⟩
      have hrk := ItsAt.key hrg YL hYL
      have HYi := Lib.hid (show (Try.prog.info? 23).map (·.size) = some YL.length by rw [hYL, Lib.byteCells_length, hxk]; kernel_rfl)
      have Hx := Lib.hid hx
      have HYL := Lib.hid hYL
      have Hxk := Lib.hid hxk
      obtain ⟨r0, hr0⟩ : ∃ r0, decide (x.key = key) = r0 := ⟨_, rfl⟩
      have Hcmp := Lib.hid (fun w => digCmpI x.key key hxk hk YL KL hYL HKL.out r0 hr0 w)
      have Hr0 := Lib.hid hr0
      obtain ⟨ls, hls⟩ : ∃ ls, lessF x.key key = ls := ⟨_, rfl⟩
      have Hls := Lib.hid hls
      have hstep : putL key y (xs.take (i + 1)) = (so ++ (if dn = false ∧ ls = false then [y] else []) ++ (if x.key = key then [] else [x]), dn || !ls) := by
        rw [putL_take hx, Hso.out]
        unfold putS
        rw [hls]
      have Hstep := Lib.hid hstep
      obtain ⟨VL, hVL⟩ : ∃ VL, VL = itC x := ⟨_, rfl⟩
      have hVl : VL.length = 33 := by rw [hVL, itC_length hxk]
      have HVi := Lib.hid (show (Try.prog.info? 45).map (·.size) = some VL.length by rw [hVl]; exact itSize)
      rw [← hVL] at hrg
      have HVL := Lib.hid hVL
      have HVl := Lib.hid hVl
      have Hrk : Hid (∀ w', Below w.heap.size w w' → w'.rangeAt b (off + i * 33) YL ∧ w'.rangeAt b (off + i * 33) VL) := fun w' hb' =>
        ⟨fun j v hj => by rw [← hrk j v hj]; exact World.cell?_of_block (hb'.block b hbl), fun j v hj => by rw [← hrg j v hj]; exact World.cell?_of_block (hb'.block b hbl)⟩
      subst hAe
      clear hx hrow hxk hYL hr0 hVL hVl hls hstep hrk hrg
      go_upto_region 6 with fail
      cases dn with
      | true =>
        refine wp_region_held_drew (S := fun w' => True) (by kernel_rfl) trivial (fun hHeld => ?_)
        refine anyH_take (i := 0) (v := .bool true) (some 17) rfl rfl (by kernel_rfl) (by kernel_rfl) (by kernel_rfl) (fun _ _ _ h => h) (Or.inl ⟨by rfl, fun w' hw => by go_simp⟩) (by assumption) ?_
        simp only [Act.put, List.setIfInBounds_toArray, List.set_cons_zero, List.set_cons_succ]
        refine anyH_take (i := 1) (v := .bool false) (some 18) rfl rfl (by kernel_rfl) (by kernel_rfl) (by kernel_rfl) (fun _ _ _ h => h) (Or.inl ⟨by rfl, fun w' hw => by go_simp⟩) (by assumption) ?_
        simp only [Act.put, List.setIfInBounds_toArray, List.set_cons_zero, List.set_cons_succ]
        refine anyH_take (i := 2) (v := .bool false) (some 19) rfl rfl (by kernel_rfl) (by kernel_rfl) (by kernel_rfl) (fun _ _ _ h => h) (Or.inl ⟨by rfl, fun w' hw => by go_simp⟩) (by assumption) ?_
        simp only [Act.put, List.setIfInBounds_toArray, List.set_cons_zero, List.set_cons_succ]
        refine anyH_take (i := 3) (v := undef) (some 20) rfl rfl (by kernel_rfl) (by kernel_rfl) (by kernel_rfl) (fun _ _ _ h => h) (Or.inr ⟨by rfl, rfl⟩) (by assumption) ?_
        simp only [Act.put, List.setIfInBounds_toArray, List.set_cons_zero, List.set_cons_succ]
        refine anyH_take (i := 4) (v := undef) (some 21) rfl rfl (by kernel_rfl) (by kernel_rfl) (by kernel_rfl) (fun _ _ _ h => h) (Or.inr ⟨by rfl, rfl⟩) (by assumption) ?_
        simp only [Act.put, List.setIfInBounds_toArray, List.set_cons_zero, List.set_cons_succ]
        refine anyH_take (i := 5) (v := undef) (some 22) rfl rfl (by kernel_rfl) (by kernel_rfl) (by kernel_rfl) (fun _ _ _ h => h) (Or.inr ⟨by rfl, rfl⟩) (by assumption) ?_
        simp only [Act.put, List.setIfInBounds_toArray, List.set_cons_zero, List.set_cons_succ]
        refine anyH_take (i := 6) (v := undef) (some 23) rfl rfl (by kernel_rfl) (by kernel_rfl) (by kernel_rfl) (fun _ _ _ h => h) (Or.inr ⟨by rfl, rfl⟩) (by assumption) ?_
        simp only [Act.put, List.setIfInBounds_toArray, List.set_cons_zero, List.set_cons_succ]
        refine anyH_take (i := 7) (v := undef) (some 24) rfl rfl (by kernel_rfl) (by kernel_rfl) (by kernel_rfl) (fun _ _ _ h => h) (Or.inr ⟨by rfl, rfl⟩) (by assumption) ?_
        simp only [Act.put, List.setIfInBounds_toArray, List.set_cons_zero, List.set_cons_succ]
        refine anyH_take (i := 8) (v := undef) (some 25) rfl rfl (by kernel_rfl) (by kernel_rfl) (by kernel_rfl) (fun _ _ _ h => h) (Or.inr ⟨by rfl, rfl⟩) (by assumption) ?_
        simp only [Act.put, List.setIfInBounds_toArray, List.set_cons_zero, List.set_cons_succ]
        refine anyH_take (i := 9) (v := undef) (some 26) rfl rfl (by kernel_rfl) (by kernel_rfl) (by kernel_rfl) (fun _ _ _ h => h) (Or.inr ⟨by rfl, rfl⟩) (by assumption) ?_
        simp only [Act.put, List.setIfInBounds_toArray, List.set_cons_zero, List.set_cons_succ]
        refine anyH_take (i := 10) (v := undef) (some 27) rfl rfl (by kernel_rfl) (by kernel_rfl) (by kernel_rfl) (fun _ _ _ h => h) (Or.inr ⟨by rfl, rfl⟩) (by assumption) ?_
        simp only [Act.put, List.setIfInBounds_toArray, List.set_cons_zero, List.set_cons_succ]
        refine anyH_take (i := 11) (v := .bool false) (some 28) rfl rfl (by kernel_rfl) (by kernel_rfl) (by kernel_rfl) (fun _ _ _ h => h) (Or.inl ⟨by rfl, fun w' hw => by go_simp⟩) (by assumption) ?_
        simp only [Act.put, List.setIfInBounds_toArray, List.set_cons_zero, List.set_cons_succ]
        refine wpAnyH_done (by kernel_rfl) ?_ _
        clear hHeld
        obtain ⟨wq, hwq⟩ : ∃ W, W = wr.drew := ⟨_, rfl⟩
        rw [← hwq]
        have hKq : Arr wq w.heap.size 23 KL := by rw [hwq]; exact hKr
        have hbq : Below w.heap.size w wq := by rw [hwq]; exact Below.dN hbr 1
        have hOq := hO.up (Below.dN (Below.refl wr.heap.size wr) 1)
        rw [show wr.drewN 1 = wq from hwq.symm] at hOq
        have hbrq : Below wr.heap.size wr wq := by rw [hwq]; exact Below.dN (Below.refl _ wr) 1
        have hsl : so.length ≤ 300000 := by have := Hslen.out; omega
        have hst1 : putL key y (xs.take (i + 1)) = (so ++ (if x.key = key then [] else [x]), true) := by rw [Hstep.out]; simp
        have Hst1 := Lib.hid hst1
        clear hwq hKr hbr hO hst1
        go_upto_region 9 with fail
        refine wp_region_held_drew (S := fun w' => Arr w' w.heap.size 23 KL ∧ w'.rangeAt b (off + i * 33) YL) (by kernel_rfl) ⟨hKq.drewN 1, (Hrk.out _ hbq).1⟩ (fun hHeld => ?_)
        refine anyH_take (i := 0) (v := .slice (some ⟨b, off, none⟩) n c) (some 35) rfl rfl (by kernel_rfl) (by kernel_rfl) (by kernel_rfl) (fun _ _ _ h => h) (Or.inl ⟨by rfl, fun w' hw => by go_simp⟩) (by assumption) ?_
        simp only [Act.put, List.setIfInBounds_toArray, List.set_cons_zero, List.set_cons_succ]
        refine anyH_take (i := 1) (v := .int .i64 (i : Nat)) (some 36) rfl rfl (by kernel_rfl) (by kernel_rfl) (by kernel_rfl) (fun _ _ _ h => h) (Or.inl ⟨by rfl, fun w' hw => by go_simp⟩) (by assumption) ?_
        simp only [Act.put, List.setIfInBounds_toArray, List.set_cons_zero, List.set_cons_succ]
        refine anyH_take (i := 2) (v := .pointer (some ⟨b, off + i * 33, none⟩)) (some 37) rfl rfl (by kernel_rfl) (by kernel_rfl) (by kernel_rfl) (fun _ _ _ h => h) (Or.inl ⟨by rfl, fun w' hw => by (go_simp; try (intro h; omega))⟩) (by assumption) ?_
        simp only [Act.put, List.setIfInBounds_toArray, List.set_cons_zero, List.set_cons_succ]
        refine anyH_take (i := 3) (v := .pointer (some ⟨b, off + i * 33, none⟩)) (some 38) rfl rfl (by kernel_rfl) (by kernel_rfl) (by kernel_rfl) (fun _ _ _ h => h) (Or.inl ⟨by rfl, fun w' hw => by go_simp⟩) (by assumption) ?_
        simp only [Act.put, List.setIfInBounds_toArray, List.set_cons_zero, List.set_cons_succ]
        refine anyH_take (i := 4) (some 39) rfl rfl (by kernel_rfl) (by kernel_rfl) (by kernel_rfl) (fun _ _ _ h => h) (yieldsIf_load_mid (by rfl) 23 (.tmp 38) rfl b (off + i * 33) rfl YL _ (fun w' h => h.2) Try.underlying23 rfl HYi.out) (by assumption) ?_
        simp only [Act.put, List.setIfInBounds_toArray, List.set_cons_zero, List.set_cons_succ]
        refine anyH_take (i := 5) (some 40) rfl rfl (by kernel_rfl) (by kernel_rfl) (by kernel_rfl) (fun _ _ _ h => h) (yieldsIf_load_mid (by rfl) 23 (.tmp 4) rfl w.heap.size 0 rfl KL _ (fun w' h => h.1.range) Try.underlying23 rfl HKi.out) (by assumption) ?_
        simp only [Act.put, List.setIfInBounds_toArray, List.set_cons_zero, List.set_cons_succ]
        cases r0 with
        | true =>
          refine anyH_take (i := 6) (v := .bool false) (some 41) rfl rfl (by kernel_rfl) (by kernel_rfl) (by kernel_rfl) (fun _ _ _ h => h) (Or.inl ⟨by rfl, fun w' hw => by (have hc := Hcmp.out; have hg := gt32I; go_simp)⟩) (by assumption) ?_
          simp only [Act.put, List.setIfInBounds_toArray, List.set_cons_zero, List.set_cons_succ]
          refine wpAnyH_done (by kernel_rfl) ?_ _
          clear hHeld
          have hq : x.key = key := by simpa using Hr0.out
          have hst := Hst1.out
          rw [if_pos hq, List.append_nil] at hst
          have hO' := hOq.up (Below.dN (Below.refl wq.heap.size wq) 1)
          have Hst := Lib.hid hst
          clear hst hq
          go_wp2_with fail
          go_roundw
          case rel => exact ⟨i + 1, by omega, by go_num, by rw [Hst.out], hKq.drewN 1, Below.dN hbq 1, by rw [Hst.out]; exact hO'⟩
          case measure => simp [intOf]; omega
        | false =>
          refine anyH_take (i := 6) (v := .bool true) (some 41) rfl rfl (by kernel_rfl) (by kernel_rfl) (by kernel_rfl) (fun _ _ _ h => h) (Or.inl ⟨by rfl, fun w' hw => by (have hc := Hcmp.out; have hg := gt32I; go_simp)⟩) (by assumption) ?_
          simp only [Act.put, List.setIfInBounds_toArray, List.set_cons_zero, List.set_cons_succ]
          refine wpAnyH_done (by kernel_rfl) ?_ _
          clear hHeld
          have hq : x.key ≠ key := by simpa using Hr0.out
          have hst := Hst1.out
          rw [if_neg hq] at hst
          have Hst := Lib.hid hst
          clear hst hq
          obtain ⟨wx, hwx⟩ : ∃ wx, wx = wq.drew := ⟨_, rfl⟩
          rw [← hwx]
          have hKx : Arr wx w.heap.size 23 KL := by rw [hwx]; exact hKq
          have hbx : Below w.heap.size w wx := by rw [hwx]; exact Below.dN hbq 1
          have hOx := hOq.up (Below.dN (Below.refl wq.heap.size wq) 1)
          rw [show wq.drewN 1 = wx from hwx.symm] at hOx
          have hrgx : wx.rangeAt b (off + i * 33) VL := by rw [hwx]; exact (Hrk.out _ hbq).2
          have Hlen : Hid ((so).length ≤ 1000000) := by show _ ≤ _; have := Hslen.out; first | omega | (simp only [List.length_append, List.length_cons, List.length_nil]; omega)
          clear hwx
          obtain ⟨wl, hwl⟩ : ∃ W, W = wx.alloc (.cells VL.toArray 45) := ⟨_, rfl⟩
          have hVg : Arr wl wx.heap.size 45 VL := by rw [hwl]; exact Arr.new wx _ _
          have hblx : Below wx.heap.size wx wl := by rw [hwl]; exact (Below.refl _ wx).alloc (Nat.le_refl _) _
          have hOl := hOx.up hblx
          have Hwl := Lib.hid hwl
          clear hwl hOx
          go_wp2_with (first
            | (refine wpList_load_mid rfl _ _ rfl b (off + i * 33) rfl VL _ hrgx Try.underlying45 rfl HVi.out ?_)
            | (refine wpList_build_it rfl _ rfl VL HVl.out rfl ?_; rw [← Hwl.out])
            | (at_builtin; refine wpList_append_it rfl _ _ rfl hOl (Nat.le_trans hbx.size hblx.size) rfl wx.heap.size 1 rfl x Hxk.out VL HVL.out hVg Hlen.out ?_; intro v' w3 hO3 hg3; have hlt1 : ∀ k, Value.ownBlock _ = some k → w.heap.size ≤ k ∧ k < wl.heap.size := hOl.lt))
          have hb3 : Below w.heap.size w w3 := hbx.trans ((hblx.mono hbx.size).trans ((Below.refl _ _).grown hg3 (Nat.le_trans hbx.size hblx.size) (fun k hk => (hOl.lt k hk).1)))
          have hK3 : Arr w3 w.heap.size 23 KL := (hg3.block w.heap.size (hKx.up hblx).lt (fun e => hOl.apartI (hKx.up hblx) (by decide) _ e.symm rfl)).trans (hKx.up hblx)
          rw [show so ++ [x] = (putL key y (xs.take (i + 1))).1 by rw [Hst.out]] at hO3
          go_roundw
          case rel => exact ⟨i + 1, by omega, by go_num, by rw [Hst.out], hK3, hb3, hO3⟩
          case measure => simp [intOf]; omega
      | false =>
        refine wp_region_held_drew (S := fun w' => Arr w' w.heap.size 23 KL ∧ w'.rangeAt b (off + i * 33) YL) (by kernel_rfl) ⟨hKr.drewN 1, (Hrk.out _ (Below.dN hbr 1)).1⟩ (fun hHeld => ?_)
        refine anyH_take (i := 0) (v := .bool false) (some 17) rfl rfl (by kernel_rfl) (by kernel_rfl) (by kernel_rfl) (fun _ _ _ h => h) (Or.inl ⟨by rfl, fun w' hw => by go_simp⟩) (by assumption) ?_
        simp only [Act.put, List.setIfInBounds_toArray, List.set_cons_zero, List.set_cons_succ]
        refine anyH_take (i := 1) (v := .bool true) (some 18) rfl rfl (by kernel_rfl) (by kernel_rfl) (by kernel_rfl) (fun _ _ _ h => h) (Or.inl ⟨by rfl, fun w' hw => by go_simp⟩) (by assumption) ?_
        simp only [Act.put, List.setIfInBounds_toArray, List.set_cons_zero, List.set_cons_succ]
        refine anyH_take (i := 2) (v := .bool true) (some 19) rfl rfl (by kernel_rfl) (by kernel_rfl) (by kernel_rfl) (fun _ _ _ h => h) (Or.inl ⟨by rfl, fun w' hw => by go_simp⟩) (by assumption) ?_
        simp only [Act.put, List.setIfInBounds_toArray, List.set_cons_zero, List.set_cons_succ]
        refine anyH_take (i := 3) (v := .slice (some ⟨b, off, none⟩) n c) (some 20) rfl rfl (by kernel_rfl) (by kernel_rfl) (by kernel_rfl) (fun _ _ _ h => h) (Or.inl ⟨by rfl, fun w' hw => by go_simp⟩) (by assumption) ?_
        simp only [Act.put, List.setIfInBounds_toArray, List.set_cons_zero, List.set_cons_succ]
        refine anyH_take (i := 4) (v := .int .i64 (i : Nat)) (some 21) rfl rfl (by kernel_rfl) (by kernel_rfl) (by kernel_rfl) (fun _ _ _ h => h) (Or.inl ⟨by rfl, fun w' hw => by go_simp⟩) (by assumption) ?_
        simp only [Act.put, List.setIfInBounds_toArray, List.set_cons_zero, List.set_cons_succ]
        refine anyH_take (i := 5) (v := .pointer (some ⟨b, off + i * 33, none⟩)) (some 22) rfl rfl (by kernel_rfl) (by kernel_rfl) (by kernel_rfl) (fun _ _ _ h => h) (Or.inl ⟨by rfl, fun w' hw => by (go_simp; try (intro h; omega))⟩) (by assumption) ?_
        simp only [Act.put, List.setIfInBounds_toArray, List.set_cons_zero, List.set_cons_succ]
        refine anyH_take (i := 6) (v := .pointer (some ⟨b, off + i * 33, none⟩)) (some 23) rfl rfl (by kernel_rfl) (by kernel_rfl) (by kernel_rfl) (fun _ _ _ h => h) (Or.inl ⟨by rfl, fun w' hw => by go_simp⟩) (by assumption) ?_
        simp only [Act.put, List.setIfInBounds_toArray, List.set_cons_zero, List.set_cons_succ]
        refine anyH_take (i := 7) (some 24) rfl rfl (by kernel_rfl) (by kernel_rfl) (by kernel_rfl) (fun _ _ _ h => h) (yieldsIf_load_mid (by rfl) 23 (.tmp 23) rfl b (off + i * 33) rfl YL _ (fun w' h => h.2) Try.underlying23 rfl HYi.out) (by assumption) ?_
        simp only [Act.put, List.setIfInBounds_toArray, List.set_cons_zero, List.set_cons_succ]
        refine anyH_take (i := 8) (some 25) rfl rfl (by kernel_rfl) (by kernel_rfl) (by kernel_rfl) (fun _ _ _ h => h) (yieldsIf_load_mid (by rfl) 23 (.tmp 4) rfl w.heap.size 0 rfl KL _ (fun w' h => h.1.range) Try.underlying23 rfl HKi.out) (by assumption) ?_
        simp only [Act.put, List.setIfInBounds_toArray, List.set_cons_zero, List.set_cons_succ]
        refine wpAnyH_ready (rs := [9]) (by kernel_rfl) (by simp) ?_
        refine AllReadyH.cons rfl (fun K hK => ?_) AllReadyH.nil
        go_simp
        go_at_call 22
        refine Calls.mono (less_run x.key key Hxk.out hk YL KL HYL.out HKL.out ls Hls.out (wr.drewN 1)) ?_
        rintro e wq ⟨rfl, hbrq'⟩
        have hbrq : Below wr.heap.size wr wq := ⟨hbrq'.os, hbrq'.tape, hbrq'.output, hbrq'.size, hbrq'.block⟩
        have hKq := hKr.up hbrq
        have hbq : Below w.heap.size w wq := hbr.trans (hbrq.mono hbr.size)
        have hOq := hO.up hbrq
        clear hbrq' hKr hbr hO
        dsimp only
        go_wp2_with fail
        refine hK.out _ _ ⟨hKq, (Hrk.out _ hbq).1⟩ (fun hHeldx => ?_)
        clear hK K
        try simp only [Act.put, List.setIfInBounds_toArray, List.set_cons_zero, List.set_cons_succ]
        cases ls with
        | true =>
          refine anyH_take (i := 10) (v := .bool false) (some 27) rfl rfl (by kernel_rfl) (by kernel_rfl) (by kernel_rfl) (fun _ _ _ h => h) (Or.inl ⟨by rfl, fun w' hw => by go_simp⟩) (by assumption) ?_
          simp only [Act.put, List.setIfInBounds_toArray, List.set_cons_zero, List.set_cons_succ]
          refine anyH_take (i := 11) (v := .bool false) (some 28) rfl rfl (by kernel_rfl) (by kernel_rfl) (by kernel_rfl) (fun _ _ _ h => h) (Or.inl ⟨by rfl, fun w' hw => by go_simp⟩) (by assumption) ?_
          simp only [Act.put, List.setIfInBounds_toArray, List.set_cons_zero, List.set_cons_succ]
          refine wpAnyH_done (by kernel_rfl) ?_ _
          clear hHeld hHeldx
          have hsl : so.length ≤ 300000 := by have := Hslen.out; omega
          have hst1 : putL key y (xs.take (i + 1)) = (so ++ (if x.key = key then [] else [x]), false) := by rw [Hstep.out]; simp
          have Hst1 := Lib.hid hst1
          clear hst1
          go_upto_region 9 with fail
          refine wp_region_held_drew (S := fun w' => Arr w' w.heap.size 23 KL ∧ w'.rangeAt b (off + i * 33) YL) (by kernel_rfl) ⟨hKq.drewN 1, (Hrk.out _ hbq).1⟩ (fun hHeld => ?_)
          refine anyH_take (i := 0) (v := .slice (some ⟨b, off, none⟩) n c) (some 35) rfl rfl (by kernel_rfl) (by kernel_rfl) (by kernel_rfl) (fun _ _ _ h => h) (Or.inl ⟨by rfl, fun w' hw => by go_simp⟩) (by assumption) ?_
          simp only [Act.put, List.setIfInBounds_toArray, List.set_cons_zero, List.set_cons_succ]
          refine anyH_take (i := 1) (v := .int .i64 (i : Nat)) (some 36) rfl rfl (by kernel_rfl) (by kernel_rfl) (by kernel_rfl) (fun _ _ _ h => h) (Or.inl ⟨by rfl, fun w' hw => by go_simp⟩) (by assumption) ?_
          simp only [Act.put, List.setIfInBounds_toArray, List.set_cons_zero, List.set_cons_succ]
          refine anyH_take (i := 2) (v := .pointer (some ⟨b, off + i * 33, none⟩)) (some 37) rfl rfl (by kernel_rfl) (by kernel_rfl) (by kernel_rfl) (fun _ _ _ h => h) (Or.inl ⟨by rfl, fun w' hw => by (go_simp; try (intro h; omega))⟩) (by assumption) ?_
          simp only [Act.put, List.setIfInBounds_toArray, List.set_cons_zero, List.set_cons_succ]
          refine anyH_take (i := 3) (v := .pointer (some ⟨b, off + i * 33, none⟩)) (some 38) rfl rfl (by kernel_rfl) (by kernel_rfl) (by kernel_rfl) (fun _ _ _ h => h) (Or.inl ⟨by rfl, fun w' hw => by go_simp⟩) (by assumption) ?_
          simp only [Act.put, List.setIfInBounds_toArray, List.set_cons_zero, List.set_cons_succ]
          refine anyH_take (i := 4) (some 39) rfl rfl (by kernel_rfl) (by kernel_rfl) (by kernel_rfl) (fun _ _ _ h => h) (yieldsIf_load_mid (by rfl) 23 (.tmp 38) rfl b (off + i * 33) rfl YL _ (fun w' h => h.2) Try.underlying23 rfl HYi.out) (by assumption) ?_
          simp only [Act.put, List.setIfInBounds_toArray, List.set_cons_zero, List.set_cons_succ]
          refine anyH_take (i := 5) (some 40) rfl rfl (by kernel_rfl) (by kernel_rfl) (by kernel_rfl) (fun _ _ _ h => h) (yieldsIf_load_mid (by rfl) 23 (.tmp 4) rfl w.heap.size 0 rfl KL _ (fun w' h => h.1.range) Try.underlying23 rfl HKi.out) (by assumption) ?_
          simp only [Act.put, List.setIfInBounds_toArray, List.set_cons_zero, List.set_cons_succ]
          cases r0 with
          | true =>
            refine anyH_take (i := 6) (v := .bool false) (some 41) rfl rfl (by kernel_rfl) (by kernel_rfl) (by kernel_rfl) (fun _ _ _ h => h) (Or.inl ⟨by rfl, fun w' hw => by (have hc := Hcmp.out; have hg := gt32I; go_simp)⟩) (by assumption) ?_
            simp only [Act.put, List.setIfInBounds_toArray, List.set_cons_zero, List.set_cons_succ]
            refine wpAnyH_done (by kernel_rfl) ?_ _
            clear hHeld
            have hq : x.key = key := by simpa using Hr0.out
            have hst := Hst1.out
            rw [if_pos hq, List.append_nil] at hst
            have hO' := hOq.up (Below.dN (Below.refl wq.heap.size wq) 1)
            have Hst := Lib.hid hst
            clear hst hq
            go_wp2_with fail
            go_roundw
            case rel => exact ⟨i + 1, by omega, by go_num, by rw [Hst.out], hKq.drewN 1, Below.dN hbq 1, by rw [Hst.out]; exact hO'⟩
            case measure => simp [intOf]; omega
          | false =>
            refine anyH_take (i := 6) (v := .bool true) (some 41) rfl rfl (by kernel_rfl) (by kernel_rfl) (by kernel_rfl) (fun _ _ _ h => h) (Or.inl ⟨by rfl, fun w' hw => by (have hc := Hcmp.out; have hg := gt32I; go_simp)⟩) (by assumption) ?_
            simp only [Act.put, List.setIfInBounds_toArray, List.set_cons_zero, List.set_cons_succ]
            refine wpAnyH_done (by kernel_rfl) ?_ _
            clear hHeld
            have hq : x.key ≠ key := by simpa using Hr0.out
            have hst := Hst1.out
            rw [if_neg hq] at hst
            have Hst := Lib.hid hst
            clear hst hq
            obtain ⟨wx, hwx⟩ : ∃ wx, wx = wq.drew := ⟨_, rfl⟩
            rw [← hwx]
            have hKx : Arr wx w.heap.size 23 KL := by rw [hwx]; exact hKq
            have hbx : Below w.heap.size w wx := by rw [hwx]; exact Below.dN hbq 1
            have hOx := hOq.up (Below.dN (Below.refl wq.heap.size wq) 1)
            rw [show wq.drewN 1 = wx from hwx.symm] at hOx
            have hrgx : wx.rangeAt b (off + i * 33) VL := by rw [hwx]; exact (Hrk.out _ hbq).2
            have Hlen : Hid ((so).length ≤ 1000000) := by show _ ≤ _; have := Hslen.out; first | omega | (simp only [List.length_append, List.length_cons, List.length_nil]; omega)
            clear hwx
            obtain ⟨wl, hwl⟩ : ∃ W, W = wx.alloc (.cells VL.toArray 45) := ⟨_, rfl⟩
            have hVg : Arr wl wx.heap.size 45 VL := by rw [hwl]; exact Arr.new wx _ _
            have hblx : Below wx.heap.size wx wl := by rw [hwl]; exact (Below.refl _ wx).alloc (Nat.le_refl _) _
            have hOl := hOx.up hblx
            have Hwl := Lib.hid hwl
            clear hwl hOx
            go_wp2_with (first
              | (refine wpList_load_mid rfl _ _ rfl b (off + i * 33) rfl VL _ hrgx Try.underlying45 rfl HVi.out ?_)
              | (refine wpList_build_it rfl _ rfl VL HVl.out rfl ?_; rw [← Hwl.out])
              | (at_builtin; refine wpList_append_it rfl _ _ rfl hOl (Nat.le_trans hbx.size hblx.size) rfl wx.heap.size 1 rfl x Hxk.out VL HVL.out hVg Hlen.out ?_; intro v' w3 hO3 hg3; have hlt1 : ∀ k, Value.ownBlock _ = some k → w.heap.size ≤ k ∧ k < wl.heap.size := hOl.lt))
            have hb3 : Below w.heap.size w w3 := hbx.trans ((hblx.mono hbx.size).trans ((Below.refl _ _).grown hg3 (Nat.le_trans hbx.size hblx.size) (fun k hk => (hOl.lt k hk).1)))
            have hK3 : Arr w3 w.heap.size 23 KL := (hg3.block w.heap.size (hKx.up hblx).lt (fun e => hOl.apartI (hKx.up hblx) (by decide) _ e.symm rfl)).trans (hKx.up hblx)
            rw [show so ++ [x] = (putL key y (xs.take (i + 1))).1 by rw [Hst.out]] at hO3
            go_roundw
            case rel => exact ⟨i + 1, by omega, by go_num, by rw [Hst.out], hK3, hb3, hO3⟩
            case measure => simp [intOf]; omega
        | false =>
          refine anyH_take (i := 10) (v := .bool true) (some 27) rfl rfl (by kernel_rfl) (by kernel_rfl) (by kernel_rfl) (fun _ _ _ h => h) (Or.inl ⟨by rfl, fun w' hw => by go_simp⟩) (by assumption) ?_
          simp only [Act.put, List.setIfInBounds_toArray, List.set_cons_zero, List.set_cons_succ]
          refine anyH_take (i := 11) (v := .bool true) (some 28) rfl rfl (by kernel_rfl) (by kernel_rfl) (by kernel_rfl) (fun _ _ _ h => h) (Or.inl ⟨by rfl, fun w' hw => by go_simp⟩) (by assumption) ?_
          simp only [Act.put, List.setIfInBounds_toArray, List.set_cons_zero, List.set_cons_succ]
          refine wpAnyH_done (by kernel_rfl) ?_ _
          clear hHeld hHeldx
          have hst1 : putL key y (xs.take (i + 1)) = ((so ++ [y]) ++ (if x.key = key then [] else [x]), true) := by rw [Hstep.out]; simp
          have Hst1 := Lib.hid hst1
          have hlen1 : so.length ≤ 1000000 := by have := Hslen.out; omega
          have Hlen1 := Lib.hid hlen1
          clear hst1 hlen1
          obtain ⟨wl, hwl⟩ : ∃ W, W = wq.alloc (.cells TL.toArray 45) := ⟨_, rfl⟩
          have hVg : Arr wl wq.heap.size 45 TL := by rw [hwl]; exact Arr.new wq _ _
          have hblq : Below wq.heap.size wq wl := by rw [hwl]; exact (Below.refl _ wq).alloc (Nat.le_refl _) _
          have hOl := hOq.up hblq
          have Hwl := Lib.hid hwl
          have hki := hKq.range
          clear hwl hOq
          go_upto_region 9 with (first
            | (refine wpList_load_mid rfl _ _ rfl w.heap.size 0 rfl KL _ hki Try.underlying23 rfl HKi.out ?_)
            | (refine wpList_builtP8 rfl _ _ rfl [(0, .agg KL.toArray), (1, .slice Av nv cv)] rfl TL.toArray HTb.out ?_)
            | (refine wpList_build_it rfl _ rfl TL HTl.out rfl ?_; rw [← Hwl.out])
            | (at_builtin; refine wpList_append_it rfl _ _ rfl hOl (Nat.le_trans hbq.size hblq.size) rfl wq.heap.size 1 rfl y Hyk.out TL HTy.out hVg Hlen1.out ?_; intro v1 w1 hO1 hg1))
          have hb1 : Below w.heap.size w w1 := hbq.trans ((hblq.mono hbq.size).trans ((Below.refl _ _).grown hg1 (Nat.le_trans hbq.size hblq.size) (fun k hk => (hOl.lt k hk).1)))
          have hK1 : Arr w1 w.heap.size 23 KL := (hg1.block w.heap.size (hKq.up hblq).lt (fun e => hOl.apartI (hKq.up hblq) (by decide) _ e.symm rfl)).trans (hKq.up hblq)
          have hrw1 : w1.rangeAt b (off + i * 33) YL ∧ w1.rangeAt b (off + i * 33) VL := Hrk.out _ hb1
          clear hVg hblq hOl Hwl hki hg1
          go_upto_region 9 with fail
          refine wp_region_held_drew (S := fun w' => Arr w' w.heap.size 23 KL ∧ w'.rangeAt b (off + i * 33) YL) (by kernel_rfl) ⟨hK1.drewN 1, hrw1.1⟩ (fun hHeld => ?_)
          refine anyH_take (i := 0) (v := .slice (some ⟨b, off, none⟩) n c) (some 35) rfl rfl (by kernel_rfl) (by kernel_rfl) (by kernel_rfl) (fun _ _ _ h => h) (Or.inl ⟨by rfl, fun w' hw => by go_simp⟩) (by assumption) ?_
          simp only [Act.put, List.setIfInBounds_toArray, List.set_cons_zero, List.set_cons_succ]
          refine anyH_take (i := 1) (v := .int .i64 (i : Nat)) (some 36) rfl rfl (by kernel_rfl) (by kernel_rfl) (by kernel_rfl) (fun _ _ _ h => h) (Or.inl ⟨by rfl, fun w' hw => by go_simp⟩) (by assumption) ?_
          simp only [Act.put, List.setIfInBounds_toArray, List.set_cons_zero, List.set_cons_succ]
          refine anyH_take (i := 2) (v := .pointer (some ⟨b, off + i * 33, none⟩)) (some 37) rfl rfl (by kernel_rfl) (by kernel_rfl) (by kernel_rfl) (fun _ _ _ h => h) (Or.inl ⟨by rfl, fun w' hw => by (go_simp; try (intro h; omega))⟩) (by assumption) ?_
          simp only [Act.put, List.setIfInBounds_toArray, List.set_cons_zero, List.set_cons_succ]
          refine anyH_take (i := 3) (v := .pointer (some ⟨b, off + i * 33, none⟩)) (some 38) rfl rfl (by kernel_rfl) (by kernel_rfl) (by kernel_rfl) (fun _ _ _ h => h) (Or.inl ⟨by rfl, fun w' hw => by go_simp⟩) (by assumption) ?_
          simp only [Act.put, List.setIfInBounds_toArray, List.set_cons_zero, List.set_cons_succ]
          refine anyH_take (i := 4) (some 39) rfl rfl (by kernel_rfl) (by kernel_rfl) (by kernel_rfl) (fun _ _ _ h => h) (yieldsIf_load_mid (by rfl) 23 (.tmp 38) rfl b (off + i * 33) rfl YL _ (fun w' h => h.2) Try.underlying23 rfl HYi.out) (by assumption) ?_
          simp only [Act.put, List.setIfInBounds_toArray, List.set_cons_zero, List.set_cons_succ]
          refine anyH_take (i := 5) (some 40) rfl rfl (by kernel_rfl) (by kernel_rfl) (by kernel_rfl) (fun _ _ _ h => h) (yieldsIf_load_mid (by rfl) 23 (.tmp 4) rfl w.heap.size 0 rfl KL _ (fun w' h => h.1.range) Try.underlying23 rfl HKi.out) (by assumption) ?_
          simp only [Act.put, List.setIfInBounds_toArray, List.set_cons_zero, List.set_cons_succ]
          cases r0 with
          | true =>
            refine anyH_take (i := 6) (v := .bool false) (some 41) rfl rfl (by kernel_rfl) (by kernel_rfl) (by kernel_rfl) (fun _ _ _ h => h) (Or.inl ⟨by rfl, fun w' hw => by (have hc := Hcmp.out; have hg := gt32I; go_simp)⟩) (by assumption) ?_
            simp only [Act.put, List.setIfInBounds_toArray, List.set_cons_zero, List.set_cons_succ]
            refine wpAnyH_done (by kernel_rfl) ?_ _
            clear hHeld
            have hq : x.key = key := by simpa using Hr0.out
            have hst := Hst1.out
            rw [if_pos hq, List.append_nil] at hst
            have hO' := hO1.up (Below.dN (Below.refl w1.heap.size w1) 1)
            have Hst := Lib.hid hst
            clear hst hq
            go_wp2_with fail
            go_roundw
            case rel => exact ⟨i + 1, by omega, by go_num, by rw [Hst.out], hK1.drewN 1, Below.dN hb1 1, by rw [Hst.out]; exact hO'⟩
            case measure => simp [intOf]; omega
          | false =>
            refine anyH_take (i := 6) (v := .bool true) (some 41) rfl rfl (by kernel_rfl) (by kernel_rfl) (by kernel_rfl) (fun _ _ _ h => h) (Or.inl ⟨by rfl, fun w' hw => by (have hc := Hcmp.out; have hg := gt32I; go_simp)⟩) (by assumption) ?_
            simp only [Act.put, List.setIfInBounds_toArray, List.set_cons_zero, List.set_cons_succ]
            refine wpAnyH_done (by kernel_rfl) ?_ _
            clear hHeld
            have hq : x.key ≠ key := by simpa using Hr0.out
            have hst := Hst1.out
            rw [if_neg hq] at hst
            have Hst := Lib.hid hst
            clear hst hq
            obtain ⟨wx, hwx⟩ : ∃ wx, wx = w1.drew := ⟨_, rfl⟩
            rw [← hwx]
            have hKx : Arr wx w.heap.size 23 KL := by rw [hwx]; exact hK1
            have hbx : Below w.heap.size w wx := by rw [hwx]; exact Below.dN hb1 1
            have hOx := hO1.up (Below.dN (Below.refl w1.heap.size w1) 1)
            rw [show w1.drewN 1 = wx from hwx.symm] at hOx
            have hrgx : wx.rangeAt b (off + i * 33) VL := by rw [hwx]; exact hrw1.2
            have Hlen : Hid (((so ++ [y])).length ≤ 1000000) := by show _ ≤ _; have := Hslen.out; first | omega | (simp only [List.length_append, List.length_cons, List.length_nil]; omega)
            clear hwx
            obtain ⟨wl, hwl⟩ : ∃ W, W = wx.alloc (.cells VL.toArray 45) := ⟨_, rfl⟩
            have hVg : Arr wl wx.heap.size 45 VL := by rw [hwl]; exact Arr.new wx _ _
            have hblx : Below wx.heap.size wx wl := by rw [hwl]; exact (Below.refl _ wx).alloc (Nat.le_refl _) _
            have hOl := hOx.up hblx
            have Hwl := Lib.hid hwl
            clear hwl hOx
            go_wp2_with (first
              | (refine wpList_load_mid rfl _ _ rfl b (off + i * 33) rfl VL _ hrgx Try.underlying45 rfl HVi.out ?_)
              | (refine wpList_build_it rfl _ rfl VL HVl.out rfl ?_; rw [← Hwl.out])
              | (at_builtin; refine wpList_append_it rfl _ _ rfl hOl (Nat.le_trans hbx.size hblx.size) rfl wx.heap.size 1 rfl x Hxk.out VL HVL.out hVg Hlen.out ?_; intro v' w3 hO3 hg3; have hlt1 : ∀ k, Value.ownBlock _ = some k → w.heap.size ≤ k ∧ k < wl.heap.size := hOl.lt))
            have hb3 : Below w.heap.size w w3 := hbx.trans ((hblx.mono hbx.size).trans ((Below.refl _ _).grown hg3 (Nat.le_trans hbx.size hblx.size) (fun k hk => (hOl.lt k hk).1)))
            have hK3 : Arr w3 w.heap.size 23 KL := (hg3.block w.heap.size (hKx.up hblx).lt (fun e => hOl.apartI (hKx.up hblx) (by decide) _ e.symm rfl)).trans (hKx.up hblx)
            rw [show (so ++ [y]) ++ [x] = (putL key y (xs.take (i + 1))).1 by rw [Hst.out]] at hO3
            go_roundw
            case rel => exact ⟨i + 1, by omega, by go_num, by rw [Hst.out], hK3, hb3, hO3⟩
            case measure => simp [intOf]; omega
    · obtain rfl : i = n := by omega
      have hd1 : decide (i < i) = false := by simp
      have hx := Hso.out
      rw [List.take_of_length_le (by rw [Hn.out]; exact Nat.le_refl _)] at hx
      cases dn with
      | true =>
        have Hres : Hid (putI key y xs = so) := by show _ = _; unfold putI; rw [hx]; rfl
        clear hx
        go_wp2_with fail
        go_ret
        exact ⟨_, rfl, by rw [Hres.out]; exact hO, hbr⟩
      | false =>
        have Hres : Hid (putI key y xs = so ++ [y]) := by show _ = _; unfold putI; rw [hx]; rfl
        have Hlen1 : Hid (so.length ≤ 1000000) := by show _ ≤ _; have := Hslen.out; omega
        clear hx
        obtain ⟨wl, hwl⟩ : ∃ W, W = wr.alloc (.cells TL.toArray 45) := ⟨_, rfl⟩
        have hVg : Arr wl wr.heap.size 45 TL := by rw [hwl]; exact Arr.new wr _ _
        have hblq : Below wr.heap.size wr wl := by rw [hwl]; exact (Below.refl _ wr).alloc (Nat.le_refl _) _
        have hOl := hO.up hblq
        have Hwl := Lib.hid hwl
        have hki := hKr.range
        clear hwl hO
        go_wp2_with (first
          | (refine wpList_load_mid rfl _ _ rfl w.heap.size 0 rfl KL _ hki Try.underlying23 rfl HKi.out ?_)
          | (refine wpList_builtP8 rfl _ _ rfl [(0, .agg KL.toArray), (1, .slice Av nv cv)] rfl TL.toArray HTb.out ?_)
          | (refine wpList_build_it rfl _ rfl TL HTl.out rfl ?_; rw [← Hwl.out])
          | (at_builtin; refine wpList_append_it rfl _ _ rfl hOl (Nat.le_trans hbr.size hblq.size) rfl wr.heap.size 1 rfl y Hyk.out TL HTy.out hVg Hlen1.out ?_; intro v1 w1 hO1 hg1))
        have hb1 : Below w.heap.size w w1 := hbr.trans ((hblq.mono hbr.size).trans ((Below.refl _ _).grown hg1 (Nat.le_trans hbr.size hblq.size) (fun k hk => (hOl.lt k hk).1)))
        go_ret
        exact ⟨_, rfl, by rw [Hres.out]; exact hO1, hb1⟩

end Go.Proofs.Ytnhfbggaiecalaa

namespace Go.Proofs.Ytnhfbggaiecalaa
open Go.RowKit Go.ChangeShapes Go.WideShapes
set_option linter.unusedVariables false
set_option linter.unusedSimpArgs false

set_option maxRecDepth 100000 in
theorem dig_cells8 {H : Type} {enc : TypeId × Value → H} {W : World} {base : Nat} {sp : Nat → Bool} {held : Bool} {m : Nat} {cs : List Value} {x : DataW H × List MemPlace} (hl : cs.length = 32) (h : DataW.trod enc Try.prog W base sp held m 23 cs = some x) : ∃ l : List UInt8, l.length = 32 ∧ cs = Lib.byteCells l := by
  have hr : ∃ l : List UInt8, l.length = 32 ∧ (.agg cs.toArray : Value) = digV l := by
    obtain ⟨xs, m', _, _, hlen, hn, hel⟩ := DataW.trod_array Try.underlying23 h
    have hc1 : Try.prog.cellsOf 5 = 1 := by kernel_rfl
    have hall : ∀ i, i < 32 → ∃ b : UInt8, cs[i]? = some (.int .u8 (b.toNat : Nat)) := by
      intro i hi
      have h1 := hel i hi
      rw [hc1, Nat.mul_one] at h1
      have hx : xs[i]? = some (xs[i]'(by omega)) := List.getElem?_eq_getElem (by omega)
      rw [hx] at h1
      have hd : ((cs.drop i).take 1) = [cs[i]'(by omega)] := by rw [List.drop_eq_getElem_cons (by omega)]; rfl
      rw [hd] at h1
      obtain ⟨k, e, _, hw⟩ := DataW.trod_int Try.underlying5 h1
      have hb := bounds_u8 hw
      simp only [List.cons.injEq, and_true] at e
      refine ⟨k.toNat.toUInt8, ?_⟩
      rw [List.getElem?_eq_getElem (by omega), e, Lib.toUInt8_toNat (by omega), Int.toNat_of_nonneg hb.1]
    have hch : ∃ f : Nat → UInt8, ∀ i, i < 32 → cs[i]? = some (.int .u8 ((f i).toNat : Nat)) := by
      classical
      refine ⟨fun i => if hi : i < 32 then Classical.choose (hall i hi) else 0, fun i hi => ?_⟩
      simp only [dif_pos hi]
      exact Classical.choose_spec (hall i hi)
    obtain ⟨f, hf2⟩ := hch
    refine ⟨(List.range 32).map f, by simp, ?_⟩
    unfold digV
    congr 2
    apply List.ext_getElem?
    intro i
    by_cases hi : i < 32
    · rw [hf2 i hi]
      simp [Lib.byteCells, hi]
    · rw [List.getElem?_eq_none (by omega), List.getElem?_eq_none (by simp [Lib.byteCells]; omega)]
  obtain ⟨l, h1, h2⟩ := hr
  refine ⟨l, h1, ?_⟩
  unfold digV at h2
  injection h2 with h2
  simpa using congrArg Array.toList h2

/-- A call: what is done, to which item. -/
structure Cl8 where
  what : Int
  itm : Itm
def clC (x : Cl8) : List Value := .int .i64 x.what :: itC x.itm
theorem clC_length {x : Cl8} (h : x.itm.key.length = 32) : (clC x).length = 34 := by simp [clC, itC_length h]
theorem clC_one (x : Cl8) : ∀ v ∈ clC x, v.oneCell' = true := by
  intro v hv
  simp only [clC, List.mem_cons] at hv
  rcases hv with rfl | hv
  · rfl
  · exact itC_one _ v hv
/-- Calls in memory, in a block below B. -/
def Cls8 (w : World) (B : Nat) (A : Option Addr) (xs : List Cl8) : Prop :=
  (∀ x ∈ xs, ItOk w B x.itm) ∧ (0 < xs.length → ∃ b off, A = some ⟨b, off, none⟩ ∧ b < B ∧ ∀ i x, xs[i]? = some x → w.rangeAt b (off + i * 34) (clC x))
theorem Cls8.below {w w' : World} {B B' : Nat} {A : Option Addr} {xs : List Cl8} (h : Cls8 w B A xs) (hb : Below B' w w') (hB : B ≤ B') : Cls8 w' B A xs :=
  ⟨fun x hx => ⟨(h.1 x hx).k32, (h.1 x hx).le, (h.1 x hx).lim, (h.1 x hx).bs.below hb hB⟩, fun hp => by
    obtain ⟨b, off, e, hlt, hc⟩ := h.2 hp
    exact ⟨b, off, e, hlt, fun i x hx j v hj => (hb.cell (p := ⟨b, _, none⟩) (show b < B' by omega)).trans (hc i x hx j v hj)⟩⟩

theorem call8_cells {H : Type} {enc : TypeId × Value → H} {W : World} {m : Nat} {cs : List Value} {x : DataW H × List MemPlace} (hl : cs.length = 34) (h : DataW.trod enc Try.prog W 0 (fun _ => true) true m 39 cs = some x) : ∃ y : Cl8, ItOk W W.heap.size y.itm ∧ cs = clC y := by
  obtain ⟨ys, n', _, _, hlen, hyl, hf⟩ := DataW.trod_struct Try.underlying39 h
  have g : ∀ j (hj : j < ys.length), ys[j]? = some (ys[j]) := fun j hj => List.getElem?_eq_getElem hj
  have hy3 : ys.length = 3 := hyl
  have c0 : DataW.trod enc Try.prog W 0 (fun _ => true) true n' 3 ((cs.drop 0).take (Try.prog.cellsOf 3)) = ys[0]? := hf 0 _ rfl
  have c1 : DataW.trod enc Try.prog W 0 (fun _ => true) true n' 23 ((cs.drop 1).take (Try.prog.cellsOf 23)) = ys[1]? := hf 1 _ rfl
  have c2 : DataW.trod enc Try.prog W 0 (fun _ => true) true n' 27 ((cs.drop 33).take (Try.prog.cellsOf 27)) = ys[2]? := hf 2 _ rfl
  have k1 : Try.prog.cellsOf 3 = 1 := by kernel_rfl
  have k32 : Try.prog.cellsOf 23 = 32 := by kernel_rfl
  have ks : Try.prog.cellsOf 27 = 1 := by kernel_rfl
  rw [k1, g 0 (by omega)] at c0
  rw [k32, g 1 (by omega)] at c1
  rw [ks, g 2 (by omega)] at c2
  have one : ∀ j (hj : j < cs.length), (cs.drop j).take 1 = [cs[j]] := fun j hj => by rw [List.drop_eq_getElem_cons hj]; rfl
  rw [one 0 (by omega)] at c0
  rw [one 33 (by omega)] at c2
  obtain ⟨z0, e0, _, hw0⟩ := DataW.trod_int Try.underlying3 c0
  simp only [List.cons.injEq, and_true] at e0
  obtain ⟨l, hl32, e1⟩ := dig_cells8 (by rw [List.length_take, List.length_drop]; omega) c1
  obtain ⟨A', c', l', e2, q1, q2, q3⟩ := row_cell c2
  refine ⟨⟨z0, ⟨l, l', A', c'⟩⟩, ⟨hl32, q1, q2, q3⟩, ?_⟩
  have e : cs = cs[0] :: ((cs.drop 1).take 32 ++ [cs[33]]) := by
    conv => lhs; rw [← List.take_append_drop 1 cs, ← List.take_append_drop 32 (cs.drop 1), List.drop_drop]
    have d33 : cs.drop (1 + 32) = [cs[33]] := by
      rw [List.drop_eq_getElem_cons (by omega), List.drop_of_length_le (by omega)]
    have t1 : cs.take 1 = [cs[0]] := by
      rw [← one 0 (by omega), List.drop_zero]
    rw [d33, t1]
    rfl
  refine e.trans ?_
  rw [e0, e1, e2]
  rfl

theorem calls8_arg {H : Type} {enc : TypeId × Value → H} {W : World} {A : Option Addr} {len cap : Nat} {d : DataW H} {p : List MemPlace} (h : DataW.Trod enc Try.prog W 0 (fun _ => true) true 35 (.slice A len cap) d p) :
    ∃ xs : List Cl8, xs.length = len ∧ len ≤ cap ∧ cap ≤ maxLen ∧ Cls8 W W.heap.size A xs := by
  obtain ⟨fuel, hf⟩ := h
  rcases Go.Deep.open_slice Try.underlying35 hf with ⟨h0, _⟩ | ⟨a, len', cap', m, n, D, Pl, hcs, _, hl, hm, hmm, _, hi⟩
  · simp [Value.cells] at h0
    obtain ⟨rfl, rfl, rfl⟩ := h0
    exact ⟨[], rfl, Nat.le_refl _, by unfold maxLen; omega, fun x hx => by simp at hx, fun h => by simp at h⟩
  · simp [Value.cells] at hcs
    obtain ⟨rfl, rfl, rfl⟩ := hcs
    have k34 : Try.prog.cellsOf 39 = 34 := by kernel_rfl
    have hle : len ≤ m := by rw [hmm]; split <;> omega
    have hall : ∀ i, i < len → ∃ x : Cl8, ItOk W W.heap.size x.itm ∧ ∀ j v, (clC x)[j]? = some v → W.cell? (a.add (i * 34 + j)) = some v := by
      intro i him
      obtain ⟨cs', hc, ht'⟩ := hi i (by omega)
      rw [k34] at hc
      obtain ⟨_, hcl, hat⟩ := World.cells?_some hc
      obtain ⟨y, hy, rfl⟩ := call8_cells hcl ht'
      refine ⟨y, hy, fun j v hj => ?_⟩
      have hj' := (List.getElem?_eq_some_iff.1 hj).1
      rw [← Go.Deep.add_add, hat j (by omega)]
      exact hj
    have hch : ∃ f : Nat → Cl8, ∀ i, i < len → ItOk W W.heap.size (f i).itm ∧ ∀ j v, (clC (f i))[j]? = some v → W.cell? (a.add (i * 34 + j)) = some v := by
      classical
      refine ⟨fun i => if hi : i < len then Classical.choose (hall i hi) else ⟨0, ⟨[], [], none, 0⟩⟩, fun i hi => ?_⟩
      simp only [dif_pos hi]
      exact Classical.choose_spec (hall i hi)
    clear hall
    obtain ⟨f, hf⟩ := hch
    have hget : ∀ i x, ((List.range len).map f)[i]? = some x → i < len ∧ x = f i := by
      intro i x hx
      obtain ⟨h1, h2⟩ := List.getElem?_eq_some_iff.1 hx
      simp at h1 h2
      exact ⟨h1, h2.symm⟩
    refine ⟨(List.range len).map f, by simp, hl, hm, fun x hx => ?_, fun hp => ?_⟩
    · obtain ⟨i, hi', rfl⟩ := List.mem_map.1 hx
      exact (hf i (List.mem_range.1 hi')).1
    · have hp' : 0 < len := by simpa using hp
      obtain ⟨b, off, spot⟩ := a
      have hc0 := (hf 0 hp').2 0 _ rfl
      have hspot : spot = none := by simpa [Addr.add] using World.cell?_spot hc0
      subst hspot
      refine ⟨b, off, rfl, World.block_lt_of_cell? W _ (by simpa [Addr.add] using hc0), fun i x hx j v hj => ?_⟩
      obtain ⟨hil, rfl⟩ := hget i x hx
      have hadd : ∀ k, (⟨b, off, none⟩ : Addr).add k = ⟨b, off + k, none⟩ := fun k => by unfold Addr.add; split <;> simp_all
      have := (hf i hil).2 j v hj
      rw [hadd] at this
      rw [Nat.add_assoc]
      exact this

theorem callSize : (Try.prog.info? 39).map (·.size) = some 34 := by kernel_rfl
def clZ : List Value := .int .i64 0 :: (Lib.byteCells zeros ++ [.slice none 0 0])
theorem callZero (w : World) : (zeroValue 39).run Try.prog w = .ok (.agg clZ.toArray) w := by kernel_rfl
theorem wpList_allocZ8 {P : Program} {ops : Array Oper} {rest : List Oper} {o : Oper} {a : Act} {w : World} {Q : Exit → Act → World → Prop} (hg : o.guard = none) (t : TypeId) (ho : o.op = .alloc t) (Z : Array Value) (hz : (zeroValue t).run P w = .ok (.agg Z) w)
    (h : wpList P ops Q rest (a.put o.dst (.pointer (some ⟨w.heap.size, 0, none⟩))) (w.alloc (.cells Z t))) : wpList P ops Q (o :: rest) a w := by
  refine wpList_plain hg fun K hK => ?_
  unfold Oper.wp execOp
  simp only [ho, Instr.alloc, Sem.run_bind, hz, Result.andThen_ok]
  exact hK _ _ h

/-- Are calls more than are looked at? -/
def great8 (xs : List Cl8) : Bool := decide (50 < xs.length) || xs.any fun x => decide (200 < x.itm.val.length)
theorem great8_no {xs : List Cl8} (h : great8 xs = false) : xs.length ≤ 50 ∧ ∀ x ∈ xs, x.itm.val.length ≤ 200 := by
  unfold great8 at h
  simp only [Bool.or_eq_false_iff, decide_eq_false_iff_not, List.any_eq_false, decide_eq_true_eq] at h
  exact ⟨by omega, fun r hr => by have := h.2 r hr; omega⟩
theorem great8_many {xs : List Cl8} (h : 50 < xs.length) : great8 xs = true := by unfold great8; rw [decide_eq_true h, Bool.true_or]
theorem great8_long {xs : List Cl8} {k : Nat} {x : Cl8} (hk : xs[k]? = some x) (h : 200 < x.itm.val.length) : great8 xs = true := by
  unfold great8
  rw [Bool.or_eq_true]
  exact .inr (List.any_eq_true.2 ⟨x, List.mem_of_getElem? hk, decide_eq_true h⟩)
theorem great8_none {xs : List Cl8} (h : xs.length ≤ 50) (hr : ∀ (k : Nat) (x : Cl8), xs[k]? = some x → x.itm.val.length ≤ 200) : great8 xs = false := by
  unfold great8
  rw [Bool.or_eq_false_iff]
  refine ⟨decide_eq_false (by omega), List.any_eq_false.2 fun r hm => ?_⟩
  obtain ⟨k, hk⟩ := List.getElem?_of_mem hm
  have := hr k r hk
  simp
  omega

set_option maxHeartbeats 8000000 in
set_option maxRecDepth 100000 in
theorem great8_any (xs : List Cl8) (A : Option Addr) (n c : Nat) (w : World) (hn : xs.length = n) (hc : n ≤ c) (hm : c ≤ 9223372036854775807) (hrs : Cls8 w w.heap.size A xs) :
    Calls Try.prog 10 #[.slice A n c] w fun e w' => e = .returned (.bool (great8 xs)) ∧ Below w.heap.size w w' := by
  obtain ⟨CZ, hCZ⟩ : ∃ CZ, CZ = clZ := ⟨_, rfl⟩
  have HZ := Lib.hid (fun w : World => show (zeroValue 39).run Try.prog w = .ok (.agg CZ.toArray) w by rw [hCZ]; exact callZero w)
  have HZl := Lib.hid (show CZ.length = 34 by rw [hCZ]; rfl)
  clear hCZ
  by_cases h60 : 50 < n
  · have hd : decide ((50 : Int) < (n : Int)) = true := by simp; omega
    have hg := Lib.hid (great8_many (xs := xs) (by omega))
    have Hn := Lib.hid hn
    clear hn
    go_enter Try.func10, Try.ntmps10
    go_wp2
    go_ret
    exact ⟨by rw [hg.out]; rfl, Below.refl _ _⟩
  · have hd : decide ((50 : Int) < (n : Int)) = false := by simp; omega
    have Hn := Lib.hid hn
    have Hrs := Lib.hid hrs
    clear hn hrs
    go_enter Try.func10, Try.ntmps10
    go_upto_region 4 with fail
    go_loopw [10] (fun i wr => ∃ k : Nat, k ≤ n ∧ i = .int .i64 k ∧ Below w.heap.size w wr ∧ Hid (∀ (j : Nat) (x : Cl8), j < k → xs[j]? = some x → x.itm.val.length ≤ 200)) (fun i _ => n - (intOf i).toNat)
    case atStart => exact ⟨0, Nat.zero_le _, rfl, Below.refl _ _, fun j x hj => by omega⟩
    case round =>
      obtain ⟨k, hk, rfl, hbr, Hr⟩ := hrel
      by_cases hlt : k < n
      · have hd1 : decide ((k : Int) < (n : Int)) = true := by simp; omega
        obtain ⟨x, hx⟩ : ∃ x, xs[k]? = some x := ⟨xs[k]'(by rw [Hn.out]; exact hlt), List.getElem?_eq_getElem _⟩
        obtain ⟨b, off, rfl, hblk, hrow⟩ := Hrs.out.2 (by rw [Hn.out]; omega)
        have hxo := Hrs.out.1 x (List.mem_of_getElem? hx)
        obtain ⟨VL, hVL⟩ : ∃ VL, VL = clC x := ⟨_, rfl⟩
        have hVl : VL.length = 34 := by rw [hVL, clC_length hxo.k32]
        have hrg : wr.rangeAt b (off + k * 34) VL := fun j v hj => by
          rw [hVL] at hj
          rw [← hrow k x hx j v hj]
          exact World.cell?_of_block (hbr.block b hblk)
        have HVi := Lib.hid (show (Try.prog.info? 39).map (·.size) = some VL.length by rw [hVl]; exact callSize)
        have HVj := Lib.hid (show (Try.prog.info? 39).map (·.size) = some VL.toArray.size by rw [List.size_toArray, hVl]; exact callSize)
        have HV1 := Lib.hid (show VL.toArray.all (·.oneCell') = true by rw [hVL]; exact all_oneCell_toArray (clC_one x))
        have HVz := Lib.hid (show CZ.toArray.size = VL.toArray.size by rw [List.size_toArray, List.size_toArray, HZl.out, hVl])
        obtain ⟨wa, hwa⟩ : ∃ W, W = (wr.alloc (.cells CZ.toArray 39)).setRow wr.heap.size VL.toArray := ⟨_, rfl⟩
        obtain ⟨hVa, hbra⟩ := alloc_row wr 39 CZ.toArray VL
        rw [← hwa] at hVa hbra
        obtain ⟨l, hl⟩ : ∃ l, x.itm.val.length = l := ⟨_, rfl⟩
        have h33 : wa.cell? ⟨wr.heap.size, 33, none⟩ = some (.slice x.itm.adr l x.itm.cap) := by
          rw [hVa.cell, hVL, ← hl]
          unfold clC itC
          rw [List.getElem?_cons_succ, List.getElem?_append_right (by rw [Lib.byteCells_length, hxo.k32]; exact Nat.le_refl _), Lib.byteCells_length, hxo.k32]
          rfl
        have hba : Below w.heap.size w wa := hbr.trans (hbra.mono hbr.size)
        have Hwa := Lib.hid hwa
        have Hl := Lib.hid hl
        have Hx := Lib.hid hx
        obtain ⟨Ax, hAx⟩ : ∃ a, x.itm.adr = a := ⟨_, rfl⟩
        obtain ⟨cx, hcx⟩ : ∃ a, x.itm.cap = a := ⟨_, rfl⟩
        rw [hAx, hcx] at h33
        clear hwa hl hx hrow hVL hVl hVa hbra hbr hxo hAx hcx
        go_upto_region 6 with (first
          | (refine wpList_load_mid rfl _ _ rfl b (off + k * 34) rfl VL _ hrg Try.underlying39 rfl HVi.out ?_)
          | (refine wpList_allocZ8 rfl 39 rfl CZ.toArray (HZ.out _) ?_)
          | (refine wpList_store_row rfl _ _ _ rfl wr.heap.size VL.toArray rfl rfl 39 CZ.toArray (heap_alloc_new wr _) HVj.out HVz.out HV1.out ?_; rw [← Hwa.out]))
        by_cases hlong : 200 < l
        · have hd2 : decide ((200 : Int) < (l : Int)) = true := by simp; omega
          have hg := Lib.hid (great8_long Hx.out (by rw [Hl.out]; exact hlong))
          go_wp2_with fail
          go_ret
          exact ⟨by rw [hg.out]; rfl, hba⟩
        · have hd2 : decide ((200 : Int) < (l : Int)) = false := by simp; omega
          have Hr' : Hid (∀ (j : Nat) (y : Cl8), j < k + 1 → xs[j]? = some y → y.itm.val.length ≤ 200) := fun j y hj hy => by
            by_cases e : j = k
            · subst e
              rw [Hx.out] at hy
              injection hy with hy
              rw [← hy, Hl.out]
              omega
            · exact Hr.out j y (by omega) hy
          go_wp2_with fail
          go_roundw
          case rel => exact ⟨k + 1, by omega, by go_num, hba, Hr'⟩
          case measure => simp [intOf]; omega
      · have hd1 : decide ((k : Int) < (n : Int)) = false := by simp; omega
        have hg := Lib.hid (great8_none (xs := xs) (by rw [Hn.out]; omega) (fun j x hx => Hr.out j x (by have := (List.getElem?_eq_some_iff.1 hx).1; rw [Hn.out] at this; omega) hx))
        go_wp2_with fail
        go_ret
        exact ⟨by rw [hg.out]; rfl, hbr⟩

end Go.Proofs.Ytnhfbggaiecalaa

namespace Go.Proofs.Ytnhfbggaiecalaa
open Go.RowKit
set_option linter.unusedVariables false
set_option linter.unusedSimpArgs false

def Uni (xs : List Itm) : Prop := xs.Pairwise fun a b => a.key ≠ b.key
theorem putL_inv (key : List UInt8) (y : Itm) (hy : y.key = key) : ∀ (xs : List Itm) (s : List Itm × Bool), Uni xs → Uni s.1 → (∀ a ∈ s.1, a.key = key → s.2 = true) → (∀ a ∈ s.1, ∀ x ∈ xs, a.key = x.key → a.key = key) →
    Uni (xs.foldl (putS key y) s).1 ∧ (∀ a ∈ (xs.foldl (putS key y) s).1, a.key = key → (xs.foldl (putS key y) s).2 = true) ∧ (∀ a ∈ (xs.foldl (putS key y) s).1, a ∈ s.1 ∨ a = y ∨ a ∈ xs) ∧
      (xs.foldl (putS key y) s).1.length + (if (xs.foldl (putS key y) s).2 then 0 else 1) ≤ s.1.length + (if s.2 then 0 else 1) + xs.length
  | [], s, _, h1, h2, _ => ⟨h1, h2, fun a ha => .inl ha, Nat.le_refl _⟩
  | x :: xs, (out, dn), hu, h1, h2, h3 => by
    obtain ⟨hux, hu'⟩ := List.pairwise_cons.1 hu
    obtain ⟨s1, hs1⟩ : ∃ s1, putS key y (out, dn) x = s1 := ⟨_, rfl⟩
    have e1 : s1.1 = out ++ (if dn = false ∧ lessF x.key key = false then [y] else []) ++ (if x.key = key then [] else [x]) := by rw [← hs1]; rfl
    have e2 : s1.2 = (dn || !lessF x.key key) := by rw [← hs1]; rfl
    have mem1 : ∀ a ∈ s1.1, a ∈ out ∨ (a = y ∧ dn = false ∧ lessF x.key key = false) ∨ (a = x ∧ x.key ≠ key) := by
      intro a ha
      rw [e1] at ha
      rcases List.mem_append.1 ha with ha | ha
      · rcases List.mem_append.1 ha with ha | ha
        · exact .inl ha
        · split at ha
          · rename_i hc
            rw [List.mem_singleton] at ha
            exact .inr (.inl ⟨ha, hc⟩)
          · cases ha
      · split at ha
        · cases ha
        · rename_i hc
          rw [List.mem_singleton] at ha
          exact .inr (.inr ⟨ha, hc⟩)
    have u1 : Uni s1.1 := by
      unfold Uni
      rw [e1, List.pairwise_append]
      refine ⟨?_, ?_, ?_⟩
      · rw [List.pairwise_append]
        refine ⟨h1, ?_, ?_⟩
        · split <;> simp
        · intro a ha b hb e
          split at hb
          · rename_i hc
            rw [List.mem_singleton] at hb
            subst hb
            have := h2 a ha (by rw [e, hy])
            simp only at this
            rw [hc.1] at this
            cases this
          · cases hb
      · split <;> simp
      · intro a ha b hb e
        split at hb
        · cases hb
        · rename_i hc
          rw [List.mem_singleton] at hb
          subst hb
          rcases List.mem_append.1 ha with ha | ha
          · exact hc (by rw [← e]; exact h3 a ha b List.mem_cons_self e)
          · split at ha
            · rw [List.mem_singleton] at ha
              subst ha
              exact hc (by rw [← e, hy])
            · cases ha
    have k1 : ∀ a ∈ s1.1, a.key = key → s1.2 = true := by
      intro a ha e
      rw [e2]
      rcases mem1 a ha with h | ⟨_, _, h⟩ | ⟨h, hc⟩
      · have := h2 a h e
        simp only at this
        rw [this]; rfl
      · rw [h]; simp
      · rw [h] at e; exact absurd e hc
    have c1 : ∀ a ∈ s1.1, ∀ z ∈ xs, a.key = z.key → a.key = key := by
      intro a ha z hz e
      rcases mem1 a ha with h | ⟨h, _⟩ | ⟨h, hc⟩
      · exact h3 a h z (List.mem_cons_of_mem _ hz) e
      · rw [h, hy]
      · rw [h] at e
        exact absurd e (hux z hz)
    have l1 : s1.1.length + (if s1.2 then 0 else 1) ≤ out.length + (if dn then 0 else 1) + 1 := by
      rw [e1, e2]
      simp only [List.length_append]
      cases dn <;> cases lessF x.key key <;> simp <;> split <;> simp <;> omega
    obtain ⟨r1, r2, r3, r4⟩ := putL_inv key y hy xs s1 hu' u1 k1 c1
    rw [List.foldl_cons, hs1]
    refine ⟨r1, r2, fun a ha => ?_, by simp only [List.length_cons]; omega⟩
    rcases r3 a ha with h | h | h
    · rcases mem1 a h with h | ⟨h, _⟩ | ⟨h, _⟩
      · exact .inl h
      · exact .inr (.inl h)
      · exact .inr (.inr (by rw [h]; simp))
    · exact .inr (.inl h)
    · exact .inr (.inr (List.mem_cons_of_mem _ h))
theorem putI_facts (key : List UInt8) (y : Itm) (hy : y.key = key) (xs : List Itm) (hu : Uni xs) : Uni (putI key y xs) ∧ (∀ a ∈ putI key y xs, a = y ∨ a ∈ xs) ∧ (putI key y xs).length ≤ xs.length + 1 := by
  obtain ⟨h1, h2, h3, h4⟩ := putL_inv key y hy xs ([], false) hu List.Pairwise.nil (fun a ha => by simp at ha) (fun a ha => by simp at ha)
  have e : putL key y xs = xs.foldl (putS key y) ([], false) := rfl
  rw [← e] at h1 h2 h3 h4
  unfold putI
  cases hd : (putL key y xs).2 with
  | true =>
    rw [hd] at h4
    refine ⟨by simpa using h1, fun a ha => ?_, by simp at h4 ⊢; omega⟩
    rcases h3 a (by simpa using ha) with h | h | h
    · simp at h
    · exact .inl h
    · exact .inr h
  | false =>
    rw [hd] at h4
    simp only [Bool.false_eq_true, if_false]
    refine ⟨?_, fun a ha => ?_, by simp at h4 ⊢; omega⟩
    · unfold Uni
      rw [List.pairwise_append]
      refine ⟨h1, by simp, fun a ha b hb e2 => ?_⟩
      rw [List.mem_singleton] at hb
      subst hb
      have := h2 a ha (by rw [e2, hy])
      rw [hd] at this
      cases this
    · rcases List.mem_append.1 ha with ha | ha
      · rcases h3 a ha with h | h | h
        · simp at h
        · exact .inl h
        · exact .inr h
      · rw [List.mem_singleton] at ha
        exact .inl ha

/-- What calls lead to. -/
def playS (xs : List Itm) (x : Cl8) : List Itm := if x.what = 0 then putI x.itm.key x.itm xs else dropI xs x.itm.key
def playI (cs : List Cl8) : List Itm := cs.foldl playS []
theorem playI_take {cs : List Cl8} {i : Nat} {x : Cl8} (h : cs[i]? = some x) : playI (cs.take (i + 1)) = playS (playI (cs.take i)) x := by
  obtain ⟨hi, he⟩ := List.getElem?_eq_some_iff.1 h
  unfold playI
  rw [List.take_succ_eq_append_getElem hi, List.foldl_append, he]
  rfl
theorem play_facts : ∀ (cs : List Cl8) (xs : List Itm), Uni xs → Uni (cs.foldl playS xs) ∧ (∀ a ∈ cs.foldl playS xs, a ∈ xs ∨ ∃ x ∈ cs, a = x.itm) ∧ (cs.foldl playS xs).length ≤ xs.length + cs.length
  | [], xs, h => ⟨h, fun a ha => .inl ha, Nat.le_refl _⟩
  | c :: cs, xs, h => by
    have h1 : Uni (playS xs c) ∧ (∀ a ∈ playS xs c, a ∈ xs ∨ a = c.itm) ∧ (playS xs c).length ≤ xs.length + 1 := by
      unfold playS
      split
      · obtain ⟨p1, p2, p3⟩ := putI_facts c.itm.key c.itm rfl xs h
        exact ⟨p1, fun a ha => (p2 a ha).symm, p3⟩
      · refine ⟨h.filter _, fun a ha => .inl (List.mem_filter.1 ha).1, ?_⟩
        have := dropI_len xs c.itm.key
        omega
    obtain ⟨r1, r2, r3⟩ := play_facts cs (playS xs c) h1.1
    rw [List.foldl_cons]
    refine ⟨r1, fun a ha => ?_, by simp only [List.length_cons]; have := h1.2.2; omega⟩
    rcases r2 a ha with h | ⟨x, hx, h⟩
    · rcases h1.2.1 a h with h | h
      · exact .inl h
      · exact .inr ⟨c, by simp, h⟩
    · exact .inr ⟨x, List.mem_cons_of_mem _ hx, h⟩
theorem playI_facts (cs : List Cl8) : Uni (playI cs) ∧ (∀ a ∈ playI cs, ∃ x ∈ cs, a = x.itm) ∧ (playI cs).length ≤ cs.length := by
  obtain ⟨h1, h2, h3⟩ := play_facts cs [] List.Pairwise.nil
  refine ⟨h1, fun a ha => ?_, by have := h3; simp only [List.length_nil, Nat.zero_add] at this; exact this⟩
  rcases h2 a ha with h | h
  · cases h
  · exact h
theorem Uni.good {xs : List Itm} (h : Uni xs) (h32 : ∀ x ∈ xs, x.key.length = 32) : Good (xs.map Itm.it) :=
  ⟨fun a ha => by obtain ⟨x, hx, rfl⟩ := List.mem_map.1 ha; exact h32 x hx, List.pairwise_map.2 h⟩

/-- Where a key stands, and what is told of it. -/
theorem findI_facts (key : List UInt8) : ∀ (xs : List Itm) (k : Nat), (findF (xs.map Itm.it) key = none ∧ findI xs key k = -1) ∨ ∃ (j : Nat) (x : Itm), xs[j]? = some x ∧ findF (xs.map Itm.it) key = some x.val ∧ findI xs key k = ((k + j : Nat) : Int)
  | [], k => .inl ⟨rfl, rfl⟩
  | x :: xs, k => by
    have e : findI (x :: xs) key k = if x.key = key then (k : Int) else findI xs key (k + 1) := rfl
    by_cases hx : x.key = key
    · refine .inr ⟨0, x, rfl, ?_, by rw [e, if_pos hx]; rfl⟩
      unfold findF
      simp [Itm.it, hx]
    · have ef : findF ((x :: xs).map Itm.it) key = findF (xs.map Itm.it) key := by
        unfold findF
        simp [Itm.it, hx]
      rw [e, if_neg hx, ef]
      rcases findI_facts key xs (k + 1) with ⟨h1, h2⟩ | ⟨j, y, h1, h2, h3⟩
      · exact .inl ⟨h1, h2⟩
      · exact .inr ⟨j + 1, y, by simpa using h1, h2, by rw [h3]; congr 1; omega⟩

/-- What the law tells where something else is shown. -/
theorem bound_all (key : List UInt8) (hk : key.length = 32) (l : List It) (rs : List (List UInt8)) (res : Option (List UInt8)) (hgood : Good l) (hval : ∀ x ∈ l, x.2.length ≤ 1000) (hc : chkF (rootF l) key rs 0 = some res) :
    res = findF l key ∨ (l = [] ∧ ∃ b r, rs = b :: r ∧ shaF (tagF 4 [b]) = shaF (tagF 5 [])) ∨ (l ≠ [] ∧ rs = [] ∧ shaF (tagF 4 [nodeF 65 l 0]) = shaF (tagF 5 [])) ∨ (l ≠ [] ∧ Differs (proveF key 65 l 0) rs) := by
  by_cases hl : l = []
  · subst hl
    have hr : rootF [] = shaF (tagF 5 []) := rfl
    rw [hr] at hc
    cases rs with
    | nil =>
      left
      unfold chkF at hc
      rw [if_pos ⟨rfl, rfl⟩] at hc
      injection hc with hc
      rw [← hc]; rfl
    | cons b r =>
      right; left
      refine ⟨rfl, b, r, rfl, ?_⟩
      unfold chkF at hc
      by_cases e : shaF (tagF 4 [b]) = shaF (tagF 5 [])
      · exact e
      · rw [if_pos (.inr e)] at hc
        cases hc
  · have hr : rootF l = nodeD l 0 := by unfold rootF; rw [if_neg hl]
    rw [hr] at hc
    by_cases hrs : rs = []
    · subst hrs
      right; right; left
      refine ⟨hl, rfl, ?_⟩
      unfold chkF at hc
      split at hc
      · rename_i h; exact h.2
      · cases hc
    · rcases bound_way key hk rs l 0 65 res hl hgood hval (fun i hi => by omega) (fun x hx i hi => by omega) (by omega) (by omega) (.inl hrs) hc with h | h
      · exact .inl h
      · exact .inr (.inr (.inr ⟨hl, h⟩))

end Go.Proofs.Ytnhfbggaiecalaa

namespace Go.Proofs.Ytnhfbggaiecalaa
open Go.RowKit
set_option linter.unusedVariables false
set_option linter.unusedSimpArgs false

theorem proveF_len (key : List UInt8) : ∀ (f : Nat) (l : List It) (t : Nat), Good l → (∀ x ∈ l, x.2.length ≤ 1000) → (∀ i, i < t → agreeF l i = true) → t ≤ 64 → ∀ a ∈ proveF key f l t, a.length ≤ 1900
  | 0, _, _, _, _, _, _ => fun a ha => by simp [proveF] at ha
  | f + 1, l, t, hg, hv, hag, ht => fun a ha => by
    unfold proveF at ha
    by_cases hl : l = []
    · rw [if_pos hl] at ha; cases ha
    · rw [if_neg hl] at ha
      have hp : 0 < l.length := List.length_pos_iff.2 hl
      rcases List.mem_cons.1 ha with rfl | ha
      · exact nodeF_len 65 l t hv ht hp
      · split at ha
        · cases ha
        · rename_i hc
          have h2 : 2 ≤ l.length := by
            have : l.length ≠ 1 := fun e => hc (.inl e)
            omega
          have hs := hg.split h2 ht hag
          exact proveF_len key f _ _ (hg.part _ _) (fun z hz => hv z (mem_subF.1 hz).1) (part_agree (shared_agree hag)) (by omega) a ha

/-- What is left to tell where something else is shown. -/
def TailP (L : List It) (P rs : List (List UInt8)) : Prop :=
  (∀ (i : Nat) (a b : List UInt8), P.take i = rs.take i → P[i]? = some a → rs[i]? = some b → a ≠ b → shaF (tagF 4 [a]) = shaF (tagF 4 [b])) ∧
    (∀ i : Nat, i ≤ P.length → i ≤ rs.length → (i = P.length ∨ i = rs.length) → P.take i = rs.take i → (L = [] ∧ ∃ b r, rs = b :: r ∧ shaF (tagF 4 [b]) = shaF (tagF 5 [])) ∨ (L ≠ [] ∧ rs = [] ∧ ∃ a r, P = a :: r ∧ shaF (tagF 4 [a]) = shaF (tagF 5 [])))
theorem take_first {P rs : List (List UInt8)} {i j : Nat} {a b x y : List UInt8} (hi : P.take i = rs.take i) (hj : P.take j = rs.take j) (ha : P[i]? = some a) (hb : rs[i]? = some b) (hab : a ≠ b) (hx : P[j]? = some x) (hy : rs[j]? = some y) (hxy : x ≠ y) : i = j := by
  rcases Nat.lt_trichotomy i j with h | h | h
  · exfalso
    have h1 : (P.take j)[i]? = some a := by rw [List.getElem?_take_of_lt h]; exact ha
    rw [hj, List.getElem?_take_of_lt h, hb] at h1
    injection h1 with h1
    exact hab h1.symm
  · exact h
  · exfalso
    have h1 : (P.take i)[j]? = some x := by rw [List.getElem?_take_of_lt h]; exact hx
    rw [hi, List.getElem?_take_of_lt h, hy] at h1
    injection h1 with h1
    exact hxy h1.symm
theorem bound_tail (key : List UInt8) (hk : key.length = 32) (l : List It) (rs : List (List UInt8)) (res : Option (List UInt8)) (hgood : Good l) (hval : ∀ x ∈ l, x.2.length ≤ 1000) (hc : chkF (rootF l) key rs 0 = some res) (hne : res ≠ findF l key) : TailP l (proveF key 65 l 0) rs := by
  rcases bound_all key hk l rs res hgood hval hc with h | ⟨h1, b, r, h2, h3⟩ | ⟨h1, h2, h3⟩ | ⟨h1, j, x, y, d1, d2, d3, d4, d5⟩
  · exact absurd h hne
  · subst h1 h2
    refine ⟨fun i a b' _ ha => ?_, fun i _ _ _ _ => .inl ⟨rfl, b, r, rfl, h3⟩⟩
    rw [proveF_none] at ha
    simp at ha
  · subst h2
    have hP : proveF key 65 l 0 = nodeF 65 l 0 :: (if l.length = 1 ∨ restF (l.headD ([], [])).1 0 (sharedF l 0) ≠ restF key 0 (sharedF l 0) then [] else proveF key 64 (subF l (sharedF l 0) (nibF key (sharedF l 0))) (sharedF l 0 + 1)) := by
      conv => lhs; unfold proveF
      rw [if_neg h1]
    exact ⟨fun i a b' _ _ hb => by simp at hb, fun i _ _ _ _ => .inr ⟨h1, rfl, _, _, hP, h3⟩⟩
  · refine ⟨fun i a b hi ha hb hab => ?_, fun i hi1 hi2 hor hi => ?_⟩
    · obtain rfl := take_first hi d1 ha hb hab d2 d3 d4
      rw [ha] at d2
      rw [hb] at d3
      injection d2 with d2
      injection d3 with d3
      rw [d2, d3]
      exact d5
    · exfalso
      have hjP := (List.getElem?_eq_some_iff.1 d2).1
      have hjr := (List.getElem?_eq_some_iff.1 d3).1
      have hji : j < i := by rcases hor with h | h <;> omega
      have h1 : ((proveF key 65 l 0).take i)[j]? = some x := by rw [List.getElem?_take_of_lt hji]; exact d2
      rw [hi, List.getElem?_take_of_lt hji, d3] at h1
      injection h1 with h1
      exact d4 h1.symm
theorem take_one {P rs : List (List UInt8)} {i : Nat} {a : List UInt8} (hi : P.take i = rs.take i) (ha : P[i]? = some a) (hb : rs[i]? = some a) : P.take (i + 1) = rs.take (i + 1) := by
  obtain ⟨h1, h2⟩ := List.getElem?_eq_some_iff.1 ha
  obtain ⟨h3, h4⟩ := List.getElem?_eq_some_iff.1 hb
  rw [List.take_succ_eq_append_getElem h1, List.take_succ_eq_append_getElem h3, hi, h2, h4]

end Go.Proofs.Ytnhfbggaiecalaa

namespace Go.Proofs.Ytnhfbggaiecalaa
open Go.RowKit
set_option linter.unusedVariables false

def greatP (rs : List (List UInt8)) : Bool := decide (70 < rs.length) || rs.any fun r => decide (2000 < r.length)
theorem greatP_no {rs : List (List UInt8)} (h : greatP rs = false) : rs.length ≤ 70 ∧ ∀ r ∈ rs, r.length ≤ 2000 := by
  unfold greatP at h
  simp only [Bool.or_eq_false_iff, decide_eq_false_iff_not, List.any_eq_false, decide_eq_true_eq] at h
  exact ⟨by omega, fun r hr => by have := h.2 r hr; omega⟩
theorem greatP_many {rs : List (List UInt8)} (h : 70 < rs.length) : greatP rs = true := by unfold greatP; rw [decide_eq_true h, Bool.true_or]
theorem greatP_long {rs : List (List UInt8)} {k : Nat} (hk : k < rs.length) (h : 2000 < (rs.getD k []).length) : greatP rs = true := by
  unfold greatP
  rw [Bool.or_eq_true]
  refine .inr (List.any_eq_true.2 ⟨rs.getD k [], by simp [List.getD, hk], decide_eq_true h⟩)
theorem greatP_none {rs : List (List UInt8)} (h : rs.length ≤ 70) (hr : ∀ k, k < rs.length → (rs.getD k []).length ≤ 2000) : greatP rs = false := by
  unfold greatP
  rw [Bool.or_eq_false_iff]
  refine ⟨decide_eq_false (by omega), List.any_eq_false.2 fun r hm => ?_⟩
  obtain ⟨k, hk, rfl⟩ := List.getElem_of_mem hm
  have := hr k hk
  simp [List.getD, hk] at this
  simp
  omega

set_option maxHeartbeats 4000000 in
theorem greatP_any (B : Nat) (rs : List (List UInt8)) (A : Option Addr) (n c : Nat) (w : World) (hn : rs.length = n) (hc : n ≤ c) (hm : c ≤ 9223372036854775807) (hrs : RowsAt w B A rs) :
    Calls Try.prog 6 #[.slice A n c] w fun e w' => e = .returned (.bool (greatP rs)) ∧ w' = w := by
  by_cases h70 : 70 < n
  · have hd : decide ((70 : Int) < (n : Int)) = true := by simp; omega
    have hg := Lib.hid (greatP_many (rs := rs) (by omega))
    have Hn := Lib.hid hn
    clear hn
    go_enter Try.func6, Try.ntmps6
    go_wp2
    go_ret
    exact ⟨by rw [hg.out]; rfl, rfl⟩
  · have hd : decide ((70 : Int) < (n : Int)) = false := by simp; omega
    have Hn := Lib.hid hn
    clear hn
    go_enter Try.func6, Try.ntmps6
    go_wp2
    go_loop [10] (fun i => ∃ k : Nat, k ≤ n ∧ i = .int .i64 k ∧ Hid (∀ j, j < k → (rs.getD j []).length ≤ 2000)) (fun i => n - (intOf i).toNat)
    case atStart => exact ⟨0, Nat.zero_le _, rfl, fun j hj => by omega⟩
    case round =>
      obtain ⟨k, hk, rfl, Hr⟩ := hrel
      by_cases hlt : k < n
      · have hkr : k < rs.length := by rw [Hn.out]; exact hlt
        obtain ⟨blk, off, rfl, hblk, hrow⟩ := hrs (by omega)
        obtain ⟨A', c', hcell, hlc, hcm, hbs⟩ := hrow k hkr
        obtain ⟨l, hl⟩ : ∃ l, (rs.getD k []).length = l := ⟨_, rfl⟩
        rw [hl] at hcell hlc
        have Hl := Lib.hid hl
        clear hl hrow hbs
        by_cases hlong : 2000 < l
        · have hd2 : decide ((2000 : Int) < (l : Int)) = true := by simp; omega
          have hg := Lib.hid (greatP_long hkr (by rw [Hl.out]; exact hlong))
          go_wp2
          go_ret
          exact ⟨by rw [hg.out]; rfl, rfl⟩
        · have hd2 : decide ((2000 : Int) < (l : Int)) = false := by simp; omega
          have Hr' := Lib.hid (show ∀ j, j < k + 1 → (rs.getD j []).length ≤ 2000 from fun j hj => by
            by_cases e : j = k
            · subst e; rw [Hl.out]; omega
            · exact Hr.out j (by omega))
          go_wp2
          go_round
          case rel => exact ⟨k + 1, by omega, by go_num, Hr'.out⟩
          case measure => simp [intOf]; omega
      · have hg := Lib.hid (greatP_none (rs := rs) (by rw [Hn.out]; omega) (fun j hj => Hr.out j (by rw [Hn.out] at hj; omega)))
        go_wp2
        go_ret
        exact ⟨by rw [hg.out]; rfl, rfl⟩

end Go.Proofs.Ytnhfbggaiecalaa

namespace Go.Proofs.Ytnhfbggaiecalaa
open Go.RowKit
set_option linter.unusedVariables false
set_option linter.unusedSimpArgs false

theorem none_ne : zeros ≠ shaF (tagF 5 []) := by decide +kernel
def oneD : List UInt8 := 1 :: List.replicate 31 0
theorem oneBuilt : Try.prog.built 23 [(0, .int .u8 1)] = some (Lib.byteCells oneD).toArray := by kernel_rfl
theorem zeroBuilt : Try.prog.built 23 [] = some (Lib.byteCells zeros).toArray := by kernel_rfl
theorem chk_none : chkF (shaF (tagF 5 [])) oneD [] 0 = some none := by unfold chkF; rw [if_pos ⟨rfl, rfl⟩]
theorem chk_zero : chkF zeros oneD [] 0 = none := by unfold chkF; rw [if_neg (fun h => none_ne h.2)]

set_option maxHeartbeats 8000000 in
set_option maxRecDepth 100000 in
theorem pspeaks_true (w : World) :
    Calls Try.prog 5 #[] w fun e w' => e = .returned (.bool true) ∧ Below w.heap.size w w' := by
  obtain ⟨SL, hSL⟩ : ∃ SL, SL = Lib.byteCells (shaF (tagF 5 [])) := ⟨_, rfl⟩
  obtain ⟨OL, hOL⟩ : ∃ OL, OL = Lib.byteCells oneD := ⟨_, rfl⟩
  obtain ⟨ZL, hZL⟩ : ∃ ZL, ZL = Lib.byteCells zeros := ⟨_, rfl⟩
  have HOb := Lib.hid (show Try.prog.built 23 [(0, .int .u8 1)] = some OL.toArray by rw [hOL]; exact oneBuilt)
  have HZb := Lib.hid (show Try.prog.built 23 [] = some ZL.toArray by rw [hZL]; exact zeroBuilt)
  have HSL := Lib.hid hSL
  have HOL := Lib.hid hOL
  have HZL := Lib.hid hZL
  clear hSL hOL hZL
  go_enter Try.func5, Try.ntmps5
  go_wp2_with fail
  refine Calls.mono (rtag_at 5 5 [] SL none 0 0 w rfl HSL.out rfl (by omega) (fun h => absurd h (by simp)) (by decide)) ?_
  rintro e w1 ⟨rfl, hb1⟩
  dsimp only
  go_wp2_with (refine wpList_builtP rfl _ _ rfl [(0, .int .u8 1)] rfl OL.toArray HOb.out ?_)
  refine Calls.mono (check_none (shaF (tagF 5 [])) oneD (shaF_length _) SL OL HSL.out none 0 w1) ?_
  rintro e w2 ⟨V, rfl, hsh, hb2⟩
  rw [chk_none] at hsh
  obtain rfl : V = .tuple #[.slice none 0 0, .bool false, .int .i64 0] := hsh
  dsimp only
  go_wp2_with (first
    | (refine wpList_builtP rfl _ _ rfl [] rfl ZL.toArray HZb.out ?_)
    | (refine wpList_builtP rfl _ _ rfl [(0, .int .u8 1)] rfl OL.toArray HOb.out ?_))
  refine Calls.mono (check_none zeros oneD (by simp [zeros]) ZL OL HZL.out none 0 w2) ?_
  rintro e w3 ⟨V, rfl, hsh3, hb3⟩
  rw [chk_zero] at hsh3
  obtain rfl : V = .tuple #[.slice none 0 0, .bool false, .int .i64 3] := hsh3
  dsimp only
  go_wp2_with fail
  go_ret
  exact ⟨rfl, (hb1.trans (hb2.mono hb1.size)).trans (hb3.mono (Nat.le_trans hb1.size hb2.size))⟩

end Go.Proofs.Ytnhfbggaiecalaa

namespace Go.Proofs.Ytnhfbggaiecalaa
open Go.RowKit Go.ChangeShapes Go.WideShapes
set_option linter.unusedVariables false

set_option maxRecDepth 100000 in
theorem arr_open {H : Type} {enc : TypeId × Value → H} {W : World} {r : Reach} {b0 base : Nat} {sp : Nat → Bool} {held : Bool} {T : TypeId} {n : Nat} {v : Value} {d : DataW H} {p : List MemPlace} (hT : Try.prog.underlying T = some (.array n 5)) (hC : Try.prog.cellsOf T = n)
    (hv : Value.okWide Try.prog W r b0 T v) (h : DataW.Trod enc Try.prog W base sp held T v d p) : ∃ l : List UInt8, l.length = n ∧ v = digV l := by
  obtain ⟨cs, rfl, hsz, _⟩ : ∃ cs, v = .agg cs ∧ cs.size = Try.prog.cellsOf T ∧ Row.okWide Try.prog W r b0 T cs := by
    simpa [Value.okWide, hT] using hv
  obtain ⟨fuel, hf⟩ := h
  obtain ⟨xs, m, _, _, hlen, hn, hel⟩ := DataW.trod_array hT hf
  obtain ⟨l⟩ := cs
  rw [hC] at hsz
  have hl : l.length = n := hsz
  have hc1 : Try.prog.cellsOf 5 = 1 := by kernel_rfl
  have hall : ∀ i, i < n → ∃ b : UInt8, l[i]? = some (.int .u8 (b.toNat : Nat)) := by
    intro i hi
    have h1 := hel i hi
    rw [hc1, Nat.mul_one] at h1
    have hx : xs[i]? = some (xs[i]'(by omega)) := List.getElem?_eq_getElem (by omega)
    rw [hx] at h1
    have hcs : (Value.agg l.toArray).cells.toList = l := by simp [Value.cells]
    have hd : ((l.drop i).take 1) = [l[i]'(by omega)] := by rw [List.drop_eq_getElem_cons (by omega)]; rfl
    have h2 : DataW.trod enc Try.prog W base sp held m 5 [l[i]'(by omega)] = some (xs[i]'(by omega)) := by
      rw [← hd]
      simpa [Value.cells] using h1
    obtain ⟨k, e, _, hw⟩ := DataW.trod_int Try.underlying5 h2
    have hb := bounds_u8 hw
    simp only [List.cons.injEq, and_true] at e
    refine ⟨k.toNat.toUInt8, ?_⟩
    rw [List.getElem?_eq_getElem (by omega), e, Lib.toUInt8_toNat (by omega), Int.toNat_of_nonneg hb.1]
  have hch : ∃ f : Nat → UInt8, ∀ i, i < n → l[i]? = some (.int .u8 ((f i).toNat : Nat)) := by
    classical
    refine ⟨fun i => if hi : i < n then Classical.choose (hall i hi) else 0, fun i hi => ?_⟩
    simp only [dif_pos hi]
    exact Classical.choose_spec (hall i hi)
  obtain ⟨f, hf2⟩ := hch
  refine ⟨(List.range n).map f, by simp, ?_⟩
  unfold digV
  congr 2
  apply List.ext_getElem?
  intro i
  by_cases hi : i < n
  · rw [hf2 i hi]
    simp [Lib.byteCells, hi]
  · rw [List.getElem?_eq_none (by omega), List.getElem?_eq_none (by simp [Lib.byteCells]; omega)]

end Go.Proofs.Ytnhfbggaiecalaa

namespace Go.Proofs.Ytnhfbggaiecalaa
open Go.RowKit
set_option linter.unusedVariables false
set_option linter.unusedSimpArgs false

/-- What is shown, taken apart. -/
theorem ShownP.apart {w' : World} {r : Option (Option (List UInt8))} {V : Value} (h : ShownP w' r V) :
    ∃ (A : Option Addr) (c : Nat), V = .tuple #[.slice A ((r.getD none).getD []).length c, .bool (r.getD none).isSome, .int .i64 (if r = none then 3 else 0)] ∧ ((r.getD none).getD []).length ≤ maxLen ∧ Bs w' w'.heap.size A ((r.getD none).getD []) := by
  unfold ShownP at h
  split at h
  · exact ⟨none, 0, by rw [h]; rfl, by simp [maxLen], Bs.nil _ _ _⟩
  · exact ⟨none, 0, by rw [h]; simp, by simp [maxLen], Bs.nil _ _ _⟩
  · obtain ⟨A, c, h1, h2, h3, h4⟩ := h
    exact ⟨A, c, by rw [h1]; simp, by simp; omega, h4⟩

theorem cl8_key {w : World} {b : Nat} {x : Cl8} {T : TypeId} (h : Arr w b T (clC x)) (XL : List Value) (hX : XL = Lib.byteCells x.itm.key) : w.rangeAt b 1 XL := fun j v hj => by
  have := h.cell (1 + j)
  rw [this]
  subst hX
  unfold clC itC
  rw [Nat.add_comm, List.getElem?_cons_succ, List.getElem?_append_left (List.getElem?_eq_some_iff.1 hj).1]
  exact hj
theorem cl8_val {w : World} {b : Nat} {x : Cl8} {T : TypeId} (h : Arr w b T (clC x)) (h32 : x.itm.key.length = 32) : w.cell? ⟨b, 33, none⟩ = some (.slice x.itm.adr x.itm.val.length x.itm.cap) := by
  rw [h.cell]
  unfold clC itC
  rw [List.getElem?_cons_succ, List.getElem?_append_right (by rw [Lib.byteCells_length, h32]; exact Nat.le_refl _), Lib.byteCells_length, h32]
  rfl
theorem cl8_what {w : World} {b : Nat} {x : Cl8} {T : TypeId} (h : Arr w b T (clC x)) : w.cell? ⟨b, 0, none⟩ = some (.int .i64 x.what) := by
  rw [h.cell]
  rfl

set_option maxHeartbeats 8000000 in
set_option maxRecDepth 100000 in
theorem pbound_great (WL : List Value) (cs : List Cl8) (A : Option Addr) (n c : Nat) (rs : List (List UInt8)) (Ar : Option Addr) (nr cr : Nat) (w : World) (hn : cs.length = n) (hc : n ≤ c) (hm : c ≤ maxLen) (hcs : Cls8 w w.heap.size A cs) (hnr : rs.length = nr) (hcr : nr ≤ cr) (hmr : cr ≤ maxLen) (hrows : RowsAt w w.heap.size Ar rs) (hg : (great8 cs || greatP rs) = true) :
    Calls Try.prog 4 #[.slice A n c, .agg WL.toArray, .slice Ar nr cr] w fun e w' => e = .returned (.bool true) ∧ Below w.heap.size w w' := by
  obtain ⟨W2, hW2⟩ : ∃ W2, W2 = w.alloc (.cells WL.toArray 23) := ⟨_, rfl⟩
  have hb2 : Below w.heap.size w W2 := by rw [hW2]; exact (Below.refl _ w).alloc (Nat.le_refl _) _
  have HW2 := Lib.hid hW2
  have Hn := Lib.hid hn
  have Hnr := Lib.hid hnr
  have Hrows := Lib.hid hrows
  have Hcs := Lib.hid hcs
  unfold maxLen at hm hmr
  obtain ⟨g8, hg8⟩ : ∃ g, great8 cs = g := ⟨_, rfl⟩
  obtain ⟨gp, hgp⟩ : ∃ g, greatP rs = g := ⟨_, rfl⟩
  have Hg8 := Lib.hid hg8
  have Hgp := Lib.hid hgp
  rw [hg8, hgp] at hg
  clear hW2 hn hnr hrows hcs hg8 hgp
  go_enter Try.func4, Try.ntmps4
  go_upto_region 1 with fail
  change Code.wp _ _ _ _ (w.alloc (.cells WL.toArray 23))
  rw [← HW2.out]
  clear HW2
  go_wp2_with fail
  refine Calls.mono (pspeaks_true W2) ?_
  rintro e w3 ⟨rfl, hb23⟩
  have hb3 := hb2.trans (hb23.mono hb2.size)
  clear hb23 hb2
  dsimp only
  go_wp2_with fail
  go_at_call 10
  refine Calls.mono (great8_any cs A n c w3 Hn.out hc hm (by have := Hcs.out.below hb3 (Nat.le_refl _); exact ⟨fun x hx => ⟨(this.1 x hx).k32, (this.1 x hx).le, (this.1 x hx).lim, (this.1 x hx).bs.more hb3.size⟩, fun hp => by obtain ⟨b, off, e, hlt, hr⟩ := this.2 hp; exact ⟨b, off, e, Nat.lt_of_lt_of_le hlt hb3.size, hr⟩⟩)) ?_
  rintro e w4 ⟨rfl, hb34⟩
  rw [Hg8.out]
  have hb4 := hb3.trans (hb34.mono hb3.size)
  clear hb34 hb3
  cases g8 with
  | true =>
    dsimp only
    go_wp2_with fail
    go_ret
    exact ⟨rfl, hb4⟩
  | false =>
    obtain rfl : gp = true := by simpa using hg
    dsimp only
    go_wp2_with fail
    go_at_call 6
    refine Calls.mono (greatP_any w.heap.size rs Ar nr cr w4 Hnr.out hcr hmr (Hrows.out.below hb4 (Nat.le_refl _))) ?_
    rintro e w5 ⟨rfl, rfl⟩
    rw [Hgp.out]
    dsimp only
    go_wp2_with fail
    go_ret
    exact ⟨rfl, hb4⟩

theorem pb_rows_one {w : World} {B : Nat} {A : Option Addr} {l : List UInt8} {n c : Nat} (T : TypeId) (hn : l.length = n) (hc : n ≤ c) (hm : c ≤ maxLen) (h : Bs w B A l) (hB : B ≤ w.heap.size) :
    RowsAt (w.alloc (.cells #[.slice A n c] T)) (w.heap.size + 1) (some ⟨w.heap.size, 0, none⟩) [l] := fun _ => by
  subst hn
  have ha := Arr.new w T [.slice A l.length c]
  have hb : Below w.heap.size w (w.alloc (.cells #[.slice A l.length c] T)) := (Below.refl _ w).alloc (Nat.le_refl _) _
  refine ⟨w.heap.size, 0, rfl, by omega, fun i hi => ?_⟩
  have hi2 : i = 0 := by simp at hi; omega
  subst hi2
  exact ⟨A, c, ha.cell 0, hc, hm, (h.below hb hB).more (by omega)⟩
set_option maxHeartbeats 40000000 in
set_option maxRecDepth 100000 in
theorem pbound_in (key : List UInt8) (hk : key.length = 32) (KL : List Value) (hKL : KL = Lib.byteCells key) (cs : List Cl8) (A : Option Addr) (n c : Nat) (rs : List (List UInt8)) (Ar : Option Addr) (nr cr : Nat) (w : World) (hn : cs.length = n) (hc : n ≤ c) (hm : c ≤ maxLen) (hcs : Cls8 w w.heap.size A cs) (hnr : rs.length = nr) (hcr : nr ≤ cr) (hmr : cr ≤ maxLen) (hrows : RowsAt w w.heap.size Ar rs) (hg8 : great8 cs = false) (hgp : greatP rs = false) :
    Calls Try.prog 4 #[.slice A n c, .agg KL.toArray, .slice Ar nr cr] w fun e w' => e = .returned (.bool true) ∧ Below w.heap.size w w' := by
  obtain ⟨h50, h200⟩ := great8_no hg8
  obtain ⟨h70, h2000⟩ := greatP_no hgp
  obtain ⟨W2, hW2⟩ : ∃ W2, W2 = w.alloc (.cells KL.toArray 23) := ⟨_, rfl⟩
  have hb2 : Below w.heap.size w W2 := by rw [hW2]; exact (Below.refl _ w).alloc (Nat.le_refl _) _
  have hK2 : Arr W2 w.heap.size 23 KL := by rw [hW2]; exact Arr.new w _ _
  obtain ⟨CZ, hCZ⟩ : ∃ CZ, CZ = clZ := ⟨_, rfl⟩
  have HZ := Lib.hid (fun w : World => show (zeroValue 39).run Try.prog w = .ok (.agg CZ.toArray) w by rw [hCZ]; exact callZero w)
  have HZl := Lib.hid (show CZ.length = 34 by rw [hCZ]; rfl)
  have HKi := Lib.hid (show (Try.prog.info? 23).map (·.size) = some KL.length by rw [hKL, Lib.byteCells_length, hk]; kernel_rfl)
  have HW2 := Lib.hid hW2
  have HKL := Lib.hid hKL
  have Hn := Lib.hid hn
  have Hnr := Lib.hid hnr
  have Hrows := Lib.hid hrows
  have Hcs := Lib.hid hcs
  have Hg8 := Lib.hid hg8
  have Hgp := Lib.hid hgp
  have H200 := Lib.hid h200
  have hm63 : c ≤ 9223372036854775807 := by unfold maxLen at hm; exact hm
  have hmr63 : cr ≤ 9223372036854775807 := by unfold maxLen at hmr; exact hmr
  clear hCZ hW2 hKL hn hnr hrows hcs hg8 hgp h200
  go_enter Try.func4, Try.ntmps4
  go_upto_region 1 with fail
  change Code.wp _ _ _ _ (w.alloc (.cells KL.toArray 23))
  rw [← HW2.out]
  clear HW2
  go_wp2_with fail
  refine Calls.mono (pspeaks_true W2) ?_
  rintro e w3 ⟨rfl, hb23⟩
  have hK3 := hK2.below hb23 hK2.lt
  have hb3 := hb2.trans (hb23.mono hb2.size)
  clear hb23 hb2 hK2
  dsimp only
  go_wp2_with fail
  go_at_call 10
  refine Calls.mono (great8_any cs A n c w3 Hn.out hc hm63 (by have := Hcs.out.below hb3 (Nat.le_refl _); exact ⟨fun x hx => ⟨(this.1 x hx).k32, (this.1 x hx).le, (this.1 x hx).lim, (this.1 x hx).bs.more hb3.size⟩, fun hp => by obtain ⟨b, off, e, hlt, hr⟩ := this.2 hp; exact ⟨b, off, e, Nat.lt_of_lt_of_le hlt hb3.size, hr⟩⟩)) ?_
  rintro e w4 ⟨rfl, hb34⟩
  rw [Hg8.out]
  have hK4 := hK3.below hb34 hK3.lt
  have hb4 := hb3.trans (hb34.mono hb3.size)
  clear hb34 hb3 hK3
  dsimp only
  go_wp2_with fail
  go_at_call 6
  refine Calls.mono (greatP_any w.heap.size rs Ar nr cr w4 Hnr.out hcr hmr63 (Hrows.out.below hb4 (Nat.le_refl _))) ?_
  rintro e w5 ⟨rfl, rfl⟩
  rw [Hgp.out]
  dsimp only
  obtain ⟨W6, hW6⟩ : ∃ W, W = w5.alloc (.cells #[] 45) := ⟨_, rfl⟩
  obtain ⟨g6, hg6⟩ : ∃ g, g = w5.heap.size := ⟨_, rfl⟩
  have hK6 : Arr W6 w.heap.size 23 KL := by rw [hW6]; exact hK4.alloc _
  have hb6 : Below w.heap.size w W6 := by rw [hW6]; exact hb4.alloc hb4.size _
  have hR6 : IRow W6 (w.heap.size + 1) (.slice (some ⟨g6, 0, none⟩) 0 0) (playI (cs.take 0)) := by rw [hW6, hg6]; exact IRow.empty w5 _ hK4.lt
  have HW6 := Lib.hid hW6
  have Hg6 := Lib.hid hg6
  clear hW6 hg6
  go_upto_region 7 with fail
  rw [← Hg6.out]
  change Code.wp _ _ _ _ (w5.alloc (.cells #[] 45))
  rw [← HW6.out]
  clear HW6 Hg6 hK4 hb4
  go_loopw [7, 27] (fun lv iv wr => ∃ i : Nat, i ≤ n ∧ iv = .int .i64 i ∧ Arr wr w.heap.size 23 KL ∧ Below w.heap.size w wr ∧ IRow wr (w.heap.size + 1) lv (playI (cs.take i))) (fun _ iv _ => n - (intOf iv).toNat)
  case atStart => exact ⟨0, Nat.zero_le _, rfl, hK6, hb6, hR6⟩
  case round =>
    clear hK6 hb6 hR6
    obtain ⟨i, hin, rfl, hKr, hbr, hRr⟩ := hrel
    by_cases hlt : i < n
    · have hd1 : decide ((i : Int) < (n : Int)) = true := by simp; omega
      obtain ⟨x, hx⟩ : ∃ x, cs[i]? = some x := ⟨cs[i]'(by rw [Hn.out]; exact hlt), List.getElem?_eq_getElem _⟩
      obtain ⟨b, off, rfl, hblk, hrow⟩ := Hcs.out.2 (by rw [Hn.out]; omega)
      have hxo := Hcs.out.1 x (List.mem_of_getElem? hx)
      obtain ⟨VL, hVL⟩ : ∃ VL, VL = clC x := ⟨_, rfl⟩
      have hVl : VL.length = 34 := by rw [hVL, clC_length hxo.k32]
      have hrg : wr.rangeAt b (off + i * 34) VL := fun j v hj => by
        rw [hVL] at hj
        rw [← hrow i x hx j v hj]
        exact World.cell?_of_block (hbr.block b hblk)
      have HVi := Lib.hid (show (Try.prog.info? 39).map (·.size) = some VL.length by rw [hVl]; exact callSize)
      have HVj := Lib.hid (show (Try.prog.info? 39).map (·.size) = some VL.toArray.size by rw [List.size_toArray, hVl]; exact callSize)
      have HV1 := Lib.hid (show VL.toArray.all (·.oneCell') = true by rw [hVL]; exact all_oneCell_toArray (clC_one x))
      have HVz := Lib.hid (show CZ.toArray.size = VL.toArray.size by rw [List.size_toArray, List.size_toArray, HZl.out, hVl])
      obtain ⟨wa, hwa⟩ : ∃ W, W = (wr.alloc (.cells CZ.toArray 39)).setRow wr.heap.size VL.toArray := ⟨_, rfl⟩
      obtain ⟨hVa, hbra⟩ := alloc_row wr 39 CZ.toArray VL
      rw [← hwa] at hVa hbra
      obtain ⟨XL, hXL⟩ : ∃ XL, XL = Lib.byteCells x.itm.key := ⟨_, rfl⟩
      obtain ⟨l, hl⟩ : ∃ l, x.itm.val.length = l := ⟨_, rfl⟩
      obtain ⟨wh, hwh⟩ : ∃ wh, x.what = wh := ⟨_, rfl⟩
      obtain ⟨Ax, hAx⟩ : ∃ a, x.itm.adr = a := ⟨_, rfl⟩
      obtain ⟨cx, hcx⟩ : ∃ a, x.itm.cap = a := ⟨_, rfl⟩
      have hVc := hVa
      rw [hVL] at hVc
      have h33 := cl8_val hVc hxo.k32
      have h00 := cl8_what hVc
      have hxk := cl8_key hVc XL hXL
      have HXi := Lib.hid (show (Try.prog.info? 23).map (·.size) = some XL.length by rw [hXL, Lib.byteCells_length, hxo.k32]; kernel_rfl)
      rw [hl, hAx, hcx] at h33
      rw [hwh] at h00
      have hKa := hKr.up hbra
      have hRa := hRr.up hbra
      have hba : Below w.heap.size w wa := hbr.trans (hbra.mono hbr.size)
      obtain ⟨A1, c1, rfl, h1c, h1m, hIt⟩ := hRa.slice
      obtain ⟨n1, hn1⟩ : ∃ n1, (playI (cs.take i)).length = n1 := ⟨_, rfl⟩
      have hn1' : n1 ≤ 100000 := by
        have := (playI_facts (cs.take i)).2.2
        rw [hn1] at this
        simp only [List.length_take] at this
        omega
      rw [hn1] at h1c ⊢
      have Hn1 := Lib.hid hn1
      have HIt := Lib.hid hIt
      have hplay := playI_take hx
      have Hplay := Lib.hid hplay
      have Hwa := Lib.hid hwa
      have Hl := Lib.hid hl
      have Hwh := Lib.hid hwh
      have Hy := Lib.hid (show x.itm = ⟨x.itm.key, x.itm.val, Ax, cx⟩ by rw [← hAx, ← hcx])
      have HXL := Lib.hid hXL
      have Hxk := Lib.hid hxo.k32
      clear hwa hl hx hrow hVL hVl hVa hVc hbra hbr hxo hAx hcx hXL hplay hRa hRr hn1 hIt hwh hKr
      go_upto_region 9 with (first
        | (refine wpList_load_mid rfl _ _ rfl b (off + i * 34) rfl VL _ hrg Try.underlying39 rfl HVi.out ?_)
        | (refine wpList_allocZ8 rfl 39 rfl CZ.toArray (HZ.out _) ?_)
        | (refine wpList_store_row rfl _ _ _ rfl wr.heap.size VL.toArray rfl rfl 39 CZ.toArray (heap_alloc_new wr _) HVj.out HVz.out HV1.out ?_; rw [← Hwa.out]))
      by_cases h0 : wh = 0
      · subst h0
        go_upto_region 10 with fail
        go_wp2_with (refine wpList_load_mid rfl _ _ rfl wr.heap.size 1 rfl XL _ hxk Try.underlying23 rfl HXi.out ?_)
        go_at_call 11
        refine Calls.mono (put_runI x.itm.key Hxk.out XL HXL.out (playI (cs.take i)) A1 Ax n1 c1 l cx x.itm.val Hl.out wa Hn1.out h1c hn1' HIt.out x.itm Hy.out) ?_
        rintro e wb ⟨v, rfl, hRb, hbab⟩
        have hKb := hKa.below hbab hKa.lt
        have hbb := hba.trans (hbab.mono hba.size)
        have hRc : IRow wb (w.heap.size + 1) v (playI (cs.take (i + 1))) := by
          rw [Hplay.out]
          unfold playS
          rw [if_pos Hwh.out]
          exact hRb.base hKa.lt
        clear hbab hRb hKa hba
        dsimp only
        go_wp2_with fail
        go_roundw
        case rel => exact ⟨i + 1, by omega, by go_num, hKb, hbb, hRc⟩
        case measure => simp [intOf]; omega
      · have hw0 : (wh == 0) = false := by simpa using h0
        have hw1 : decide (wh = 0) = false := by simpa using h0
        go_upto_region 11 with fail
        go_wp2_with (refine wpList_load_mid rfl _ _ rfl wr.heap.size 1 rfl XL _ hxk Try.underlying23 rfl HXi.out ?_)
        go_at_call 12
        refine Calls.mono (drop_run x.itm.key Hxk.out XL HXL.out (playI (cs.take i)) A1 n1 c1 wa Hn1.out h1c hn1' HIt.out) ?_
        rintro e wb ⟨v, rfl, hRb, hbab⟩
        have hKb := hKa.below hbab hKa.lt
        have hbb := hba.trans (hbab.mono hba.size)
        have hRc : IRow wb (w.heap.size + 1) v (playI (cs.take (i + 1))) := by
          rw [Hplay.out]
          unfold playS
          rw [if_neg (by rw [Hwh.out]; exact h0)]
          exact hRb.base hKa.lt
        clear hbab hRb hKa hba
        dsimp only
        go_wp2_with fail
        go_roundw
        case rel => exact ⟨i + 1, by omega, by go_num, hKb, hbb, hRc⟩
        case measure => simp [intOf]; omega
    · have hd1 : decide ((i : Int) < (n : Int)) = false := by simp; omega
      obtain rfl : i = n := by omega
      have htk : cs.take i = cs := List.take_of_length_le (by rw [Hn.out]; exact Nat.le_refl _)
      rw [htk] at hRr
      obtain ⟨f1, f2, f3⟩ := playI_facts cs
      obtain ⟨xs, hxs⟩ : ∃ xs, playI cs = xs := ⟨_, rfl⟩
      rw [hxs] at hRr f1 f2 f3
      have hok : ItsOk wr wr.heap.size xs := fun y hy => by
        obtain ⟨x, hx, rfl⟩ := f2 y hy
        have h1 := Hcs.out.1 x hx
        exact ⟨h1.k32, h1.le, h1.lim, (h1.bs.below hbr (Nat.le_refl _)).more hbr.size⟩
      have hvals : ∀ y ∈ xs, y.val.length ≤ 1000 := fun y hy => by
        obtain ⟨x, hx, rfl⟩ := f2 y hy
        have := H200.out x hx
        omega
      obtain ⟨A1, c1, rfl, h1c, h1m, hIt⟩ := hRr.slice
      obtain ⟨n1, hn1⟩ : ∃ n1, xs.length = n1 := ⟨_, rfl⟩
      have hn1' : n1 ≤ 50 := by rw [hn1] at f3; have := Hn.out; omega
      rw [hn1] at h1c ⊢
      have hfit : ItsFit wr xs A1 n1 c1 := ⟨hn1, h1c, by omega, f1.good (fun y hy => (hok y hy).k32), hvals, hok, hIt⟩
      have Hgood := Lib.hid hfit.good
      have Hvals := Lib.hid hvals
      have Hn1 := Lib.hid hn1
      have hrowsr : RowsAt wr wr.heap.size Ar rs := (Hrows.out.below hbr (Nat.le_refl _)).more hbr.size
      have hrt32 : (rootF (xs.map Itm.it)).length = 32 := by
        unfold rootF nodeD
        split <;> exact shaF_length _
      obtain ⟨rt, hrt⟩ : ∃ rt, rootF (xs.map Itm.it) = rt := ⟨_, rfl⟩
      obtain ⟨RL, hRL⟩ : ∃ RL, RL = Lib.byteCells rt := ⟨_, rfl⟩
      obtain ⟨res, hres⟩ : ∃ res, chkF rt key rs 0 = res := ⟨_, rfl⟩
      rw [hrt] at hrt32
      have HRLx : Hid (RL = Lib.byteCells (rootF (xs.map Itm.it))) := by show RL = _; rw [hRL, hrt]
      have Hrt := Lib.hid hrt
      have Hrt32 := Lib.hid hrt32
      have HRL := Lib.hid hRL
      have Hres := Lib.hid hres
      obtain ⟨v, hv⟩ : ∃ v, (res.getD none).getD [] = v := ⟨_, rfl⟩
      obtain ⟨bt, hbt⟩ : ∃ bt, (res.getD none).isSome = bt := ⟨_, rfl⟩
      obtain ⟨cd, hcd⟩ : ∃ cd : Int, (if res = none then 3 else 0) = cd := ⟨_, rfl⟩
      obtain ⟨vl, hvl⟩ : ∃ vl, v.length = vl := ⟨_, rfl⟩
      have Hparts : Hid (∀ (w' : World) V, ShownP w' (chkF rt key rs 0) V → ∃ (A : Option Addr) (c : Nat), V = .tuple #[.slice A vl c, .bool bt, .int .i64 cd] ∧ vl ≤ maxLen ∧ Bs w' w'.heap.size A v) := fun w' V h => by
        have := h.apart
        rw [hres, hv, hbt, hcd, hvl] at this
        exact this
      have Hv := Lib.hid hv
      have Hbt := Lib.hid hbt
      have Hcd := Lib.hid hcd
      have Hvl := Lib.hid hvl
      have hfit1 := hfit.up (Below.dN (Below.refl _ wr) 1)
      have Hfit := Lib.hid hfit
      have H2000 := Lib.hid h2000
      clear hn1 hvals hok f1 f2 f3 hxs hIt htk hRr hfit hrt hrt32 hRL hres hv hbt hcd hvl h2000 h50
      go_upto_region 13 with fail
      refine wp_region_held_drew (S := fun w' => Arr w' w.heap.size 23 KL) (by kernel_rfl) (hKr.drewN 1) (fun hHeld => ?_)
      refine anyH_take (i := 0) (v := .slice A1 n1 c1) (some 46) rfl rfl (by kernel_rfl) (by kernel_rfl) (by kernel_rfl) (fun _ _ _ h => h) (Or.inl ⟨by rfl, fun w' hw => by go_simp⟩) (by assumption) ?_
      simp only [Act.put, List.setIfInBounds_toArray, List.set_cons_zero, List.set_cons_succ]
      refine anyH_take (i := 2) (some 48) rfl rfl (by kernel_rfl) (by kernel_rfl) (by kernel_rfl) (fun _ _ _ h => h) (yieldsIf_load_mid (by rfl) 23 (.tmp 4) rfl w.heap.size 0 rfl KL _ (fun w' h => h.range) Try.underlying23 rfl HKi.out) (by assumption) ?_
      simp only [Act.put, List.setIfInBounds_toArray, List.set_cons_zero, List.set_cons_succ]
      refine anyH_take (i := 3) (v := .slice Ar nr cr) (some 49) rfl rfl (by kernel_rfl) (by kernel_rfl) (by kernel_rfl) (fun _ _ _ h => h) (Or.inl ⟨by rfl, fun w' hw => by go_simp⟩) (by assumption) ?_
      simp only [Act.put, List.setIfInBounds_toArray, List.set_cons_zero, List.set_cons_succ]
      refine wpAnyH_ready (rs := [1]) (by kernel_rfl) (by simp) ?_
      refine AllReadyH.cons rfl (fun K hK => ?_) AllReadyH.nil
      go_simp
      go_at_call 13
      refine Calls.mono (root_runI xs A1 n1 c1 (wr.drewN 1) hfit1 RL HRLx.out) ?_
      rintro e w1 ⟨rfl, hb01⟩
      have hbx : Below wr.heap.size wr w1 := ⟨hb01.os, hb01.tape, hb01.output, hb01.size, hb01.block⟩
      have hK1 := hKr.below hbx hKr.lt
      have hb1 : Below w.heap.size w w1 := hbr.trans (hbx.mono hbr.size)
      have hfit2 := Hfit.out.up hbx
      clear hb01 hbx hfit1 hKr hrowsr
      dsimp only
      go_wp2_with fail
      refine hK.out _ _ hK1 (fun hHeldx => ?_)
      clear hK K
      try simp only [Act.put, List.setIfInBounds_toArray, List.set_cons_zero, List.set_cons_succ]
      refine wpAnyH_ready (rs := [4]) (by kernel_rfl) (by simp) ?_
      refine AllReadyH.cons rfl (fun K hK => ?_) AllReadyH.nil
      go_simp
      go_at_call 7
      refine Calls.mono (check_run rt key Hrt32.out hk RL KL HRL.out HKL.out rs Ar nr cr w1 Hnr.out hcr hmr ((Hrows.out.below hb1 (Nat.le_refl _)).more hb1.size) H2000.out (by have := Hnr.out; omega)) ?_
      rintro e w2 ⟨V, rfl, hsh, hb12⟩
      obtain ⟨Av, cv, rfl, hvm, hvb⟩ := Hparts.out _ _ hsh
      have hfit3 := hfit2.up (hb12.mono (Nat.le_refl _))
      have hK2 := hK1.below hb12 hK1.lt
      have hb2 := hb1.trans (hb12.mono hb1.size)
      clear hb12 hfit2 hK1 hb1 hsh
      dsimp only
      go_wp2_with fail
      refine hK.out _ _ hK2 (fun hHeldx => ?_)
      clear hK K
      try simp only [Act.put, List.setIfInBounds_toArray, List.set_cons_zero, List.set_cons_succ]
      refine anyH_take (i := 5) (v := .tuple #[.slice Av vl cv, .bool bt, .int .i64 cd]) (some 45) rfl rfl (by kernel_rfl) (by kernel_rfl) (by kernel_rfl) (fun _ _ _ h => h) (Or.inl ⟨by rfl, fun w' hw => by go_simp⟩) (by assumption) ?_
      simp only [Act.put, List.setIfInBounds_toArray, List.set_cons_zero, List.set_cons_succ]
      refine anyH_take (i := 6) (v := .slice Av vl cv) (some 51) rfl rfl (by kernel_rfl) (by kernel_rfl) (by kernel_rfl) (fun _ _ _ h => h) (Or.inl ⟨by rfl, fun w' hw => by go_simp⟩) (by assumption) ?_
      simp only [Act.put, List.setIfInBounds_toArray, List.set_cons_zero, List.set_cons_succ]
      refine anyH_take (i := 7) (v := .bool bt) (some 52) rfl rfl (by kernel_rfl) (by kernel_rfl) (by kernel_rfl) (fun _ _ _ h => h) (Or.inl ⟨by rfl, fun w' hw => by go_simp⟩) (by assumption) ?_
      simp only [Act.put, List.setIfInBounds_toArray, List.set_cons_zero, List.set_cons_succ]
      refine anyH_take (i := 8) (v := .int .i64 cd) (some 53) rfl rfl (by kernel_rfl) (by kernel_rfl) (by kernel_rfl) (fun _ _ _ h => h) (Or.inl ⟨by rfl, fun w' hw => by go_simp⟩) (by assumption) ?_
      simp only [Act.put, List.setIfInBounds_toArray, List.set_cons_zero, List.set_cons_succ]
      refine anyH_take (i := 9) (v := .slice Av vl cv) (some 10) rfl rfl (by kernel_rfl) (by kernel_rfl) (by kernel_rfl) (fun _ _ _ h => h) (Or.inl ⟨by rfl, fun w' hw => by go_simp⟩) (by assumption) ?_
      simp only [Act.put, List.setIfInBounds_toArray, List.set_cons_zero, List.set_cons_succ]
      refine anyH_take (i := 10) (v := .bool bt) (some 11) rfl rfl (by kernel_rfl) (by kernel_rfl) (by kernel_rfl) (fun _ _ _ h => h) (Or.inl ⟨by rfl, fun w' hw => by go_simp⟩) (by assumption) ?_
      simp only [Act.put, List.setIfInBounds_toArray, List.set_cons_zero, List.set_cons_succ]
      refine anyH_take (i := 11) (v := .int .i64 cd) (some 12) rfl rfl (by kernel_rfl) (by kernel_rfl) (by kernel_rfl) (fun _ _ _ h => h) (Or.inl ⟨by rfl, fun w' hw => by go_simp⟩) (by assumption) ?_
      simp only [Act.put, List.setIfInBounds_toArray, List.set_cons_zero, List.set_cons_succ]
      refine wpAnyH_done (by kernel_rfl) ?_ _
      clear hHeld hHeldx
      have hcd2 := Hcd.out
      by_cases hrn : res = none
      · rw [if_pos hrn] at hcd2
        subst hcd2
        go_wp2_with fail
        go_ret
        exact ⟨rfl, hb2⟩
      · rw [if_neg hrn] at hcd2
        subst hcd2
        obtain ⟨rr, rfl⟩ := Option.ne_none_iff_exists'.1 hrn
        obtain ⟨z, hz⟩ : ∃ z, findI xs key 0 = z := ⟨_, rfl⟩
        have Hz := Lib.hid hz
        clear hrn Hcd hz
        have hki := hK2.range
        go_upto_region 16 with fail
        go_wp2_with (refine wpList_load_mid rfl _ _ rfl w.heap.size 0 rfl KL _ hki Try.underlying23 rfl HKi.out ?_)
        go_at_call 14
        refine Calls.mono (find_run key hk KL HKL.out xs A1 n1 c1 w2 hfit3.len hfit3.le (by omega) hfit3.at_ z Hz.out) ?_
        rintro e w3 ⟨rfl, hb23⟩
        have hfit4 := hfit3.up (hb23.mono (Nat.le_refl _))
        have hvb3 := hvb.below hb23 (Nat.le_refl _)
        have hK3 := hK2.below hb23 hK2.lt
        have hb3 := hb2.trans (hb23.mono hb2.size)
        have hB3 := hb23.size
        clear hfit3 hki hvb hK2 hb2 hb23
        dsimp only
        go_upto_region 17 with fail
        have hbt2 := Hbt.out
        have hv2 := Hv.out
        rcases findI_facts key xs 0 with ⟨hf1, hf2⟩ | ⟨j, x, hx, hf1, hf2⟩
        · rw [Hz.out] at hf2
          subst hf2
          cases rr with
          | none =>
            simp only [Option.getD_some, Option.isSome_none] at hbt2
            subst hbt2
            clear hf1 hv2
            go_wp2_with fail
            go_ret
            exact ⟨rfl, hb3⟩
          | some u =>
            simp only [Option.getD_some, Option.isSome_some] at hbt2
            subst hbt2
            have Ht := Lib.hid (bound_tail key hk (xs.map Itm.it) rs (some u) Hgood.out (fun y hy => by obtain ⟨q, hq, rfl⟩ := List.mem_map.1 hy; exact Hvals.out q hq) (by rw [Hrt.out, Hres.out]) (by rw [hf1]; intro e; cases e))
            clear hf1 hv2
            obtain ⟨P, hP⟩ : ∃ P, proveF key 65 (xs.map Itm.it) 0 = P := ⟨_, rfl⟩
            have ht := Ht.out
            rw [hP] at ht
            have HPl := Lib.hid (proveF_len key 65 (xs.map Itm.it) 0 Hgood.out (fun y hy => by obtain ⟨q, hq, rfl⟩ := List.mem_map.1 hy; exact Hvals.out q hq) (fun i hi => by omega) (by omega))
            have HPl2 : Hid (∀ a ∈ P, a.length ≤ 1900) := by show ∀ a ∈ P, a.length ≤ 1900; rw [← hP]; exact HPl.out
            have HP := Lib.hid hP
            have Ht2 := Lib.hid ht
            have hki := hK3.range
            clear ht hP HPl Ht
            go_upto_region 19 with fail
            go_wp2_with (refine wpList_load_mid rfl _ _ rfl w.heap.size 0 rfl KL _ hki Try.underlying23 rfl HKi.out ?_)
            go_at_call 15
            refine Calls.mono (prove_runI key hk KL HKL.out xs _ n1 c1 _ hfit4 P HP.out) ?_
            rintro e w6 ⟨vP, rfl, hN, hb56⟩
            have hb6 := hb3.trans (hb56.mono hb3.size)
            obtain ⟨AP, cP, rfl, hP1, hP2, hPr⟩ := hN.rows
            obtain ⟨np, hnp⟩ : ∃ np, P.length = np := ⟨_, rfl⟩
            rw [hnp] at hP1 ⊢
            have hP63 : cP ≤ 9223372036854775807 := by unfold maxLen at hP2; exact hP2
            have Hnp := Lib.hid hnp
            have HPr := Lib.hid hPr
            have Hrs6 : Hid (RowsAt w6 w6.heap.size Ar rs) := (Hrows.out.below hb6 (Nat.le_refl _)).more hb6.size
            clear hnp hPr hN hb56 hki hfit4 hK3 hb3
            dsimp only
            go_upto_region 21 with fail
            go_loopw [15] (fun iv wr => ∃ i : Nat, i ≤ np ∧ i ≤ nr ∧ iv = .int .i64 i ∧ Below w6.heap.size w6 wr ∧ Hid (P.take i = rs.take i)) (fun iv _ => np - (intOf iv).toNat)
            case atStart => exact ⟨0, Nat.zero_le _, Nat.zero_le _, rfl, Below.refl _ _, rfl⟩
            case round =>
              obtain ⟨i, hi1, hi2, rfl, hbr6, Hi⟩ := hrel
              have hPrr : RowsAt wr wr.heap.size AP P := (HPr.out.below hbr6 (Nat.le_refl _)).more hbr6.size
              have hrsr : RowsAt wr wr.heap.size Ar rs := (Hrs6.out.below hbr6 (Nat.le_refl _)).more hbr6.size
              have hbw : Below w.heap.size w wr := hb6.trans (hbr6.mono hb6.size)
              by_cases hip : i < np
              · have hd1 : decide ((i : Int) < (np : Int)) = true := by simp; omega
                by_cases hir : i < nr
                · have hd2 : decide ((i : Int) < (nr : Int)) = true := by simp; omega
                  obtain ⟨a, ha⟩ : ∃ a, P[i]? = some a := ⟨P[i]'(by rw [Hnp.out]; exact hip), List.getElem?_eq_getElem _⟩
                  obtain ⟨b2, hb2'⟩ : ∃ b, rs[i]? = some b := ⟨rs[i]'(by rw [Hnr.out]; exact hir), List.getElem?_eq_getElem _⟩
                  have hga : P.getD i [] = a := by simp [List.getD, ha]
                  have hgb : rs.getD i [] = b2 := by simp [List.getD, hb2']
                  obtain ⟨bp, op, rfl, hbpl, hcp⟩ := hPrr (by rw [Hnp.out]; omega)
                  obtain ⟨br, orr, rfl, hbrl, hcr2⟩ := hrsr (by rw [Hnr.out]; omega)
                  obtain ⟨Aa, ca, ha1, ha2, ha3, ha4⟩ := hcp i (by rw [Hnp.out]; exact hip)
                  obtain ⟨Ab, cb, hb1', hb2x, hb3', hb4'⟩ := hcr2 i (by rw [Hnr.out]; exact hir)
                  rw [hga] at ha1 ha2 ha4
                  rw [hgb] at hb1' hb2x hb4'
                  obtain ⟨la, hla⟩ : ∃ l, a.length = l := ⟨_, rfl⟩
                  obtain ⟨lb, hlb⟩ : ∃ l, b2.length = l := ⟨_, rfl⟩
                  rw [hla] at ha1 ha2
                  rw [hlb] at hb1' hb2x
                  have Hca := Lib.hid (fun (w' : World) (h : Below wr.heap.size wr w') => show w'.cell? ⟨bp, op + i, none⟩ = some (.slice Aa la ca) from (World.cell?_of_block (h.block bp hbpl)).trans ha1)
                  have Hcb := Lib.hid (fun (w' : World) (h : Below wr.heap.size wr w') => show w'.cell? ⟨br, orr + i, none⟩ = some (.slice Ab lb cb) from (World.cell?_of_block (h.block br hbrl)).trans hb1')
                  have Hba := Lib.hid ha4
                  have Hbb := Lib.hid hb4'
                  have Hla := Lib.hid hla
                  have Hlb := Lib.hid hlb
                  have Ha := Lib.hid ha
                  have Hb := Lib.hid hb2'
                  have hlam : la ≤ 1900 := by rw [← hla]; exact HPl2.out a (List.mem_of_getElem? ha)
                  have hlbm : lb ≤ 2000 := by rw [← hlb]; exact H2000.out b2 (List.mem_of_getElem? hb2')
                  obtain ⟨ans, hans⟩ : ∃ x, decide (a = b2) = x := ⟨_, rfl⟩
                  have Hans := Lib.hid hans
                  clear hga hgb hcp hcr2 ha1 ha4 hb1' hb4' hla hlb ha hb2' hans hPrr hrsr
                  go_upto_region 23 with fail
                  refine wp_region_held_drew (S := fun w' => Below wr.heap.size wr w') (by kernel_rfl) (Below.dN (Below.refl _ wr) 1) (fun hHeld => ?_)
                  refine anyH_take (i := 0) (v := .slice (some ⟨bp, op, none⟩) np cP) (some 91) rfl rfl (by kernel_rfl) (by kernel_rfl) (by kernel_rfl) (fun _ _ _ h => h) (Or.inl ⟨by rfl, fun w' hw => by go_simp⟩) (by assumption) ?_
                  simp only [Act.put, List.setIfInBounds_toArray, List.set_cons_zero, List.set_cons_succ]
                  refine anyH_take (i := 1) (v := .int .i64 (i : Nat)) (some 92) rfl rfl (by kernel_rfl) (by kernel_rfl) (by kernel_rfl) (fun _ _ _ h => h) (Or.inl ⟨by rfl, fun w' hw => by go_simp⟩) (by assumption) ?_
                  simp only [Act.put, List.setIfInBounds_toArray, List.set_cons_zero, List.set_cons_succ]
                  refine anyH_take (i := 2) (v := .pointer (some ⟨bp, op + i, none⟩)) (some 93) rfl rfl (by kernel_rfl) (by kernel_rfl) (by kernel_rfl) (fun _ _ _ h => h) (Or.inl ⟨by rfl, fun w' hw => by (go_simp; try (intro h; omega))⟩) (by assumption) ?_
                  simp only [Act.put, List.setIfInBounds_toArray, List.set_cons_zero, List.set_cons_succ]
                  refine anyH_take (i := 3) (v := .slice Aa la ca) (some 94) rfl rfl (by kernel_rfl) (by kernel_rfl) (by kernel_rfl) (fun _ _ _ h => h) (Or.inl ⟨by rfl, fun w' hw => by (have hc := Hca.out w' hw; go_simp)⟩) (by assumption) ?_
                  simp only [Act.put, List.setIfInBounds_toArray, List.set_cons_zero, List.set_cons_succ]
                  refine anyH_take (i := 4) (v := .slice (some ⟨br, orr, none⟩) nr cr) (some 95) rfl rfl (by kernel_rfl) (by kernel_rfl) (by kernel_rfl) (fun _ _ _ h => h) (Or.inl ⟨by rfl, fun w' hw => by go_simp⟩) (by assumption) ?_
                  simp only [Act.put, List.setIfInBounds_toArray, List.set_cons_zero, List.set_cons_succ]
                  refine anyH_take (i := 5) (v := .int .i64 (i : Nat)) (some 96) rfl rfl (by kernel_rfl) (by kernel_rfl) (by kernel_rfl) (fun _ _ _ h => h) (Or.inl ⟨by rfl, fun w' hw => by go_simp⟩) (by assumption) ?_
                  simp only [Act.put, List.setIfInBounds_toArray, List.set_cons_zero, List.set_cons_succ]
                  refine anyH_take (i := 6) (v := .pointer (some ⟨br, orr + i, none⟩)) (some 97) rfl rfl (by kernel_rfl) (by kernel_rfl) (by kernel_rfl) (fun _ _ _ h => h) (Or.inl ⟨by rfl, fun w' hw => by (go_simp; try (intro h; omega))⟩) (by assumption) ?_
                  simp only [Act.put, List.setIfInBounds_toArray, List.set_cons_zero, List.set_cons_succ]
                  refine anyH_take (i := 7) (v := .slice Ab lb cb) (some 98) rfl rfl (by kernel_rfl) (by kernel_rfl) (by kernel_rfl) (fun _ _ _ h => h) (Or.inl ⟨by rfl, fun w' hw => by (have hc := Hcb.out w' hw; go_simp)⟩) (by assumption) ?_
                  simp only [Act.put, List.setIfInBounds_toArray, List.set_cons_zero, List.set_cons_succ]
                  refine wpAnyH_ready (rs := [8]) (by kernel_rfl) (by simp) ?_
                  refine AllReadyH.cons rfl (fun K hK => ?_) AllReadyH.nil
                  go_simp
                  go_at_call 9
                  refine Calls.mono (same_n wr.heap.size wr.heap.size Aa Ab ca cb la lb a b2 (wr.drewN 1) ans Hba.out Hbb.out Hla.out Hlb.out (by omega) (by omega) Hans.out) ?_
                  rintro e w7 ⟨rfl, k7, rfl⟩
                  dsimp only
                  go_wp2_with fail
                  refine hK.out _ _ (Below.dN (Below.dN (Below.refl _ wr) 1) k7) (fun hHeldx => ?_)
                  clear hK K
                  try simp only [Act.put, List.setIfInBounds_toArray, List.set_cons_zero, List.set_cons_succ]
                  cases ans with
                  | true =>
                    refine anyH_take (i := 9) (v := .bool false) (some 100) rfl rfl (by kernel_rfl) (by kernel_rfl) (by kernel_rfl) (fun _ _ _ h => h) (Or.inl ⟨by rfl, fun w' hw => by go_simp⟩) (by assumption) ?_
                    simp only [Act.put, List.setIfInBounds_toArray, List.set_cons_zero, List.set_cons_succ]
                    refine wpAnyH_done (by kernel_rfl) ?_ _
                    clear hHeld hHeldx
                    have hab : a = b2 := by simpa using Hans.out
                    have Hi2 : Hid (P.take (i + 1) = rs.take (i + 1)) := take_one Hi.out Ha.out (by rw [hab]; exact Hb.out)
                    have hbn := Below.dN hbr6 (1 + k7)
                    clear hab
                    go_wp2_with fail
                    go_roundw
                    case rel => exact ⟨i + 1, by omega, by omega, by go_num, hbn, Hi2⟩
                    case measure => simp [intOf]; omega
                  | false =>
                    refine anyH_take (i := 9) (v := .bool true) (some 100) rfl rfl (by kernel_rfl) (by kernel_rfl) (by kernel_rfl) (fun _ _ _ h => h) (Or.inl ⟨by rfl, fun w' hw => by go_simp⟩) (by assumption) ?_
                    simp only [Act.put, List.setIfInBounds_toArray, List.set_cons_zero, List.set_cons_succ]
                    refine wpAnyH_done (by kernel_rfl) ?_ _
                    clear hHeld hHeldx
                    have hab : a ≠ b2 := by simpa using Hans.out
                    obtain ⟨SL, hSL⟩ : ∃ SL, SL = Lib.byteCells (shaF (tagF 4 [a])) := ⟨_, rfl⟩
                    have HSb : Hid (SL = Lib.byteCells (shaF (tagF 4 [b2]))) := by show SL = _; rw [hSL, Ht2.out.1 i a b2 Hi.out Ha.out Hb.out hab]
                    have HSL := Lib.hid hSL
                    have Hcmp := Lib.hid (fun w => digCmpP _ _ (shaF_length (tagF 4 [a])) (shaF_length (tagF 4 [a])) SL SL hSL hSL true (by simp) w)
                    have HYa := Lib.hid (show (tagF 4 [a]).length ≤ 1000000 from tag_one_bound a (by rw [Hla.out]; omega))
                    have HYb := Lib.hid (show (tagF 4 [b2]).length ≤ 1000000 from tag_one_bound b2 (by rw [Hlb.out]; omega))
                    clear hab hSL
                    go_upto_region 24 with fail
                    obtain ⟨w8, hw8⟩ : ∃ W, W = ((wr.drewN 1).drewN k7).drewN 1 := ⟨_, rfl⟩
                    have hB8 : Below wr.heap.size wr w8 := by rw [hw8]; exact Below.dN (Below.dN (Below.dN (Below.refl _ wr) 1) k7) 1
                    refine wp_region_held_drew (S := fun w' => Below wr.heap.size wr w') (by kernel_rfl) (by first | (rw [← hw8]; exact hB8) | exact Below.dN (Below.dN (Below.dN (Below.refl _ wr) 1) k7) 1 | exact Below.dN (Below.dN (Below.refl _ wr) _) 1) (fun hHeld => ?_)
                    first | rw [← hw8] at hHeld ⊢ | (change wpAnyH _ _ _ _ _ _ _ _ (((wr.drewN 1).drewN k7).drewN 1); rw [← hw8])
                    clear hw8
                    refine anyH_take (i := 0) (v := .slice (some ⟨bp, op, none⟩) np cP) (some 101) rfl rfl (by kernel_rfl) (by kernel_rfl) (by kernel_rfl) (fun _ _ _ h => h) (Or.inl ⟨by rfl, fun _ hw => by go_simp⟩) (by assumption) ?_
                    simp only [Act.put, List.setIfInBounds_toArray, List.set_cons_zero, List.set_cons_succ]
                    refine anyH_take (i := 1) (v := .int .i64 (i : Nat)) (some 102) rfl rfl (by kernel_rfl) (by kernel_rfl) (by kernel_rfl) (fun _ _ _ h => h) (Or.inl ⟨by rfl, fun _ hw => by go_simp⟩) (by assumption) ?_
                    simp only [Act.put, List.setIfInBounds_toArray, List.set_cons_zero, List.set_cons_succ]
                    refine anyH_take (i := 2) (v := .pointer (some ⟨bp, op + i, none⟩)) (some 103) rfl rfl (by kernel_rfl) (by kernel_rfl) (by kernel_rfl) (fun _ _ _ h => h) (Or.inl ⟨by rfl, fun _ hw => by (go_simp; try (intro h; omega))⟩) (by assumption) ?_
                    simp only [Act.put, List.setIfInBounds_toArray, List.set_cons_zero, List.set_cons_succ]
                    refine anyH_take (i := 3) (v := .slice Aa la ca) (some 104) rfl rfl (by kernel_rfl) (by kernel_rfl) (by kernel_rfl) (fun _ _ _ h => h) (Or.inl ⟨by rfl, fun _ hw => by (have hc := Hca.out _ hw; go_simp)⟩) (by assumption) ?_
                    simp only [Act.put, List.setIfInBounds_toArray, List.set_cons_zero, List.set_cons_succ]
                    refine anyH_take (i := 6) (v := .slice (some ⟨br, orr, none⟩) nr cr) (some 107) rfl rfl (by kernel_rfl) (by kernel_rfl) (by kernel_rfl) (fun _ _ _ h => h) (Or.inl ⟨by rfl, fun _ hw => by go_simp⟩) (by assumption) ?_
                    simp only [Act.put, List.setIfInBounds_toArray, List.set_cons_zero, List.set_cons_succ]
                    refine anyH_take (i := 7) (v := .int .i64 (i : Nat)) (some 108) rfl rfl (by kernel_rfl) (by kernel_rfl) (by kernel_rfl) (fun _ _ _ h => h) (Or.inl ⟨by rfl, fun _ hw => by go_simp⟩) (by assumption) ?_
                    simp only [Act.put, List.setIfInBounds_toArray, List.set_cons_zero, List.set_cons_succ]
                    refine anyH_take (i := 8) (v := .pointer (some ⟨br, orr + i, none⟩)) (some 109) rfl rfl (by kernel_rfl) (by kernel_rfl) (by kernel_rfl) (fun _ _ _ h => h) (Or.inl ⟨by rfl, fun _ hw => by (go_simp; try (intro h; omega))⟩) (by assumption) ?_
                    simp only [Act.put, List.setIfInBounds_toArray, List.set_cons_zero, List.set_cons_succ]
                    refine anyH_take (i := 9) (v := .slice Ab lb cb) (some 110) rfl rfl (by kernel_rfl) (by kernel_rfl) (by kernel_rfl) (fun _ _ _ h => h) (Or.inl ⟨by rfl, fun _ hw => by (have hc := Hcb.out _ hw; go_simp)⟩) (by assumption) ?_
                    simp only [Act.put, List.setIfInBounds_toArray, List.set_cons_zero, List.set_cons_succ]
                    refine wpAnyH_ready (rs := [4, 10]) (by kernel_rfl) (by simp) ?_
                    refine AllReadyH.cons rfl (fun KC hKC => ?_) (AllReadyH.cons rfl (fun KC hKC => ?_) AllReadyH.nil)
                    · go_simp
                      have hBa41 := hB8.alloc hB8.size (.cells #[.slice Aa la ca] 27)
                      refine hKC.out _ _ hBa41 (fun hHeld41 => ?_)
                      clear hKC KC
                      try simp only [Act.put, List.setIfInBounds_toArray, List.set_cons_zero, List.set_cons_succ]
                      change wpAnyH _ _ _ _ _ _ _ _ (w8.alloc (.cells #[.slice Aa la ca] 27))
                      obtain ⟨g41, hg41⟩ : ∃ x, x = w8.heap.size := ⟨_, rfl⟩
                      have N41 := pb_rows_one (n := la) (c := ca) 27 Hla.out ha2 ha3 (Hba.out.below hB8 (Nat.le_refl _)) hB8.size
                      have hb41 : Below w8.heap.size w8 (w8.alloc (.cells #[.slice Aa la ca] 27)) := (Below.refl _ _).alloc (Nat.le_refl _) _
                      obtain ⟨w41, hw41⟩ : ∃ x, x = w8.alloc (.cells #[.slice Aa la ca] 27) := ⟨_, rfl⟩
                      have hBs41 : w41.heap.size = w8.heap.size + 1 := by rw [hw41]; simp
                      rw [← hw41] at hb41 N41 ⊢
                      have hB41 := hB8.trans (hb41.mono hB8.size)
                      rw [← hBs41, ← hg41] at N41
                      try rw [← hg41]
                      clear hw41 hg41 hBs41
                      refine wpAnyH_ready (rs := [5, 10]) (by kernel_rfl) (by simp) ?_
                      refine AllReadyH.cons rfl (fun KC hKC => ?_) (AllReadyH.cons rfl (fun KC hKC => ?_) AllReadyH.nil)
                      · go_simp
                        go_at_call 16
                        refine Calls.mono (rtag_at 4 4 [a] SL (some ⟨g41, 0, none⟩) 1 1 _ rfl HSL.out rfl (by omega) N41 HYa.out) ?_
                        rintro e w42 ⟨rfl, hb42⟩
                        have hB42 := hB41.trans (hb42.mono hB41.size)
                        have Fy42 := ((N41).below hb42 (Nat.le_refl _)).more hb42.size
                        clear N41
                        go_wp2_with fail
                        refine hKC.out _ _ hB42 (fun hHeld42 => ?_)
                        clear hKC KC
                        try simp only [Act.put, List.setIfInBounds_toArray, List.set_cons_zero, List.set_cons_succ]
                        refine wpAnyH_ready (rs := [10]) (by kernel_rfl) (by simp) ?_
                        refine AllReadyH.cons rfl (fun KC hKC => ?_) AllReadyH.nil
                        go_simp
                        have hBa43 := hB42.alloc hB42.size (.cells #[.slice Ab lb cb] 27)
                        refine hKC.out _ _ hBa43 (fun hHeld43 => ?_)
                        clear hKC KC
                        try simp only [Act.put, List.setIfInBounds_toArray, List.set_cons_zero, List.set_cons_succ]
                        change wpAnyH _ _ _ _ _ _ _ _ (w42.alloc (.cells #[.slice Ab lb cb] 27))
                        obtain ⟨g43, hg43⟩ : ∃ x, x = w42.heap.size := ⟨_, rfl⟩
                        have N43 := pb_rows_one (n := lb) (c := cb) 27 Hlb.out hb2x hb3' (Hbb.out.below hB42 (Nat.le_refl _)) hB42.size
                        have hb43 : Below w42.heap.size w42 (w42.alloc (.cells #[.slice Ab lb cb] 27)) := (Below.refl _ _).alloc (Nat.le_refl _) _
                        obtain ⟨w43, hw43⟩ : ∃ x, x = w42.alloc (.cells #[.slice Ab lb cb] 27) := ⟨_, rfl⟩
                        have hBs43 : w43.heap.size = w42.heap.size + 1 := by rw [hw43]; simp
                        rw [← hw43] at hb43 N43 ⊢
                        have Fy43 := ((Fy42).below hb43 (Nat.le_refl _)).more hb43.size
                        clear Fy42
                        have hB43 := hB42.trans (hb43.mono hB42.size)
                        rw [← hBs43, ← hg43] at N43
                        try rw [← hg43]
                        clear hw43 hg43 hBs43
                        refine wpAnyH_ready (rs := [11]) (by kernel_rfl) (by simp) ?_
                        refine AllReadyH.cons rfl (fun KC hKC => ?_) AllReadyH.nil
                        go_simp
                        go_at_call 16
                        refine Calls.mono (rtag_at 4 4 [b2] SL (some ⟨g43, 0, none⟩) 1 1 _ rfl HSb.out rfl (by omega) N43 HYb.out) ?_
                        rintro e w44 ⟨rfl, hb44⟩
                        have hB44 := hB43.trans (hb44.mono hB43.size)
                        have Fy44 := ((Fy43).below hb44 (Nat.le_refl _)).more hb44.size
                        clear Fy43
                        have Fz44 := ((N43).below hb44 (Nat.le_refl _)).more hb44.size
                        clear N43
                        go_wp2_with fail
                        refine hKC.out _ _ hB44 (fun hHeld44 => ?_)
                        clear hKC KC
                        try simp only [Act.put, List.setIfInBounds_toArray, List.set_cons_zero, List.set_cons_succ]
                        refine anyH_take (i := 12) (v := .bool true) (some 113) rfl rfl (by kernel_rfl) (by kernel_rfl) (by kernel_rfl) (fun _ _ _ h => h) (Or.inl ⟨by rfl, fun _ hw => by (have hc := Hcmp.out; have hg := gt32; go_simp)⟩) (by assumption) ?_
                        simp only [Act.put, List.setIfInBounds_toArray, List.set_cons_zero, List.set_cons_succ]
                        refine anyH_take (i := 13) (v := .bool true) (some 6) rfl rfl (by kernel_rfl) (by kernel_rfl) (by kernel_rfl) (fun _ _ _ h => h) (Or.inl ⟨by rfl, fun _ hw => by go_simp⟩) (by assumption) ?_
                        simp only [Act.put, List.setIfInBounds_toArray, List.set_cons_zero, List.set_cons_succ]
                        refine wpAnyH_done (by kernel_rfl) ?_ _
                        clear hHeld
                        go_wp2_with fail
                        go_ret
                        exact ⟨rfl, hbw.trans (hB44.mono hbw.size)⟩
                      · go_simp
                        have hBa45 := hB41.alloc hB41.size (.cells #[.slice Ab lb cb] 27)
                        refine hKC.out _ _ hBa45 (fun hHeld45 => ?_)
                        clear hKC KC
                        try simp only [Act.put, List.setIfInBounds_toArray, List.set_cons_zero, List.set_cons_succ]
                        change wpAnyH _ _ _ _ _ _ _ _ (w41.alloc (.cells #[.slice Ab lb cb] 27))
                        obtain ⟨g45, hg45⟩ : ∃ x, x = w41.heap.size := ⟨_, rfl⟩
                        have N45 := pb_rows_one (n := lb) (c := cb) 27 Hlb.out hb2x hb3' (Hbb.out.below hB41 (Nat.le_refl _)) hB41.size
                        have hb45 : Below w41.heap.size w41 (w41.alloc (.cells #[.slice Ab lb cb] 27)) := (Below.refl _ _).alloc (Nat.le_refl _) _
                        obtain ⟨w45, hw45⟩ : ∃ x, x = w41.alloc (.cells #[.slice Ab lb cb] 27) := ⟨_, rfl⟩
                        have hBs45 : w45.heap.size = w41.heap.size + 1 := by rw [hw45]; simp
                        rw [← hw45] at hb45 N45 ⊢
                        have Fy45 := ((N41).below hb45 (Nat.le_refl _)).more hb45.size
                        clear N41
                        have hB45 := hB41.trans (hb45.mono hB41.size)
                        rw [← hBs45, ← hg45] at N45
                        try rw [← hg45]
                        clear hw45 hg45 hBs45
                        refine wpAnyH_ready (rs := [5]) (by kernel_rfl) (by simp) ?_
                        refine AllReadyH.cons rfl (fun KC hKC => ?_) AllReadyH.nil
                        go_simp
                        go_at_call 16
                        refine Calls.mono (rtag_at 4 4 [a] SL (some ⟨g41, 0, none⟩) 1 1 _ rfl HSL.out rfl (by omega) Fy45 HYa.out) ?_
                        rintro e w46 ⟨rfl, hb46⟩
                        have hB46 := hB45.trans (hb46.mono hB45.size)
                        have Fy46 := ((Fy45).below hb46 (Nat.le_refl _)).more hb46.size
                        clear Fy45
                        have Fz46 := ((N45).below hb46 (Nat.le_refl _)).more hb46.size
                        clear N45
                        go_wp2_with fail
                        refine hKC.out _ _ hB46 (fun hHeld46 => ?_)
                        clear hKC KC
                        try simp only [Act.put, List.setIfInBounds_toArray, List.set_cons_zero, List.set_cons_succ]
                        refine wpAnyH_ready (rs := [11]) (by kernel_rfl) (by simp) ?_
                        refine AllReadyH.cons rfl (fun KC hKC => ?_) AllReadyH.nil
                        go_simp
                        go_at_call 16
                        refine Calls.mono (rtag_at 4 4 [b2] SL (some ⟨g45, 0, none⟩) 1 1 _ rfl HSb.out rfl (by omega) Fz46 HYb.out) ?_
                        rintro e w47 ⟨rfl, hb47⟩
                        have hB47 := hB46.trans (hb47.mono hB46.size)
                        have Fy47 := ((Fy46).below hb47 (Nat.le_refl _)).more hb47.size
                        clear Fy46
                        have Fz47 := ((Fz46).below hb47 (Nat.le_refl _)).more hb47.size
                        clear Fz46
                        go_wp2_with fail
                        refine hKC.out _ _ hB47 (fun hHeld47 => ?_)
                        clear hKC KC
                        try simp only [Act.put, List.setIfInBounds_toArray, List.set_cons_zero, List.set_cons_succ]
                        refine anyH_take (i := 12) (v := .bool true) (some 113) rfl rfl (by kernel_rfl) (by kernel_rfl) (by kernel_rfl) (fun _ _ _ h => h) (Or.inl ⟨by rfl, fun _ hw => by (have hc := Hcmp.out; have hg := gt32; go_simp)⟩) (by assumption) ?_
                        simp only [Act.put, List.setIfInBounds_toArray, List.set_cons_zero, List.set_cons_succ]
                        refine anyH_take (i := 13) (v := .bool true) (some 6) rfl rfl (by kernel_rfl) (by kernel_rfl) (by kernel_rfl) (fun _ _ _ h => h) (Or.inl ⟨by rfl, fun _ hw => by go_simp⟩) (by assumption) ?_
                        simp only [Act.put, List.setIfInBounds_toArray, List.set_cons_zero, List.set_cons_succ]
                        refine wpAnyH_done (by kernel_rfl) ?_ _
                        clear hHeld
                        go_wp2_with fail
                        go_ret
                        exact ⟨rfl, hbw.trans (hB47.mono hbw.size)⟩
                    · go_simp
                      have hBa48 := hB8.alloc hB8.size (.cells #[.slice Ab lb cb] 27)
                      refine hKC.out _ _ hBa48 (fun hHeld48 => ?_)
                      clear hKC KC
                      try simp only [Act.put, List.setIfInBounds_toArray, List.set_cons_zero, List.set_cons_succ]
                      change wpAnyH _ _ _ _ _ _ _ _ (w8.alloc (.cells #[.slice Ab lb cb] 27))
                      obtain ⟨g48, hg48⟩ : ∃ x, x = w8.heap.size := ⟨_, rfl⟩
                      have N48 := pb_rows_one (n := lb) (c := cb) 27 Hlb.out hb2x hb3' (Hbb.out.below hB8 (Nat.le_refl _)) hB8.size
                      have hb48 : Below w8.heap.size w8 (w8.alloc (.cells #[.slice Ab lb cb] 27)) := (Below.refl _ _).alloc (Nat.le_refl _) _
                      obtain ⟨w48, hw48⟩ : ∃ x, x = w8.alloc (.cells #[.slice Ab lb cb] 27) := ⟨_, rfl⟩
                      have hBs48 : w48.heap.size = w8.heap.size + 1 := by rw [hw48]; simp
                      rw [← hw48] at hb48 N48 ⊢
                      have hB48 := hB8.trans (hb48.mono hB8.size)
                      rw [← hBs48, ← hg48] at N48
                      try rw [← hg48]
                      clear hw48 hg48 hBs48
                      refine wpAnyH_ready (rs := [4]) (by kernel_rfl) (by simp) ?_
                      refine AllReadyH.cons rfl (fun KC hKC => ?_) AllReadyH.nil
                      go_simp
                      have hBa49 := hB48.alloc hB48.size (.cells #[.slice Aa la ca] 27)
                      refine hKC.out _ _ hBa49 (fun hHeld49 => ?_)
                      clear hKC KC
                      try simp only [Act.put, List.setIfInBounds_toArray, List.set_cons_zero, List.set_cons_succ]
                      change wpAnyH _ _ _ _ _ _ _ _ (w48.alloc (.cells #[.slice Aa la ca] 27))
                      obtain ⟨g49, hg49⟩ : ∃ x, x = w48.heap.size := ⟨_, rfl⟩
                      have N49 := pb_rows_one (n := la) (c := ca) 27 Hla.out ha2 ha3 (Hba.out.below hB48 (Nat.le_refl _)) hB48.size
                      have hb49 : Below w48.heap.size w48 (w48.alloc (.cells #[.slice Aa la ca] 27)) := (Below.refl _ _).alloc (Nat.le_refl _) _
                      obtain ⟨w49, hw49⟩ : ∃ x, x = w48.alloc (.cells #[.slice Aa la ca] 27) := ⟨_, rfl⟩
                      have hBs49 : w49.heap.size = w48.heap.size + 1 := by rw [hw49]; simp
                      rw [← hw49] at hb49 N49 ⊢
                      have Fz49 := ((N48).below hb49 (Nat.le_refl _)).more hb49.size
                      clear N48
                      have hB49 := hB48.trans (hb49.mono hB48.size)
                      rw [← hBs49, ← hg49] at N49
                      try rw [← hg49]
                      clear hw49 hg49 hBs49
                      refine wpAnyH_ready (rs := [5]) (by kernel_rfl) (by simp) ?_
                      refine AllReadyH.cons rfl (fun KC hKC => ?_) AllReadyH.nil
                      go_simp
                      go_at_call 16
                      refine Calls.mono (rtag_at 4 4 [a] SL (some ⟨g49, 0, none⟩) 1 1 _ rfl HSL.out rfl (by omega) N49 HYa.out) ?_
                      rintro e w50 ⟨rfl, hb50⟩
                      have hB50 := hB49.trans (hb50.mono hB49.size)
                      have Fz50 := ((Fz49).below hb50 (Nat.le_refl _)).more hb50.size
                      clear Fz49
                      have Fy50 := ((N49).below hb50 (Nat.le_refl _)).more hb50.size
                      clear N49
                      go_wp2_with fail
                      refine hKC.out _ _ hB50 (fun hHeld50 => ?_)
                      clear hKC KC
                      try simp only [Act.put, List.setIfInBounds_toArray, List.set_cons_zero, List.set_cons_succ]
                      refine wpAnyH_ready (rs := [11]) (by kernel_rfl) (by simp) ?_
                      refine AllReadyH.cons rfl (fun KC hKC => ?_) AllReadyH.nil
                      go_simp
                      go_at_call 16
                      refine Calls.mono (rtag_at 4 4 [b2] SL (some ⟨g48, 0, none⟩) 1 1 _ rfl HSb.out rfl (by omega) Fz50 HYb.out) ?_
                      rintro e w51 ⟨rfl, hb51⟩
                      have hB51 := hB50.trans (hb51.mono hB50.size)
                      have Fz51 := ((Fz50).below hb51 (Nat.le_refl _)).more hb51.size
                      clear Fz50
                      have Fy51 := ((Fy50).below hb51 (Nat.le_refl _)).more hb51.size
                      clear Fy50
                      go_wp2_with fail
                      refine hKC.out _ _ hB51 (fun hHeld51 => ?_)
                      clear hKC KC
                      try simp only [Act.put, List.setIfInBounds_toArray, List.set_cons_zero, List.set_cons_succ]
                      refine anyH_take (i := 12) (v := .bool true) (some 113) rfl rfl (by kernel_rfl) (by kernel_rfl) (by kernel_rfl) (fun _ _ _ h => h) (Or.inl ⟨by rfl, fun _ hw => by (have hc := Hcmp.out; have hg := gt32; go_simp)⟩) (by assumption) ?_
                      simp only [Act.put, List.setIfInBounds_toArray, List.set_cons_zero, List.set_cons_succ]
                      refine anyH_take (i := 13) (v := .bool true) (some 6) rfl rfl (by kernel_rfl) (by kernel_rfl) (by kernel_rfl) (fun _ _ _ h => h) (Or.inl ⟨by rfl, fun _ hw => by go_simp⟩) (by assumption) ?_
                      simp only [Act.put, List.setIfInBounds_toArray, List.set_cons_zero, List.set_cons_succ]
                      refine wpAnyH_done (by kernel_rfl) ?_ _
                      clear hHeld
                      go_wp2_with fail
                      go_ret
                      exact ⟨rfl, hbw.trans (hB51.mono hbw.size)⟩
                · have hd2 : decide ((i : Int) < (nr : Int)) = false := by simp; omega
                  have hfin := Ht2.out.2 i (by rw [Hnp.out]; exact hi1) (by rw [Hnr.out]; exact hi2) (.inr (by rw [Hnr.out]; omega)) Hi.out
                  rcases hfin with ⟨hL, b2, r2, hrs2, hsh⟩ | ⟨hL, hrs2, a2, r2, hP2', hsh⟩
                  · have hx0 : xs = [] := List.map_eq_nil_iff.1 hL
                    have hn0 : n1 = 0 := by rw [← Hn1.out, hx0]; rfl
                    have hnr0 : 0 < nr := by rw [← Hnr.out, hrs2]; simp
                    have hd3 : decide ((0 : Int) < (nr : Int)) = true := by simp; omega
                    have hd4 : decide (0 < nr) = true := by simp; omega
                    obtain ⟨br, orr, rfl, hbrl, hcr2⟩ := hrsr (by rw [Hnr.out]; exact hnr0)
                    obtain ⟨Ab, cb, hb1', hb2x, hb3', hb4'⟩ := hcr2 0 (by rw [Hnr.out]; exact hnr0)
                    have hgb : rs.getD 0 [] = b2 := by rw [hrs2]; rfl
                    rw [hgb] at hb1' hb2x hb4'
                    rw [Nat.add_zero] at hb1'
                    obtain ⟨lb, hlb⟩ : ∃ l, b2.length = l := ⟨_, rfl⟩
                    rw [hlb] at hb1' hb2x
                    have Hll := Lib.hid hlb
                    have HL2 : Hid (b2.length ≤ 2000) := H2000.out b2 (by rw [hrs2]; simp)
                    clear hgb hcr2 hlb hrs2 hx0 hL hPrr hrsr
                    subst hn0
                    have hlm : lb ≤ 2000 := by rw [← Hll.out]; exact HL2.out
                    obtain ⟨SL, hSL⟩ : ∃ SL, SL = Lib.byteCells (shaF (tagF 4 [b2])) := ⟨_, rfl⟩
                    have HS5 : Hid (SL = Lib.byteCells (shaF (tagF 5 []))) := by show SL = _; rw [hSL, hsh]
                    have HSL := Lib.hid hSL
                    have Hcmp := Lib.hid (fun w => digCmpP _ _ (shaF_length (tagF 4 [b2])) (shaF_length (tagF 4 [b2])) SL SL hSL hSL true (by simp) w)
                    have HYa := Lib.hid (show (tagF 4 [b2]).length ≤ 1000000 from tag_one_bound b2 (by rw [Hll.out]; omega))
                    obtain ⟨W9, hW9⟩ : ∃ W, W = wr.alloc (.cells #[.slice Ab lb cb] 27) := ⟨_, rfl⟩
                    have hb9 : Below wr.heap.size wr W9 := by rw [hW9]; exact (Below.refl _ wr).alloc (Nat.le_refl _) _
                    have hr9 : RowsAt W9 W9.heap.size (some ⟨wr.heap.size, 0, none⟩) [b2] := by
                      have hz : W9.heap.size = wr.heap.size + 1 := by rw [hW9]; simp
                      rw [hz, hW9]
                      exact pb_rows_one (n := lb) (c := cb) _ Hll.out hb2x hb3' hb4' (Nat.le_refl _)
                    have HW9 := Lib.hid hW9
                    clear hW9 hSL hsh
                    go_wp2_with fail
                    go_at_call 16
                    first | rw [← HW9.out] | (change Calls _ _ _ (wr.alloc (.cells #[.slice Ab lb cb] 27)) _; rw [← HW9.out])
                    refine Calls.mono (rtag_at 4 4 [b2] SL _ 1 1 W9 rfl HSL.out rfl (by omega) hr9 HYa.out) ?_
                    rintro e wA ⟨rfl, hbA⟩
                    have hbA' := hb9.trans (hbA.mono hb9.size)
                    clear hr9 hbA hb9
                    dsimp only
                    go_wp2_with fail
                    go_at_call 16
                    refine Calls.mono (rtag_at 5 5 [] SL none 0 0 wA rfl HS5.out rfl (by omega) (fun h => absurd h (by simp)) (by decide)) ?_
                    rintro e wB ⟨rfl, hbB⟩
                    have hbB' := hbA'.trans (hbB.mono hbA'.size)
                    clear hbA' hbB
                    dsimp only
                    have hcm := Hcmp.out
                    have hg32 := gt32
                    go_wp2_with fail
                    go_ret
                    exact ⟨rfl, hbw.trans (hbB'.mono hbw.size)⟩
                  · have hnr0 : nr = 0 := by rw [← Hnr.out, hrs2]; rfl
                    have hn0 : 0 < n1 := by
                      rw [← Hn1.out]
                      refine List.length_pos_iff.2 fun e => hL ?_
                      rw [e]; rfl
                    have hnp0 : 0 < np := by rw [← Hnp.out, hP2']; simp
                    have hq1 : decide ((n1 : Int) = 0) = false := by simp; omega
                    have hq2 : ((n1 : Int) == 0) = false := by simp; omega
                    have hq3 : decide (n1 = 0) = false := by simp; omega
                    have hq4 : (n1 == 0) = false := by simp; omega
                    have hd3 : decide ((0 : Int) < (n1 : Int)) = true := by simp; omega
                    have hd4 : decide (0 < n1) = true := by simp; omega
                    obtain ⟨bp, op, rfl, hbpl, hcp⟩ := hPrr (by rw [Hnp.out]; exact hnp0)
                    obtain ⟨Aa, ca, ha1, ha2, ha3, ha4⟩ := hcp 0 (by rw [Hnp.out]; exact hnp0)
                    have hga : P.getD 0 [] = a2 := by rw [hP2']; rfl
                    rw [hga] at ha1 ha2 ha4
                    rw [Nat.add_zero] at ha1
                    obtain ⟨la, hla⟩ : ∃ l, a2.length = l := ⟨_, rfl⟩
                    rw [hla] at ha1 ha2
                    have Hll := Lib.hid hla
                    have HL2 : Hid (a2.length ≤ 2000) := by have := HPl2.out a2 (by rw [hP2']; simp); show a2.length ≤ 2000; omega
                    clear hga hcp hla hrs2 hL hPrr hrsr hP2'
                    subst hnr0
                    have hlm : la ≤ 2000 := by rw [← Hll.out]; exact HL2.out
                    obtain ⟨SL, hSL⟩ : ∃ SL, SL = Lib.byteCells (shaF (tagF 4 [a2])) := ⟨_, rfl⟩
                    have HS5 : Hid (SL = Lib.byteCells (shaF (tagF 5 []))) := by show SL = _; rw [hSL, hsh]
                    have HSL := Lib.hid hSL
                    have Hcmp := Lib.hid (fun w => digCmpP _ _ (shaF_length (tagF 4 [a2])) (shaF_length (tagF 4 [a2])) SL SL hSL hSL true (by simp) w)
                    have HYa := Lib.hid (show (tagF 4 [a2]).length ≤ 1000000 from tag_one_bound a2 (by rw [Hll.out]; omega))
                    obtain ⟨W9, hW9⟩ : ∃ W, W = wr.alloc (.cells #[.slice Aa la ca] 27) := ⟨_, rfl⟩
                    have hb9 : Below wr.heap.size wr W9 := by rw [hW9]; exact (Below.refl _ wr).alloc (Nat.le_refl _) _
                    have hr9 : RowsAt W9 W9.heap.size (some ⟨wr.heap.size, 0, none⟩) [a2] := by
                      have hz : W9.heap.size = wr.heap.size + 1 := by rw [hW9]; simp
                      rw [hz, hW9]
                      exact pb_rows_one (n := la) (c := ca) _ Hll.out ha2 ha3 ha4 (Nat.le_refl _)
                    have HW9 := Lib.hid hW9
                    clear hW9 hSL hsh
                    go_wp2_with fail
                    go_at_call 16
                    first | rw [← HW9.out] | (change Calls _ _ _ (wr.alloc (.cells #[.slice Aa la ca] 27)) _; rw [← HW9.out])
                    refine Calls.mono (rtag_at 4 4 [a2] SL _ 1 1 W9 rfl HSL.out rfl (by omega) hr9 HYa.out) ?_
                    rintro e wA ⟨rfl, hbA⟩
                    have hbA' := hb9.trans (hbA.mono hb9.size)
                    clear hr9 hbA hb9
                    dsimp only
                    go_wp2_with fail
                    go_at_call 16
                    refine Calls.mono (rtag_at 5 5 [] SL none 0 0 wA rfl HS5.out rfl (by omega) (fun h => absurd h (by simp)) (by decide)) ?_
                    rintro e wB ⟨rfl, hbB⟩
                    have hbB' := hbA'.trans (hbB.mono hbA'.size)
                    clear hbA' hbB
                    dsimp only
                    have hcm := Hcmp.out
                    have hg32 := gt32
                    go_wp2_with fail
                    go_ret
                    exact ⟨rfl, hbw.trans (hbB'.mono hbw.size)⟩
              · have hd1 : decide ((i : Int) < (np : Int)) = false := by simp; omega
                have hfin := Ht2.out.2 i (by rw [Hnp.out]; exact hi1) (by rw [Hnr.out]; exact hi2) (.inl (by rw [Hnp.out]; omega)) Hi.out
                rcases hfin with ⟨hL, b2, r2, hrs2, hsh⟩ | ⟨hL, hrs2, a2, r2, hP2', hsh⟩
                · have hx0 : xs = [] := List.map_eq_nil_iff.1 hL
                  have hn0 : n1 = 0 := by rw [← Hn1.out, hx0]; rfl
                  have hnr0 : 0 < nr := by rw [← Hnr.out, hrs2]; simp
                  have hd3 : decide ((0 : Int) < (nr : Int)) = true := by simp; omega
                  have hd4 : decide (0 < nr) = true := by simp; omega
                  obtain ⟨br, orr, rfl, hbrl, hcr2⟩ := hrsr (by rw [Hnr.out]; exact hnr0)
                  obtain ⟨Ab, cb, hb1', hb2x, hb3', hb4'⟩ := hcr2 0 (by rw [Hnr.out]; exact hnr0)
                  have hgb : rs.getD 0 [] = b2 := by rw [hrs2]; rfl
                  rw [hgb] at hb1' hb2x hb4'
                  rw [Nat.add_zero] at hb1'
                  obtain ⟨lb, hlb⟩ : ∃ l, b2.length = l := ⟨_, rfl⟩
                  rw [hlb] at hb1' hb2x
                  have Hll := Lib.hid hlb
                  have HL2 : Hid (b2.length ≤ 2000) := H2000.out b2 (by rw [hrs2]; simp)
                  clear hgb hcr2 hlb hrs2 hx0 hL hPrr hrsr
                  subst hn0
                  have hlm : lb ≤ 2000 := by rw [← Hll.out]; exact HL2.out
                  obtain ⟨SL, hSL⟩ : ∃ SL, SL = Lib.byteCells (shaF (tagF 4 [b2])) := ⟨_, rfl⟩
                  have HS5 : Hid (SL = Lib.byteCells (shaF (tagF 5 []))) := by show SL = _; rw [hSL, hsh]
                  have HSL := Lib.hid hSL
                  have Hcmp := Lib.hid (fun w => digCmpP _ _ (shaF_length (tagF 4 [b2])) (shaF_length (tagF 4 [b2])) SL SL hSL hSL true (by simp) w)
                  have HYa := Lib.hid (show (tagF 4 [b2]).length ≤ 1000000 from tag_one_bound b2 (by rw [Hll.out]; omega))
                  obtain ⟨W9, hW9⟩ : ∃ W, W = wr.alloc (.cells #[.slice Ab lb cb] 27) := ⟨_, rfl⟩
                  have hb9 : Below wr.heap.size wr W9 := by rw [hW9]; exact (Below.refl _ wr).alloc (Nat.le_refl _) _
                  have hr9 : RowsAt W9 W9.heap.size (some ⟨wr.heap.size, 0, none⟩) [b2] := by
                    have hz : W9.heap.size = wr.heap.size + 1 := by rw [hW9]; simp
                    rw [hz, hW9]
                    exact pb_rows_one (n := lb) (c := cb) _ Hll.out hb2x hb3' hb4' (Nat.le_refl _)
                  have HW9 := Lib.hid hW9
                  clear hW9 hSL hsh
                  go_wp2_with fail
                  go_at_call 16
                  first | rw [← HW9.out] | (change Calls _ _ _ (wr.alloc (.cells #[.slice Ab lb cb] 27)) _; rw [← HW9.out])
                  refine Calls.mono (rtag_at 4 4 [b2] SL _ 1 1 W9 rfl HSL.out rfl (by omega) hr9 HYa.out) ?_
                  rintro e wA ⟨rfl, hbA⟩
                  have hbA' := hb9.trans (hbA.mono hb9.size)
                  clear hr9 hbA hb9
                  dsimp only
                  go_wp2_with fail
                  go_at_call 16
                  refine Calls.mono (rtag_at 5 5 [] SL none 0 0 wA rfl HS5.out rfl (by omega) (fun h => absurd h (by simp)) (by decide)) ?_
                  rintro e wB ⟨rfl, hbB⟩
                  have hbB' := hbA'.trans (hbB.mono hbA'.size)
                  clear hbA' hbB
                  dsimp only
                  have hcm := Hcmp.out
                  have hg32 := gt32
                  go_wp2_with fail
                  go_ret
                  exact ⟨rfl, hbw.trans (hbB'.mono hbw.size)⟩
                · exfalso
                  have hnr0 : nr = 0 := by rw [← Hnr.out, hrs2]; rfl
                  have hnp0 : 0 < np := by rw [← Hnp.out, hP2']; simp
                  omega
        · rw [Hz.out, Nat.zero_add] at hf2
          subst hf2
          have hjn : j < n1 := by have := (List.getElem?_eq_some_iff.1 hx).1; rw [Hn1.out] at this; exact this
          have hge : decide ((0 : Int) ≤ ((j : Nat) : Int)) = true := by simp
          cases rr with
          | none =>
            simp only [Option.getD_some, Option.isSome_none] at hbt2
            subst hbt2
            have Ht := Lib.hid (bound_tail key hk (xs.map Itm.it) rs none Hgood.out (fun y hy => by obtain ⟨q, hq, rfl⟩ := List.mem_map.1 hy; exact Hvals.out q hq) (by rw [Hrt.out, Hres.out]) (by rw [hf1]; intro e; cases e))
            clear hf1 hv2 hx
            obtain ⟨P, hP⟩ : ∃ P, proveF key 65 (xs.map Itm.it) 0 = P := ⟨_, rfl⟩
            have ht := Ht.out
            rw [hP] at ht
            have HPl := Lib.hid (proveF_len key 65 (xs.map Itm.it) 0 Hgood.out (fun y hy => by obtain ⟨q, hq, rfl⟩ := List.mem_map.1 hy; exact Hvals.out q hq) (fun i hi => by omega) (by omega))
            have HPl2 : Hid (∀ a ∈ P, a.length ≤ 1900) := by show ∀ a ∈ P, a.length ≤ 1900; rw [← hP]; exact HPl.out
            have HP := Lib.hid hP
            have Ht2 := Lib.hid ht
            have hki := hK3.range
            clear ht hP HPl Ht
            go_upto_region 19 with fail
            go_wp2_with (refine wpList_load_mid rfl _ _ rfl w.heap.size 0 rfl KL _ hki Try.underlying23 rfl HKi.out ?_)
            go_at_call 15
            refine Calls.mono (prove_runI key hk KL HKL.out xs _ n1 c1 _ hfit4 P HP.out) ?_
            rintro e w6 ⟨vP, rfl, hN, hb56⟩
            have hb6 := hb3.trans (hb56.mono hb3.size)
            obtain ⟨AP, cP, rfl, hP1, hP2, hPr⟩ := hN.rows
            obtain ⟨np, hnp⟩ : ∃ np, P.length = np := ⟨_, rfl⟩
            rw [hnp] at hP1 ⊢
            have hP63 : cP ≤ 9223372036854775807 := by unfold maxLen at hP2; exact hP2
            have Hnp := Lib.hid hnp
            have HPr := Lib.hid hPr
            have Hrs6 : Hid (RowsAt w6 w6.heap.size Ar rs) := (Hrows.out.below hb6 (Nat.le_refl _)).more hb6.size
            clear hnp hPr hN hb56 hki hfit4 hK3 hb3
            dsimp only
            go_upto_region 21 with fail
            go_loopw [15] (fun iv wr => ∃ i : Nat, i ≤ np ∧ i ≤ nr ∧ iv = .int .i64 i ∧ Below w6.heap.size w6 wr ∧ Hid (P.take i = rs.take i)) (fun iv _ => np - (intOf iv).toNat)
            case atStart => exact ⟨0, Nat.zero_le _, Nat.zero_le _, rfl, Below.refl _ _, rfl⟩
            case round =>
              obtain ⟨i, hi1, hi2, rfl, hbr6, Hi⟩ := hrel
              have hPrr : RowsAt wr wr.heap.size AP P := (HPr.out.below hbr6 (Nat.le_refl _)).more hbr6.size
              have hrsr : RowsAt wr wr.heap.size Ar rs := (Hrs6.out.below hbr6 (Nat.le_refl _)).more hbr6.size
              have hbw : Below w.heap.size w wr := hb6.trans (hbr6.mono hb6.size)
              by_cases hip : i < np
              · have hd1 : decide ((i : Int) < (np : Int)) = true := by simp; omega
                by_cases hir : i < nr
                · have hd2 : decide ((i : Int) < (nr : Int)) = true := by simp; omega
                  obtain ⟨a, ha⟩ : ∃ a, P[i]? = some a := ⟨P[i]'(by rw [Hnp.out]; exact hip), List.getElem?_eq_getElem _⟩
                  obtain ⟨b2, hb2'⟩ : ∃ b, rs[i]? = some b := ⟨rs[i]'(by rw [Hnr.out]; exact hir), List.getElem?_eq_getElem _⟩
                  have hga : P.getD i [] = a := by simp [List.getD, ha]
                  have hgb : rs.getD i [] = b2 := by simp [List.getD, hb2']
                  obtain ⟨bp, op, rfl, hbpl, hcp⟩ := hPrr (by rw [Hnp.out]; omega)
                  obtain ⟨br, orr, rfl, hbrl, hcr2⟩ := hrsr (by rw [Hnr.out]; omega)
                  obtain ⟨Aa, ca, ha1, ha2, ha3, ha4⟩ := hcp i (by rw [Hnp.out]; exact hip)
                  obtain ⟨Ab, cb, hb1', hb2x, hb3', hb4'⟩ := hcr2 i (by rw [Hnr.out]; exact hir)
                  rw [hga] at ha1 ha2 ha4
                  rw [hgb] at hb1' hb2x hb4'
                  obtain ⟨la, hla⟩ : ∃ l, a.length = l := ⟨_, rfl⟩
                  obtain ⟨lb, hlb⟩ : ∃ l, b2.length = l := ⟨_, rfl⟩
                  rw [hla] at ha1 ha2
                  rw [hlb] at hb1' hb2x
                  have Hca := Lib.hid (fun (w' : World) (h : Below wr.heap.size wr w') => show w'.cell? ⟨bp, op + i, none⟩ = some (.slice Aa la ca) from (World.cell?_of_block (h.block bp hbpl)).trans ha1)
                  have Hcb := Lib.hid (fun (w' : World) (h : Below wr.heap.size wr w') => show w'.cell? ⟨br, orr + i, none⟩ = some (.slice Ab lb cb) from (World.cell?_of_block (h.block br hbrl)).trans hb1')
                  have Hba := Lib.hid ha4
                  have Hbb := Lib.hid hb4'
                  have Hla := Lib.hid hla
                  have Hlb := Lib.hid hlb
                  have Ha := Lib.hid ha
                  have Hb := Lib.hid hb2'
                  have hlam : la ≤ 1900 := by rw [← hla]; exact HPl2.out a (List.mem_of_getElem? ha)
                  have hlbm : lb ≤ 2000 := by rw [← hlb]; exact H2000.out b2 (List.mem_of_getElem? hb2')
                  obtain ⟨ans, hans⟩ : ∃ x, decide (a = b2) = x := ⟨_, rfl⟩
                  have Hans := Lib.hid hans
                  clear hga hgb hcp hcr2 ha1 ha4 hb1' hb4' hla hlb ha hb2' hans hPrr hrsr
                  go_upto_region 23 with fail
                  refine wp_region_held_drew (S := fun w' => Below wr.heap.size wr w') (by kernel_rfl) (Below.dN (Below.refl _ wr) 1) (fun hHeld => ?_)
                  refine anyH_take (i := 0) (v := .slice (some ⟨bp, op, none⟩) np cP) (some 91) rfl rfl (by kernel_rfl) (by kernel_rfl) (by kernel_rfl) (fun _ _ _ h => h) (Or.inl ⟨by rfl, fun w' hw => by go_simp⟩) (by assumption) ?_
                  simp only [Act.put, List.setIfInBounds_toArray, List.set_cons_zero, List.set_cons_succ]
                  refine anyH_take (i := 1) (v := .int .i64 (i : Nat)) (some 92) rfl rfl (by kernel_rfl) (by kernel_rfl) (by kernel_rfl) (fun _ _ _ h => h) (Or.inl ⟨by rfl, fun w' hw => by go_simp⟩) (by assumption) ?_
                  simp only [Act.put, List.setIfInBounds_toArray, List.set_cons_zero, List.set_cons_succ]
                  refine anyH_take (i := 2) (v := .pointer (some ⟨bp, op + i, none⟩)) (some 93) rfl rfl (by kernel_rfl) (by kernel_rfl) (by kernel_rfl) (fun _ _ _ h => h) (Or.inl ⟨by rfl, fun w' hw => by (go_simp; try (intro h; omega))⟩) (by assumption) ?_
                  simp only [Act.put, List.setIfInBounds_toArray, List.set_cons_zero, List.set_cons_succ]
                  refine anyH_take (i := 3) (v := .slice Aa la ca) (some 94) rfl rfl (by kernel_rfl) (by kernel_rfl) (by kernel_rfl) (fun _ _ _ h => h) (Or.inl ⟨by rfl, fun w' hw => by (have hc := Hca.out w' hw; go_simp)⟩) (by assumption) ?_
                  simp only [Act.put, List.setIfInBounds_toArray, List.set_cons_zero, List.set_cons_succ]
                  refine anyH_take (i := 4) (v := .slice (some ⟨br, orr, none⟩) nr cr) (some 95) rfl rfl (by kernel_rfl) (by kernel_rfl) (by kernel_rfl) (fun _ _ _ h => h) (Or.inl ⟨by rfl, fun w' hw => by go_simp⟩) (by assumption) ?_
                  simp only [Act.put, List.setIfInBounds_toArray, List.set_cons_zero, List.set_cons_succ]
                  refine anyH_take (i := 5) (v := .int .i64 (i : Nat)) (some 96) rfl rfl (by kernel_rfl) (by kernel_rfl) (by kernel_rfl) (fun _ _ _ h => h) (Or.inl ⟨by rfl, fun w' hw => by go_simp⟩) (by assumption) ?_
                  simp only [Act.put, List.setIfInBounds_toArray, List.set_cons_zero, List.set_cons_succ]
                  refine anyH_take (i := 6) (v := .pointer (some ⟨br, orr + i, none⟩)) (some 97) rfl rfl (by kernel_rfl) (by kernel_rfl) (by kernel_rfl) (fun _ _ _ h => h) (Or.inl ⟨by rfl, fun w' hw => by (go_simp; try (intro h; omega))⟩) (by assumption) ?_
                  simp only [Act.put, List.setIfInBounds_toArray, List.set_cons_zero, List.set_cons_succ]
                  refine anyH_take (i := 7) (v := .slice Ab lb cb) (some 98) rfl rfl (by kernel_rfl) (by kernel_rfl) (by kernel_rfl) (fun _ _ _ h => h) (Or.inl ⟨by rfl, fun w' hw => by (have hc := Hcb.out w' hw; go_simp)⟩) (by assumption) ?_
                  simp only [Act.put, List.setIfInBounds_toArray, List.set_cons_zero, List.set_cons_succ]
                  refine wpAnyH_ready (rs := [8]) (by kernel_rfl) (by simp) ?_
                  refine AllReadyH.cons rfl (fun K hK => ?_) AllReadyH.nil
                  go_simp
                  go_at_call 9
                  refine Calls.mono (same_n wr.heap.size wr.heap.size Aa Ab ca cb la lb a b2 (wr.drewN 1) ans Hba.out Hbb.out Hla.out Hlb.out (by omega) (by omega) Hans.out) ?_
                  rintro e w7 ⟨rfl, k7, rfl⟩
                  dsimp only
                  go_wp2_with fail
                  refine hK.out _ _ (Below.dN (Below.dN (Below.refl _ wr) 1) k7) (fun hHeldx => ?_)
                  clear hK K
                  try simp only [Act.put, List.setIfInBounds_toArray, List.set_cons_zero, List.set_cons_succ]
                  cases ans with
                  | true =>
                    refine anyH_take (i := 9) (v := .bool false) (some 100) rfl rfl (by kernel_rfl) (by kernel_rfl) (by kernel_rfl) (fun _ _ _ h => h) (Or.inl ⟨by rfl, fun w' hw => by go_simp⟩) (by assumption) ?_
                    simp only [Act.put, List.setIfInBounds_toArray, List.set_cons_zero, List.set_cons_succ]
                    refine wpAnyH_done (by kernel_rfl) ?_ _
                    clear hHeld hHeldx
                    have hab : a = b2 := by simpa using Hans.out
                    have Hi2 : Hid (P.take (i + 1) = rs.take (i + 1)) := take_one Hi.out Ha.out (by rw [hab]; exact Hb.out)
                    have hbn := Below.dN hbr6 (1 + k7)
                    clear hab
                    go_wp2_with fail
                    go_roundw
                    case rel => exact ⟨i + 1, by omega, by omega, by go_num, hbn, Hi2⟩
                    case measure => simp [intOf]; omega
                  | false =>
                    refine anyH_take (i := 9) (v := .bool true) (some 100) rfl rfl (by kernel_rfl) (by kernel_rfl) (by kernel_rfl) (fun _ _ _ h => h) (Or.inl ⟨by rfl, fun w' hw => by go_simp⟩) (by assumption) ?_
                    simp only [Act.put, List.setIfInBounds_toArray, List.set_cons_zero, List.set_cons_succ]
                    refine wpAnyH_done (by kernel_rfl) ?_ _
                    clear hHeld hHeldx
                    have hab : a ≠ b2 := by simpa using Hans.out
                    obtain ⟨SL, hSL⟩ : ∃ SL, SL = Lib.byteCells (shaF (tagF 4 [a])) := ⟨_, rfl⟩
                    have HSb : Hid (SL = Lib.byteCells (shaF (tagF 4 [b2]))) := by show SL = _; rw [hSL, Ht2.out.1 i a b2 Hi.out Ha.out Hb.out hab]
                    have HSL := Lib.hid hSL
                    have Hcmp := Lib.hid (fun w => digCmpP _ _ (shaF_length (tagF 4 [a])) (shaF_length (tagF 4 [a])) SL SL hSL hSL true (by simp) w)
                    have HYa := Lib.hid (show (tagF 4 [a]).length ≤ 1000000 from tag_one_bound a (by rw [Hla.out]; omega))
                    have HYb := Lib.hid (show (tagF 4 [b2]).length ≤ 1000000 from tag_one_bound b2 (by rw [Hlb.out]; omega))
                    clear hab hSL
                    go_upto_region 24 with fail
                    obtain ⟨w8, hw8⟩ : ∃ W, W = ((wr.drewN 1).drewN k7).drewN 1 := ⟨_, rfl⟩
                    have hB8 : Below wr.heap.size wr w8 := by rw [hw8]; exact Below.dN (Below.dN (Below.dN (Below.refl _ wr) 1) k7) 1
                    refine wp_region_held_drew (S := fun w' => Below wr.heap.size wr w') (by kernel_rfl) (by first | (rw [← hw8]; exact hB8) | exact Below.dN (Below.dN (Below.dN (Below.refl _ wr) 1) k7) 1 | exact Below.dN (Below.dN (Below.refl _ wr) _) 1) (fun hHeld => ?_)
                    first | rw [← hw8] at hHeld ⊢ | (change wpAnyH _ _ _ _ _ _ _ _ (((wr.drewN 1).drewN k7).drewN 1); rw [← hw8])
                    clear hw8
                    refine anyH_take (i := 0) (v := .slice (some ⟨bp, op, none⟩) np cP) (some 101) rfl rfl (by kernel_rfl) (by kernel_rfl) (by kernel_rfl) (fun _ _ _ h => h) (Or.inl ⟨by rfl, fun _ hw => by go_simp⟩) (by assumption) ?_
                    simp only [Act.put, List.setIfInBounds_toArray, List.set_cons_zero, List.set_cons_succ]
                    refine anyH_take (i := 1) (v := .int .i64 (i : Nat)) (some 102) rfl rfl (by kernel_rfl) (by kernel_rfl) (by kernel_rfl) (fun _ _ _ h => h) (Or.inl ⟨by rfl, fun _ hw => by go_simp⟩) (by assumption) ?_
                    simp only [Act.put, List.setIfInBounds_toArray, List.set_cons_zero, List.set_cons_succ]
                    refine anyH_take (i := 2) (v := .pointer (some ⟨bp, op + i, none⟩)) (some 103) rfl rfl (by kernel_rfl) (by kernel_rfl) (by kernel_rfl) (fun _ _ _ h => h) (Or.inl ⟨by rfl, fun _ hw => by (go_simp; try (intro h; omega))⟩) (by assumption) ?_
                    simp only [Act.put, List.setIfInBounds_toArray, List.set_cons_zero, List.set_cons_succ]
                    refine anyH_take (i := 3) (v := .slice Aa la ca) (some 104) rfl rfl (by kernel_rfl) (by kernel_rfl) (by kernel_rfl) (fun _ _ _ h => h) (Or.inl ⟨by rfl, fun _ hw => by (have hc := Hca.out _ hw; go_simp)⟩) (by assumption) ?_
                    simp only [Act.put, List.setIfInBounds_toArray, List.set_cons_zero, List.set_cons_succ]
                    refine anyH_take (i := 6) (v := .slice (some ⟨br, orr, none⟩) nr cr) (some 107) rfl rfl (by kernel_rfl) (by kernel_rfl) (by kernel_rfl) (fun _ _ _ h => h) (Or.inl ⟨by rfl, fun _ hw => by go_simp⟩) (by assumption) ?_
                    simp only [Act.put, List.setIfInBounds_toArray, List.set_cons_zero, List.set_cons_succ]
                    refine anyH_take (i := 7) (v := .int .i64 (i : Nat)) (some 108) rfl rfl (by kernel_rfl) (by kernel_rfl) (by kernel_rfl) (fun _ _ _ h => h) (Or.inl ⟨by rfl, fun _ hw => by go_simp⟩) (by assumption) ?_
                    simp only [Act.put, List.setIfInBounds_toArray, List.set_cons_zero, List.set_cons_succ]
                    refine anyH_take (i := 8) (v := .pointer (some ⟨br, orr + i, none⟩)) (some 109) rfl rfl (by kernel_rfl) (by kernel_rfl) (by kernel_rfl) (fun _ _ _ h => h) (Or.inl ⟨by rfl, fun _ hw => by (go_simp; try (intro h; omega))⟩) (by assumption) ?_
                    simp only [Act.put, List.setIfInBounds_toArray, List.set_cons_zero, List.set_cons_succ]
                    refine anyH_take (i := 9) (v := .slice Ab lb cb) (some 110) rfl rfl (by kernel_rfl) (by kernel_rfl) (by kernel_rfl) (fun _ _ _ h => h) (Or.inl ⟨by rfl, fun _ hw => by (have hc := Hcb.out _ hw; go_simp)⟩) (by assumption) ?_
                    simp only [Act.put, List.setIfInBounds_toArray, List.set_cons_zero, List.set_cons_succ]
                    refine wpAnyH_ready (rs := [4, 10]) (by kernel_rfl) (by simp) ?_
                    refine AllReadyH.cons rfl (fun KC hKC => ?_) (AllReadyH.cons rfl (fun KC hKC => ?_) AllReadyH.nil)
                    · go_simp
                      have hBa41 := hB8.alloc hB8.size (.cells #[.slice Aa la ca] 27)
                      refine hKC.out _ _ hBa41 (fun hHeld41 => ?_)
                      clear hKC KC
                      try simp only [Act.put, List.setIfInBounds_toArray, List.set_cons_zero, List.set_cons_succ]
                      change wpAnyH _ _ _ _ _ _ _ _ (w8.alloc (.cells #[.slice Aa la ca] 27))
                      obtain ⟨g41, hg41⟩ : ∃ x, x = w8.heap.size := ⟨_, rfl⟩
                      have N41 := pb_rows_one (n := la) (c := ca) 27 Hla.out ha2 ha3 (Hba.out.below hB8 (Nat.le_refl _)) hB8.size
                      have hb41 : Below w8.heap.size w8 (w8.alloc (.cells #[.slice Aa la ca] 27)) := (Below.refl _ _).alloc (Nat.le_refl _) _
                      obtain ⟨w41, hw41⟩ : ∃ x, x = w8.alloc (.cells #[.slice Aa la ca] 27) := ⟨_, rfl⟩
                      have hBs41 : w41.heap.size = w8.heap.size + 1 := by rw [hw41]; simp
                      rw [← hw41] at hb41 N41 ⊢
                      have hB41 := hB8.trans (hb41.mono hB8.size)
                      rw [← hBs41, ← hg41] at N41
                      try rw [← hg41]
                      clear hw41 hg41 hBs41
                      refine wpAnyH_ready (rs := [5, 10]) (by kernel_rfl) (by simp) ?_
                      refine AllReadyH.cons rfl (fun KC hKC => ?_) (AllReadyH.cons rfl (fun KC hKC => ?_) AllReadyH.nil)
                      · go_simp
                        go_at_call 16
                        refine Calls.mono (rtag_at 4 4 [a] SL (some ⟨g41, 0, none⟩) 1 1 _ rfl HSL.out rfl (by omega) N41 HYa.out) ?_
                        rintro e w42 ⟨rfl, hb42⟩
                        have hB42 := hB41.trans (hb42.mono hB41.size)
                        have Fy42 := ((N41).below hb42 (Nat.le_refl _)).more hb42.size
                        clear N41
                        go_wp2_with fail
                        refine hKC.out _ _ hB42 (fun hHeld42 => ?_)
                        clear hKC KC
                        try simp only [Act.put, List.setIfInBounds_toArray, List.set_cons_zero, List.set_cons_succ]
                        refine wpAnyH_ready (rs := [10]) (by kernel_rfl) (by simp) ?_
                        refine AllReadyH.cons rfl (fun KC hKC => ?_) AllReadyH.nil
                        go_simp
                        have hBa43 := hB42.alloc hB42.size (.cells #[.slice Ab lb cb] 27)
                        refine hKC.out _ _ hBa43 (fun hHeld43 => ?_)
                        clear hKC KC
                        try simp only [Act.put, List.setIfInBounds_toArray, List.set_cons_zero, List.set_cons_succ]
                        change wpAnyH _ _ _ _ _ _ _ _ (w42.alloc (.cells #[.slice Ab lb cb] 27))
                        obtain ⟨g43, hg43⟩ : ∃ x, x = w42.heap.size := ⟨_, rfl⟩
                        have N43 := pb_rows_one (n := lb) (c := cb) 27 Hlb.out hb2x hb3' (Hbb.out.below hB42 (Nat.le_refl _)) hB42.size
                        have hb43 : Below w42.heap.size w42 (w42.alloc (.cells #[.slice Ab lb cb] 27)) := (Below.refl _ _).alloc (Nat.le_refl _) _
                        obtain ⟨w43, hw43⟩ : ∃ x, x = w42.alloc (.cells #[.slice Ab lb cb] 27) := ⟨_, rfl⟩
                        have hBs43 : w43.heap.size = w42.heap.size + 1 := by rw [hw43]; simp
                        rw [← hw43] at hb43 N43 ⊢
                        have Fy43 := ((Fy42).below hb43 (Nat.le_refl _)).more hb43.size
                        clear Fy42
                        have hB43 := hB42.trans (hb43.mono hB42.size)
                        rw [← hBs43, ← hg43] at N43
                        try rw [← hg43]
                        clear hw43 hg43 hBs43
                        refine wpAnyH_ready (rs := [11]) (by kernel_rfl) (by simp) ?_
                        refine AllReadyH.cons rfl (fun KC hKC => ?_) AllReadyH.nil
                        go_simp
                        go_at_call 16
                        refine Calls.mono (rtag_at 4 4 [b2] SL (some ⟨g43, 0, none⟩) 1 1 _ rfl HSb.out rfl (by omega) N43 HYb.out) ?_
                        rintro e w44 ⟨rfl, hb44⟩
                        have hB44 := hB43.trans (hb44.mono hB43.size)
                        have Fy44 := ((Fy43).below hb44 (Nat.le_refl _)).more hb44.size
                        clear Fy43
                        have Fz44 := ((N43).below hb44 (Nat.le_refl _)).more hb44.size
                        clear N43
                        go_wp2_with fail
                        refine hKC.out _ _ hB44 (fun hHeld44 => ?_)
                        clear hKC KC
                        try simp only [Act.put, List.setIfInBounds_toArray, List.set_cons_zero, List.set_cons_succ]
                        refine anyH_take (i := 12) (v := .bool true) (some 113) rfl rfl (by kernel_rfl) (by kernel_rfl) (by kernel_rfl) (fun _ _ _ h => h) (Or.inl ⟨by rfl, fun _ hw => by (have hc := Hcmp.out; have hg := gt32; go_simp)⟩) (by assumption) ?_
                        simp only [Act.put, List.setIfInBounds_toArray, List.set_cons_zero, List.set_cons_succ]
                        refine anyH_take (i := 13) (v := .bool true) (some 6) rfl rfl (by kernel_rfl) (by kernel_rfl) (by kernel_rfl) (fun _ _ _ h => h) (Or.inl ⟨by rfl, fun _ hw => by go_simp⟩) (by assumption) ?_
                        simp only [Act.put, List.setIfInBounds_toArray, List.set_cons_zero, List.set_cons_succ]
                        refine wpAnyH_done (by kernel_rfl) ?_ _
                        clear hHeld
                        go_wp2_with fail
                        go_ret
                        exact ⟨rfl, hbw.trans (hB44.mono hbw.size)⟩
                      · go_simp
                        have hBa45 := hB41.alloc hB41.size (.cells #[.slice Ab lb cb] 27)
                        refine hKC.out _ _ hBa45 (fun hHeld45 => ?_)
                        clear hKC KC
                        try simp only [Act.put, List.setIfInBounds_toArray, List.set_cons_zero, List.set_cons_succ]
                        change wpAnyH _ _ _ _ _ _ _ _ (w41.alloc (.cells #[.slice Ab lb cb] 27))
                        obtain ⟨g45, hg45⟩ : ∃ x, x = w41.heap.size := ⟨_, rfl⟩
                        have N45 := pb_rows_one (n := lb) (c := cb) 27 Hlb.out hb2x hb3' (Hbb.out.below hB41 (Nat.le_refl _)) hB41.size
                        have hb45 : Below w41.heap.size w41 (w41.alloc (.cells #[.slice Ab lb cb] 27)) := (Below.refl _ _).alloc (Nat.le_refl _) _
                        obtain ⟨w45, hw45⟩ : ∃ x, x = w41.alloc (.cells #[.slice Ab lb cb] 27) := ⟨_, rfl⟩
                        have hBs45 : w45.heap.size = w41.heap.size + 1 := by rw [hw45]; simp
                        rw [← hw45] at hb45 N45 ⊢
                        have Fy45 := ((N41).below hb45 (Nat.le_refl _)).more hb45.size
                        clear N41
                        have hB45 := hB41.trans (hb45.mono hB41.size)
                        rw [← hBs45, ← hg45] at N45
                        try rw [← hg45]
                        clear hw45 hg45 hBs45
                        refine wpAnyH_ready (rs := [5]) (by kernel_rfl) (by simp) ?_
                        refine AllReadyH.cons rfl (fun KC hKC => ?_) AllReadyH.nil
                        go_simp
                        go_at_call 16
                        refine Calls.mono (rtag_at 4 4 [a] SL (some ⟨g41, 0, none⟩) 1 1 _ rfl HSL.out rfl (by omega) Fy45 HYa.out) ?_
                        rintro e w46 ⟨rfl, hb46⟩
                        have hB46 := hB45.trans (hb46.mono hB45.size)
                        have Fy46 := ((Fy45).below hb46 (Nat.le_refl _)).more hb46.size
                        clear Fy45
                        have Fz46 := ((N45).below hb46 (Nat.le_refl _)).more hb46.size
                        clear N45
                        go_wp2_with fail
                        refine hKC.out _ _ hB46 (fun hHeld46 => ?_)
                        clear hKC KC
                        try simp only [Act.put, List.setIfInBounds_toArray, List.set_cons_zero, List.set_cons_succ]
                        refine wpAnyH_ready (rs := [11]) (by kernel_rfl) (by simp) ?_
                        refine AllReadyH.cons rfl (fun KC hKC => ?_) AllReadyH.nil
                        go_simp
                        go_at_call 16
                        refine Calls.mono (rtag_at 4 4 [b2] SL (some ⟨g45, 0, none⟩) 1 1 _ rfl HSb.out rfl (by omega) Fz46 HYb.out) ?_
                        rintro e w47 ⟨rfl, hb47⟩
                        have hB47 := hB46.trans (hb47.mono hB46.size)
                        have Fy47 := ((Fy46).below hb47 (Nat.le_refl _)).more hb47.size
                        clear Fy46
                        have Fz47 := ((Fz46).below hb47 (Nat.le_refl _)).more hb47.size
                        clear Fz46
                        go_wp2_with fail
                        refine hKC.out _ _ hB47 (fun hHeld47 => ?_)
                        clear hKC KC
                        try simp only [Act.put, List.setIfInBounds_toArray, List.set_cons_zero, List.set_cons_succ]
                        refine anyH_take (i := 12) (v := .bool true) (some 113) rfl rfl (by kernel_rfl) (by kernel_rfl) (by kernel_rfl) (fun _ _ _ h => h) (Or.inl ⟨by rfl, fun _ hw => by (have hc := Hcmp.out; have hg := gt32; go_simp)⟩) (by assumption) ?_
                        simp only [Act.put, List.setIfInBounds_toArray, List.set_cons_zero, List.set_cons_succ]
                        refine anyH_take (i := 13) (v := .bool true) (some 6) rfl rfl (by kernel_rfl) (by kernel_rfl) (by kernel_rfl) (fun _ _ _ h => h) (Or.inl ⟨by rfl, fun _ hw => by go_simp⟩) (by assumption) ?_
                        simp only [Act.put, List.setIfInBounds_toArray, List.set_cons_zero, List.set_cons_succ]
                        refine wpAnyH_done (by kernel_rfl) ?_ _
                        clear hHeld
                        go_wp2_with fail
                        go_ret
                        exact ⟨rfl, hbw.trans (hB47.mono hbw.size)⟩
                    · go_simp
                      have hBa48 := hB8.alloc hB8.size (.cells #[.slice Ab lb cb] 27)
                      refine hKC.out _ _ hBa48 (fun hHeld48 => ?_)
                      clear hKC KC
                      try simp only [Act.put, List.setIfInBounds_toArray, List.set_cons_zero, List.set_cons_succ]
                      change wpAnyH _ _ _ _ _ _ _ _ (w8.alloc (.cells #[.slice Ab lb cb] 27))
                      obtain ⟨g48, hg48⟩ : ∃ x, x = w8.heap.size := ⟨_, rfl⟩
                      have N48 := pb_rows_one (n := lb) (c := cb) 27 Hlb.out hb2x hb3' (Hbb.out.below hB8 (Nat.le_refl _)) hB8.size
                      have hb48 : Below w8.heap.size w8 (w8.alloc (.cells #[.slice Ab lb cb] 27)) := (Below.refl _ _).alloc (Nat.le_refl _) _
                      obtain ⟨w48, hw48⟩ : ∃ x, x = w8.alloc (.cells #[.slice Ab lb cb] 27) := ⟨_, rfl⟩
                      have hBs48 : w48.heap.size = w8.heap.size + 1 := by rw [hw48]; simp
                      rw [← hw48] at hb48 N48 ⊢
                      have hB48 := hB8.trans (hb48.mono hB8.size)
                      rw [← hBs48, ← hg48] at N48
                      try rw [← hg48]
                      clear hw48 hg48 hBs48
                      refine wpAnyH_ready (rs := [4]) (by kernel_rfl) (by simp) ?_
                      refine AllReadyH.cons rfl (fun KC hKC => ?_) AllReadyH.nil
                      go_simp
                      have hBa49 := hB48.alloc hB48.size (.cells #[.slice Aa la ca] 27)
                      refine hKC.out _ _ hBa49 (fun hHeld49 => ?_)
                      clear hKC KC
                      try simp only [Act.put, List.setIfInBounds_toArray, List.set_cons_zero, List.set_cons_succ]
                      change wpAnyH _ _ _ _ _ _ _ _ (w48.alloc (.cells #[.slice Aa la ca] 27))
                      obtain ⟨g49, hg49⟩ : ∃ x, x = w48.heap.size := ⟨_, rfl⟩
                      have N49 := pb_rows_one (n := la) (c := ca) 27 Hla.out ha2 ha3 (Hba.out.below hB48 (Nat.le_refl _)) hB48.size
                      have hb49 : Below w48.heap.size w48 (w48.alloc (.cells #[.slice Aa la ca] 27)) := (Below.refl _ _).alloc (Nat.le_refl _) _
                      obtain ⟨w49, hw49⟩ : ∃ x, x = w48.alloc (.cells #[.slice Aa la ca] 27) := ⟨_, rfl⟩
                      have hBs49 : w49.heap.size = w48.heap.size + 1 := by rw [hw49]; simp
                      rw [← hw49] at hb49 N49 ⊢
                      have Fz49 := ((N48).below hb49 (Nat.le_refl _)).more hb49.size
                      clear N48
                      have hB49 := hB48.trans (hb49.mono hB48.size)
                      rw [← hBs49, ← hg49] at N49
                      try rw [← hg49]
                      clear hw49 hg49 hBs49
                      refine wpAnyH_ready (rs := [5]) (by kernel_rfl) (by simp) ?_
                      refine AllReadyH.cons rfl (fun KC hKC => ?_) AllReadyH.nil
                      go_simp
                      go_at_call 16
                      refine Calls.mono (rtag_at 4 4 [a] SL (some ⟨g49, 0, none⟩) 1 1 _ rfl HSL.out rfl (by omega) N49 HYa.out) ?_
                      rintro e w50 ⟨rfl, hb50⟩
                      have hB50 := hB49.trans (hb50.mono hB49.size)
                      have Fz50 := ((Fz49).below hb50 (Nat.le_refl _)).more hb50.size
                      clear Fz49
                      have Fy50 := ((N49).below hb50 (Nat.le_refl _)).more hb50.size
                      clear N49
                      go_wp2_with fail
                      refine hKC.out _ _ hB50 (fun hHeld50 => ?_)
                      clear hKC KC
                      try simp only [Act.put, List.setIfInBounds_toArray, List.set_cons_zero, List.set_cons_succ]
                      refine wpAnyH_ready (rs := [11]) (by kernel_rfl) (by simp) ?_
                      refine AllReadyH.cons rfl (fun KC hKC => ?_) AllReadyH.nil
                      go_simp
                      go_at_call 16
                      refine Calls.mono (rtag_at 4 4 [b2] SL (some ⟨g48, 0, none⟩) 1 1 _ rfl HSb.out rfl (by omega) Fz50 HYb.out) ?_
                      rintro e w51 ⟨rfl, hb51⟩
                      have hB51 := hB50.trans (hb51.mono hB50.size)
                      have Fz51 := ((Fz50).below hb51 (Nat.le_refl _)).more hb51.size
                      clear Fz50
                      have Fy51 := ((Fy50).below hb51 (Nat.le_refl _)).more hb51.size
                      clear Fy50
                      go_wp2_with fail
                      refine hKC.out _ _ hB51 (fun hHeld51 => ?_)
                      clear hKC KC
                      try simp only [Act.put, List.setIfInBounds_toArray, List.set_cons_zero, List.set_cons_succ]
                      refine anyH_take (i := 12) (v := .bool true) (some 113) rfl rfl (by kernel_rfl) (by kernel_rfl) (by kernel_rfl) (fun _ _ _ h => h) (Or.inl ⟨by rfl, fun _ hw => by (have hc := Hcmp.out; have hg := gt32; go_simp)⟩) (by assumption) ?_
                      simp only [Act.put, List.setIfInBounds_toArray, List.set_cons_zero, List.set_cons_succ]
                      refine anyH_take (i := 13) (v := .bool true) (some 6) rfl rfl (by kernel_rfl) (by kernel_rfl) (by kernel_rfl) (fun _ _ _ h => h) (Or.inl ⟨by rfl, fun _ hw => by go_simp⟩) (by assumption) ?_
                      simp only [Act.put, List.setIfInBounds_toArray, List.set_cons_zero, List.set_cons_succ]
                      refine wpAnyH_done (by kernel_rfl) ?_ _
                      clear hHeld
                      go_wp2_with fail
                      go_ret
                      exact ⟨rfl, hbw.trans (hB51.mono hbw.size)⟩
                · have hd2 : decide ((i : Int) < (nr : Int)) = false := by simp; omega
                  have hfin := Ht2.out.2 i (by rw [Hnp.out]; exact hi1) (by rw [Hnr.out]; exact hi2) (.inr (by rw [Hnr.out]; omega)) Hi.out
                  rcases hfin with ⟨hL, b2, r2, hrs2, hsh⟩ | ⟨hL, hrs2, a2, r2, hP2', hsh⟩
                  · exfalso
                    have hx0 : xs = [] := List.map_eq_nil_iff.1 hL
                    have hn0 : n1 = 0 := by rw [← Hn1.out, hx0]; rfl
                    omega
                  · have hnr0 : nr = 0 := by rw [← Hnr.out, hrs2]; rfl
                    have hn0 : 0 < n1 := by
                      rw [← Hn1.out]
                      refine List.length_pos_iff.2 fun e => hL ?_
                      rw [e]; rfl
                    have hnp0 : 0 < np := by rw [← Hnp.out, hP2']; simp
                    have hq1 : decide ((n1 : Int) = 0) = false := by simp; omega
                    have hq2 : ((n1 : Int) == 0) = false := by simp; omega
                    have hq3 : decide (n1 = 0) = false := by simp; omega
                    have hq4 : (n1 == 0) = false := by simp; omega
                    have hd3 : decide ((0 : Int) < (n1 : Int)) = true := by simp; omega
                    have hd4 : decide (0 < n1) = true := by simp; omega
                    obtain ⟨bp, op, rfl, hbpl, hcp⟩ := hPrr (by rw [Hnp.out]; exact hnp0)
                    obtain ⟨Aa, ca, ha1, ha2, ha3, ha4⟩ := hcp 0 (by rw [Hnp.out]; exact hnp0)
                    have hga : P.getD 0 [] = a2 := by rw [hP2']; rfl
                    rw [hga] at ha1 ha2 ha4
                    rw [Nat.add_zero] at ha1
                    obtain ⟨la, hla⟩ : ∃ l, a2.length = l := ⟨_, rfl⟩
                    rw [hla] at ha1 ha2
                    have Hll := Lib.hid hla
                    have HL2 : Hid (a2.length ≤ 2000) := by have := HPl2.out a2 (by rw [hP2']; simp); show a2.length ≤ 2000; omega
                    clear hga hcp hla hrs2 hL hPrr hrsr hP2'
                    subst hnr0
                    have hlm : la ≤ 2000 := by rw [← Hll.out]; exact HL2.out
                    obtain ⟨SL, hSL⟩ : ∃ SL, SL = Lib.byteCells (shaF (tagF 4 [a2])) := ⟨_, rfl⟩
                    have HS5 : Hid (SL = Lib.byteCells (shaF (tagF 5 []))) := by show SL = _; rw [hSL, hsh]
                    have HSL := Lib.hid hSL
                    have Hcmp := Lib.hid (fun w => digCmpP _ _ (shaF_length (tagF 4 [a2])) (shaF_length (tagF 4 [a2])) SL SL hSL hSL true (by simp) w)
                    have HYa := Lib.hid (show (tagF 4 [a2]).length ≤ 1000000 from tag_one_bound a2 (by rw [Hll.out]; omega))
                    obtain ⟨W9, hW9⟩ : ∃ W, W = wr.alloc (.cells #[.slice Aa la ca] 27) := ⟨_, rfl⟩
                    have hb9 : Below wr.heap.size wr W9 := by rw [hW9]; exact (Below.refl _ wr).alloc (Nat.le_refl _) _
                    have hr9 : RowsAt W9 W9.heap.size (some ⟨wr.heap.size, 0, none⟩) [a2] := by
                      have hz : W9.heap.size = wr.heap.size + 1 := by rw [hW9]; simp
                      rw [hz, hW9]
                      exact pb_rows_one (n := la) (c := ca) _ Hll.out ha2 ha3 ha4 (Nat.le_refl _)
                    have HW9 := Lib.hid hW9
                    clear hW9 hSL hsh
                    go_wp2_with fail
                    go_at_call 16
                    first | rw [← HW9.out] | (change Calls _ _ _ (wr.alloc (.cells #[.slice Aa la ca] 27)) _; rw [← HW9.out])
                    refine Calls.mono (rtag_at 4 4 [a2] SL _ 1 1 W9 rfl HSL.out rfl (by omega) hr9 HYa.out) ?_
                    rintro e wA ⟨rfl, hbA⟩
                    have hbA' := hb9.trans (hbA.mono hb9.size)
                    clear hr9 hbA hb9
                    dsimp only
                    go_wp2_with fail
                    go_at_call 16
                    refine Calls.mono (rtag_at 5 5 [] SL none 0 0 wA rfl HS5.out rfl (by omega) (fun h => absurd h (by simp)) (by decide)) ?_
                    rintro e wB ⟨rfl, hbB⟩
                    have hbB' := hbA'.trans (hbB.mono hbA'.size)
                    clear hbA' hbB
                    dsimp only
                    have hcm := Hcmp.out
                    have hg32 := gt32
                    go_wp2_with fail
                    go_ret
                    exact ⟨rfl, hbw.trans (hbB'.mono hbw.size)⟩
              · have hd1 : decide ((i : Int) < (np : Int)) = false := by simp; omega
                have hfin := Ht2.out.2 i (by rw [Hnp.out]; exact hi1) (by rw [Hnr.out]; exact hi2) (.inl (by rw [Hnp.out]; omega)) Hi.out
                rcases hfin with ⟨hL, b2, r2, hrs2, hsh⟩ | ⟨hL, hrs2, a2, r2, hP2', hsh⟩
                · exfalso
                  have hx0 : xs = [] := List.map_eq_nil_iff.1 hL
                  have hn0 : n1 = 0 := by rw [← Hn1.out, hx0]; rfl
                  omega
                · exfalso
                  have hnr0 : nr = 0 := by rw [← Hnr.out, hrs2]; rfl
                  have hnp0 : 0 < np := by rw [← Hnp.out, hP2']; simp
                  omega
          | some u =>
            simp only [Option.getD_some, Option.isSome_some] at hbt2
            subst hbt2
            obtain rfl : u = v := by simpa using hv2
            obtain ⟨b, off, hA1, hlt, hrow⟩ := hfit4.at_ (by rw [Hn1.out]; omega)
            obtain ⟨hx32, hxr⟩ := hrow j x hx
            have hxo := hfit4.ok x (List.mem_of_getElem? hx)
            obtain ⟨lx, hlx⟩ : ∃ l, x.val.length = l := ⟨_, rfl⟩
            have hxv := ItsAt.val hx32 hxr
            rw [hlx] at hxv
            obtain ⟨ans, hans⟩ : ∃ a, decide (u = x.val) = a := ⟨_, rfl⟩
            have Hans := Lib.hid hans
            have Hf1 := Lib.hid hf1
            have Hlx := Lib.hid hlx
            have hlm : lx ≤ maxLen := by rw [← hlx]; have := hxo.le; have := hxo.lim; omega
            have Hxb := Lib.hid hxo.bs
            have Hvl3 := Lib.hid hvb3
            clear hrow hxr hlx hans hf1 hv2 hx hxo hvb3
            subst hA1
            go_wp2_with fail
            go_at_call 9
            refine Calls.mono (same_n w3.heap.size w3.heap.size Av x.adr cv x.cap vl lx u x.val w3 ans (Hvl3.out.more hB3) Hxb.out Hvl.out Hlx.out hvm hlm Hans.out) ?_
            rintro e w4 ⟨rfl, k4, rfl⟩
            cases ans with
            | true =>
              dsimp only
              go_wp2_with fail
              go_ret
              exact ⟨rfl, Below.dN hb3 k4⟩
            | false =>
              have hne : u ≠ x.val := by simpa using Hans.out
              have Ht := Lib.hid (bound_tail key hk (xs.map Itm.it) rs (some u) Hgood.out (fun y hy => by obtain ⟨q, hq, rfl⟩ := List.mem_map.1 hy; exact Hvals.out q hq) (by rw [Hrt.out, Hres.out]) (by rw [Hf1.out]; intro e; injection e with e; exact hne e))
              have hfit5 := hfit4.up (Below.dN (Below.refl _ w3) k4)
              have hK5 : Arr (w3.drewN k4) w.heap.size 23 KL := hK3.drewN k4
              have hb5 : Below w.heap.size w (w3.drewN k4) := Below.dN hb3 k4
              clear hne hfit4 hK3 hb3
              dsimp only
              obtain ⟨P, hP⟩ : ∃ P, proveF key 65 (xs.map Itm.it) 0 = P := ⟨_, rfl⟩
              have ht := Ht.out
              rw [hP] at ht
              have HPl := Lib.hid (proveF_len key 65 (xs.map Itm.it) 0 Hgood.out (fun y hy => by obtain ⟨q, hq, rfl⟩ := List.mem_map.1 hy; exact Hvals.out q hq) (fun i hi => by omega) (by omega))
              have HPl2 : Hid (∀ a ∈ P, a.length ≤ 1900) := by show ∀ a ∈ P, a.length ≤ 1900; rw [← hP]; exact HPl.out
              have HP := Lib.hid hP
              have Ht2 := Lib.hid ht
              have hki := hK5.range
              clear ht hP HPl Ht
              go_upto_region 19 with fail
              go_wp2_with (refine wpList_load_mid rfl _ _ rfl w.heap.size 0 rfl KL _ hki Try.underlying23 rfl HKi.out ?_)
              go_at_call 15
              refine Calls.mono (prove_runI key hk KL HKL.out xs _ n1 c1 _ hfit5 P HP.out) ?_
              rintro e w6 ⟨vP, rfl, hN, hb56⟩
              have hb6 := hb5.trans (hb56.mono hb5.size)
              obtain ⟨AP, cP, rfl, hP1, hP2, hPr⟩ := hN.rows
              obtain ⟨np, hnp⟩ : ∃ np, P.length = np := ⟨_, rfl⟩
              rw [hnp] at hP1 ⊢
              have hP63 : cP ≤ 9223372036854775807 := by unfold maxLen at hP2; exact hP2
              have Hnp := Lib.hid hnp
              have HPr := Lib.hid hPr
              have Hrs6 : Hid (RowsAt w6 w6.heap.size Ar rs) := (Hrows.out.below hb6 (Nat.le_refl _)).more hb6.size
              clear hnp hPr hN hb56 hki hfit5 hK5 hb5
              dsimp only
              go_upto_region 21 with fail
              go_loopw [15] (fun iv wr => ∃ i : Nat, i ≤ np ∧ i ≤ nr ∧ iv = .int .i64 i ∧ Below w6.heap.size w6 wr ∧ Hid (P.take i = rs.take i)) (fun iv _ => np - (intOf iv).toNat)
              case atStart => exact ⟨0, Nat.zero_le _, Nat.zero_le _, rfl, Below.refl _ _, rfl⟩
              case round =>
                obtain ⟨i, hi1, hi2, rfl, hbr6, Hi⟩ := hrel
                have hPrr : RowsAt wr wr.heap.size AP P := (HPr.out.below hbr6 (Nat.le_refl _)).more hbr6.size
                have hrsr : RowsAt wr wr.heap.size Ar rs := (Hrs6.out.below hbr6 (Nat.le_refl _)).more hbr6.size
                have hbw : Below w.heap.size w wr := hb6.trans (hbr6.mono hb6.size)
                by_cases hip : i < np
                · have hd1 : decide ((i : Int) < (np : Int)) = true := by simp; omega
                  by_cases hir : i < nr
                  · have hd2 : decide ((i : Int) < (nr : Int)) = true := by simp; omega
                    obtain ⟨a, ha⟩ : ∃ a, P[i]? = some a := ⟨P[i]'(by rw [Hnp.out]; exact hip), List.getElem?_eq_getElem _⟩
                    obtain ⟨b2, hb2'⟩ : ∃ b, rs[i]? = some b := ⟨rs[i]'(by rw [Hnr.out]; exact hir), List.getElem?_eq_getElem _⟩
                    have hga : P.getD i [] = a := by simp [List.getD, ha]
                    have hgb : rs.getD i [] = b2 := by simp [List.getD, hb2']
                    obtain ⟨bp, op, rfl, hbpl, hcp⟩ := hPrr (by rw [Hnp.out]; omega)
                    obtain ⟨br, orr, rfl, hbrl, hcr2⟩ := hrsr (by rw [Hnr.out]; omega)
                    obtain ⟨Aa, ca, ha1, ha2, ha3, ha4⟩ := hcp i (by rw [Hnp.out]; exact hip)
                    obtain ⟨Ab, cb, hb1', hb2x, hb3', hb4'⟩ := hcr2 i (by rw [Hnr.out]; exact hir)
                    rw [hga] at ha1 ha2 ha4
                    rw [hgb] at hb1' hb2x hb4'
                    obtain ⟨la, hla⟩ : ∃ l, a.length = l := ⟨_, rfl⟩
                    obtain ⟨lb, hlb⟩ : ∃ l, b2.length = l := ⟨_, rfl⟩
                    rw [hla] at ha1 ha2
                    rw [hlb] at hb1' hb2x
                    have Hca := Lib.hid (fun (w' : World) (h : Below wr.heap.size wr w') => show w'.cell? ⟨bp, op + i, none⟩ = some (.slice Aa la ca) from (World.cell?_of_block (h.block bp hbpl)).trans ha1)
                    have Hcb := Lib.hid (fun (w' : World) (h : Below wr.heap.size wr w') => show w'.cell? ⟨br, orr + i, none⟩ = some (.slice Ab lb cb) from (World.cell?_of_block (h.block br hbrl)).trans hb1')
                    have Hba := Lib.hid ha4
                    have Hbb := Lib.hid hb4'
                    have Hla := Lib.hid hla
                    have Hlb := Lib.hid hlb
                    have Ha := Lib.hid ha
                    have Hb := Lib.hid hb2'
                    have hlam : la ≤ 1900 := by rw [← hla]; exact HPl2.out a (List.mem_of_getElem? ha)
                    have hlbm : lb ≤ 2000 := by rw [← hlb]; exact H2000.out b2 (List.mem_of_getElem? hb2')
                    obtain ⟨ans, hans⟩ : ∃ x, decide (a = b2) = x := ⟨_, rfl⟩
                    have Hans := Lib.hid hans
                    clear hga hgb hcp hcr2 ha1 ha4 hb1' hb4' hla hlb ha hb2' hans hPrr hrsr
                    go_upto_region 23 with fail
                    refine wp_region_held_drew (S := fun w' => Below wr.heap.size wr w') (by kernel_rfl) (Below.dN (Below.refl _ wr) 1) (fun hHeld => ?_)
                    refine anyH_take (i := 0) (v := .slice (some ⟨bp, op, none⟩) np cP) (some 91) rfl rfl (by kernel_rfl) (by kernel_rfl) (by kernel_rfl) (fun _ _ _ h => h) (Or.inl ⟨by rfl, fun w' hw => by go_simp⟩) (by assumption) ?_
                    simp only [Act.put, List.setIfInBounds_toArray, List.set_cons_zero, List.set_cons_succ]
                    refine anyH_take (i := 1) (v := .int .i64 (i : Nat)) (some 92) rfl rfl (by kernel_rfl) (by kernel_rfl) (by kernel_rfl) (fun _ _ _ h => h) (Or.inl ⟨by rfl, fun w' hw => by go_simp⟩) (by assumption) ?_
                    simp only [Act.put, List.setIfInBounds_toArray, List.set_cons_zero, List.set_cons_succ]
                    refine anyH_take (i := 2) (v := .pointer (some ⟨bp, op + i, none⟩)) (some 93) rfl rfl (by kernel_rfl) (by kernel_rfl) (by kernel_rfl) (fun _ _ _ h => h) (Or.inl ⟨by rfl, fun w' hw => by (go_simp; try (intro h; omega))⟩) (by assumption) ?_
                    simp only [Act.put, List.setIfInBounds_toArray, List.set_cons_zero, List.set_cons_succ]
                    refine anyH_take (i := 3) (v := .slice Aa la ca) (some 94) rfl rfl (by kernel_rfl) (by kernel_rfl) (by kernel_rfl) (fun _ _ _ h => h) (Or.inl ⟨by rfl, fun w' hw => by (have hc := Hca.out w' hw; go_simp)⟩) (by assumption) ?_
                    simp only [Act.put, List.setIfInBounds_toArray, List.set_cons_zero, List.set_cons_succ]
                    refine anyH_take (i := 4) (v := .slice (some ⟨br, orr, none⟩) nr cr) (some 95) rfl rfl (by kernel_rfl) (by kernel_rfl) (by kernel_rfl) (fun _ _ _ h => h) (Or.inl ⟨by rfl, fun w' hw => by go_simp⟩) (by assumption) ?_
                    simp only [Act.put, List.setIfInBounds_toArray, List.set_cons_zero, List.set_cons_succ]
                    refine anyH_take (i := 5) (v := .int .i64 (i : Nat)) (some 96) rfl rfl (by kernel_rfl) (by kernel_rfl) (by kernel_rfl) (fun _ _ _ h => h) (Or.inl ⟨by rfl, fun w' hw => by go_simp⟩) (by assumption) ?_
                    simp only [Act.put, List.setIfInBounds_toArray, List.set_cons_zero, List.set_cons_succ]
                    refine anyH_take (i := 6) (v := .pointer (some ⟨br, orr + i, none⟩)) (some 97) rfl rfl (by kernel_rfl) (by kernel_rfl) (by kernel_rfl) (fun _ _ _ h => h) (Or.inl ⟨by rfl, fun w' hw => by (go_simp; try (intro h; omega))⟩) (by assumption) ?_
                    simp only [Act.put, List.setIfInBounds_toArray, List.set_cons_zero, List.set_cons_succ]
                    refine anyH_take (i := 7) (v := .slice Ab lb cb) (some 98) rfl rfl (by kernel_rfl) (by kernel_rfl) (by kernel_rfl) (fun _ _ _ h => h) (Or.inl ⟨by rfl, fun w' hw => by (have hc := Hcb.out w' hw; go_simp)⟩) (by assumption) ?_
                    simp only [Act.put, List.setIfInBounds_toArray, List.set_cons_zero, List.set_cons_succ]
                    refine wpAnyH_ready (rs := [8]) (by kernel_rfl) (by simp) ?_
                    refine AllReadyH.cons rfl (fun K hK => ?_) AllReadyH.nil
                    go_simp
                    go_at_call 9
                    refine Calls.mono (same_n wr.heap.size wr.heap.size Aa Ab ca cb la lb a b2 (wr.drewN 1) ans Hba.out Hbb.out Hla.out Hlb.out (by omega) (by omega) Hans.out) ?_
                    rintro e w7 ⟨rfl, k7, rfl⟩
                    dsimp only
                    go_wp2_with fail
                    refine hK.out _ _ (Below.dN (Below.dN (Below.refl _ wr) 1) k7) (fun hHeldx => ?_)
                    clear hK K
                    try simp only [Act.put, List.setIfInBounds_toArray, List.set_cons_zero, List.set_cons_succ]
                    cases ans with
                    | true =>
                      refine anyH_take (i := 9) (v := .bool false) (some 100) rfl rfl (by kernel_rfl) (by kernel_rfl) (by kernel_rfl) (fun _ _ _ h => h) (Or.inl ⟨by rfl, fun w' hw => by go_simp⟩) (by assumption) ?_
                      simp only [Act.put, List.setIfInBounds_toArray, List.set_cons_zero, List.set_cons_succ]
                      refine wpAnyH_done (by kernel_rfl) ?_ _
                      clear hHeld hHeldx
                      have hab : a = b2 := by simpa using Hans.out
                      have Hi2 : Hid (P.take (i + 1) = rs.take (i + 1)) := take_one Hi.out Ha.out (by rw [hab]; exact Hb.out)
                      have hbn := Below.dN hbr6 (1 + k7)
                      clear hab
                      go_wp2_with fail
                      go_roundw
                      case rel => exact ⟨i + 1, by omega, by omega, by go_num, hbn, Hi2⟩
                      case measure => simp [intOf]; omega
                    | false =>
                      refine anyH_take (i := 9) (v := .bool true) (some 100) rfl rfl (by kernel_rfl) (by kernel_rfl) (by kernel_rfl) (fun _ _ _ h => h) (Or.inl ⟨by rfl, fun w' hw => by go_simp⟩) (by assumption) ?_
                      simp only [Act.put, List.setIfInBounds_toArray, List.set_cons_zero, List.set_cons_succ]
                      refine wpAnyH_done (by kernel_rfl) ?_ _
                      clear hHeld hHeldx
                      have hab : a ≠ b2 := by simpa using Hans.out
                      obtain ⟨SL, hSL⟩ : ∃ SL, SL = Lib.byteCells (shaF (tagF 4 [a])) := ⟨_, rfl⟩
                      have HSb : Hid (SL = Lib.byteCells (shaF (tagF 4 [b2]))) := by show SL = _; rw [hSL, Ht2.out.1 i a b2 Hi.out Ha.out Hb.out hab]
                      have HSL := Lib.hid hSL
                      have Hcmp := Lib.hid (fun w => digCmpP _ _ (shaF_length (tagF 4 [a])) (shaF_length (tagF 4 [a])) SL SL hSL hSL true (by simp) w)
                      have HYa := Lib.hid (show (tagF 4 [a]).length ≤ 1000000 from tag_one_bound a (by rw [Hla.out]; omega))
                      have HYb := Lib.hid (show (tagF 4 [b2]).length ≤ 1000000 from tag_one_bound b2 (by rw [Hlb.out]; omega))
                      clear hab hSL
                      go_upto_region 24 with fail
                      obtain ⟨w8, hw8⟩ : ∃ W, W = ((wr.drewN 1).drewN k7).drewN 1 := ⟨_, rfl⟩
                      have hB8 : Below wr.heap.size wr w8 := by rw [hw8]; exact Below.dN (Below.dN (Below.dN (Below.refl _ wr) 1) k7) 1
                      refine wp_region_held_drew (S := fun w' => Below wr.heap.size wr w') (by kernel_rfl) (by first | (rw [← hw8]; exact hB8) | exact Below.dN (Below.dN (Below.dN (Below.refl _ wr) 1) k7) 1 | exact Below.dN (Below.dN (Below.refl _ wr) _) 1) (fun hHeld => ?_)
                      first | rw [← hw8] at hHeld ⊢ | (change wpAnyH _ _ _ _ _ _ _ _ (((wr.drewN 1).drewN k7).drewN 1); rw [← hw8])
                      clear hw8
                      refine anyH_take (i := 0) (v := .slice (some ⟨bp, op, none⟩) np cP) (some 101) rfl rfl (by kernel_rfl) (by kernel_rfl) (by kernel_rfl) (fun _ _ _ h => h) (Or.inl ⟨by rfl, fun _ hw => by go_simp⟩) (by assumption) ?_
                      simp only [Act.put, List.setIfInBounds_toArray, List.set_cons_zero, List.set_cons_succ]
                      refine anyH_take (i := 1) (v := .int .i64 (i : Nat)) (some 102) rfl rfl (by kernel_rfl) (by kernel_rfl) (by kernel_rfl) (fun _ _ _ h => h) (Or.inl ⟨by rfl, fun _ hw => by go_simp⟩) (by assumption) ?_
                      simp only [Act.put, List.setIfInBounds_toArray, List.set_cons_zero, List.set_cons_succ]
                      refine anyH_take (i := 2) (v := .pointer (some ⟨bp, op + i, none⟩)) (some 103) rfl rfl (by kernel_rfl) (by kernel_rfl) (by kernel_rfl) (fun _ _ _ h => h) (Or.inl ⟨by rfl, fun _ hw => by (go_simp; try (intro h; omega))⟩) (by assumption) ?_
                      simp only [Act.put, List.setIfInBounds_toArray, List.set_cons_zero, List.set_cons_succ]
                      refine anyH_take (i := 3) (v := .slice Aa la ca) (some 104) rfl rfl (by kernel_rfl) (by kernel_rfl) (by kernel_rfl) (fun _ _ _ h => h) (Or.inl ⟨by rfl, fun _ hw => by (have hc := Hca.out _ hw; go_simp)⟩) (by assumption) ?_
                      simp only [Act.put, List.setIfInBounds_toArray, List.set_cons_zero, List.set_cons_succ]
                      refine anyH_take (i := 6) (v := .slice (some ⟨br, orr, none⟩) nr cr) (some 107) rfl rfl (by kernel_rfl) (by kernel_rfl) (by kernel_rfl) (fun _ _ _ h => h) (Or.inl ⟨by rfl, fun _ hw => by go_simp⟩) (by assumption) ?_
                      simp only [Act.put, List.setIfInBounds_toArray, List.set_cons_zero, List.set_cons_succ]
                      refine anyH_take (i := 7) (v := .int .i64 (i : Nat)) (some 108) rfl rfl (by kernel_rfl) (by kernel_rfl) (by kernel_rfl) (fun _ _ _ h => h) (Or.inl ⟨by rfl, fun _ hw => by go_simp⟩) (by assumption) ?_
                      simp only [Act.put, List.setIfInBounds_toArray, List.set_cons_zero, List.set_cons_succ]
                      refine anyH_take (i := 8) (v := .pointer (some ⟨br, orr + i, none⟩)) (some 109) rfl rfl (by kernel_rfl) (by kernel_rfl) (by kernel_rfl) (fun _ _ _ h => h) (Or.inl ⟨by rfl, fun _ hw => by (go_simp; try (intro h; omega))⟩) (by assumption) ?_
                      simp only [Act.put, List.setIfInBounds_toArray, List.set_cons_zero, List.set_cons_succ]
                      refine anyH_take (i := 9) (v := .slice Ab lb cb) (some 110) rfl rfl (by kernel_rfl) (by kernel_rfl) (by kernel_rfl) (fun _ _ _ h => h) (Or.inl ⟨by rfl, fun _ hw => by (have hc := Hcb.out _ hw; go_simp)⟩) (by assumption) ?_
                      simp only [Act.put, List.setIfInBounds_toArray, List.set_cons_zero, List.set_cons_succ]
                      refine wpAnyH_ready (rs := [4, 10]) (by kernel_rfl) (by simp) ?_
                      refine AllReadyH.cons rfl (fun KC hKC => ?_) (AllReadyH.cons rfl (fun KC hKC => ?_) AllReadyH.nil)
                      · go_simp
                        have hBa41 := hB8.alloc hB8.size (.cells #[.slice Aa la ca] 27)
                        refine hKC.out _ _ hBa41 (fun hHeld41 => ?_)
                        clear hKC KC
                        try simp only [Act.put, List.setIfInBounds_toArray, List.set_cons_zero, List.set_cons_succ]
                        change wpAnyH _ _ _ _ _ _ _ _ (w8.alloc (.cells #[.slice Aa la ca] 27))
                        obtain ⟨g41, hg41⟩ : ∃ x, x = w8.heap.size := ⟨_, rfl⟩
                        have N41 := pb_rows_one (n := la) (c := ca) 27 Hla.out ha2 ha3 (Hba.out.below hB8 (Nat.le_refl _)) hB8.size
                        have hb41 : Below w8.heap.size w8 (w8.alloc (.cells #[.slice Aa la ca] 27)) := (Below.refl _ _).alloc (Nat.le_refl _) _
                        obtain ⟨w41, hw41⟩ : ∃ x, x = w8.alloc (.cells #[.slice Aa la ca] 27) := ⟨_, rfl⟩
                        have hBs41 : w41.heap.size = w8.heap.size + 1 := by rw [hw41]; simp
                        rw [← hw41] at hb41 N41 ⊢
                        have hB41 := hB8.trans (hb41.mono hB8.size)
                        rw [← hBs41, ← hg41] at N41
                        try rw [← hg41]
                        clear hw41 hg41 hBs41
                        refine wpAnyH_ready (rs := [5, 10]) (by kernel_rfl) (by simp) ?_
                        refine AllReadyH.cons rfl (fun KC hKC => ?_) (AllReadyH.cons rfl (fun KC hKC => ?_) AllReadyH.nil)
                        · go_simp
                          go_at_call 16
                          refine Calls.mono (rtag_at 4 4 [a] SL (some ⟨g41, 0, none⟩) 1 1 _ rfl HSL.out rfl (by omega) N41 HYa.out) ?_
                          rintro e w42 ⟨rfl, hb42⟩
                          have hB42 := hB41.trans (hb42.mono hB41.size)
                          have Fy42 := ((N41).below hb42 (Nat.le_refl _)).more hb42.size
                          clear N41
                          go_wp2_with fail
                          refine hKC.out _ _ hB42 (fun hHeld42 => ?_)
                          clear hKC KC
                          try simp only [Act.put, List.setIfInBounds_toArray, List.set_cons_zero, List.set_cons_succ]
                          refine wpAnyH_ready (rs := [10]) (by kernel_rfl) (by simp) ?_
                          refine AllReadyH.cons rfl (fun KC hKC => ?_) AllReadyH.nil
                          go_simp
                          have hBa43 := hB42.alloc hB42.size (.cells #[.slice Ab lb cb] 27)
                          refine hKC.out _ _ hBa43 (fun hHeld43 => ?_)
                          clear hKC KC
                          try simp only [Act.put, List.setIfInBounds_toArray, List.set_cons_zero, List.set_cons_succ]
                          change wpAnyH _ _ _ _ _ _ _ _ (w42.alloc (.cells #[.slice Ab lb cb] 27))
                          obtain ⟨g43, hg43⟩ : ∃ x, x = w42.heap.size := ⟨_, rfl⟩
                          have N43 := pb_rows_one (n := lb) (c := cb) 27 Hlb.out hb2x hb3' (Hbb.out.below hB42 (Nat.le_refl _)) hB42.size
                          have hb43 : Below w42.heap.size w42 (w42.alloc (.cells #[.slice Ab lb cb] 27)) := (Below.refl _ _).alloc (Nat.le_refl _) _
                          obtain ⟨w43, hw43⟩ : ∃ x, x = w42.alloc (.cells #[.slice Ab lb cb] 27) := ⟨_, rfl⟩
                          have hBs43 : w43.heap.size = w42.heap.size + 1 := by rw [hw43]; simp
                          rw [← hw43] at hb43 N43 ⊢
                          have Fy43 := ((Fy42).below hb43 (Nat.le_refl _)).more hb43.size
                          clear Fy42
                          have hB43 := hB42.trans (hb43.mono hB42.size)
                          rw [← hBs43, ← hg43] at N43
                          try rw [← hg43]
                          clear hw43 hg43 hBs43
                          refine wpAnyH_ready (rs := [11]) (by kernel_rfl) (by simp) ?_
                          refine AllReadyH.cons rfl (fun KC hKC => ?_) AllReadyH.nil
                          go_simp
                          go_at_call 16
                          refine Calls.mono (rtag_at 4 4 [b2] SL (some ⟨g43, 0, none⟩) 1 1 _ rfl HSb.out rfl (by omega) N43 HYb.out) ?_
                          rintro e w44 ⟨rfl, hb44⟩
                          have hB44 := hB43.trans (hb44.mono hB43.size)
                          have Fy44 := ((Fy43).below hb44 (Nat.le_refl _)).more hb44.size
                          clear Fy43
                          have Fz44 := ((N43).below hb44 (Nat.le_refl _)).more hb44.size
                          clear N43
                          go_wp2_with fail
                          refine hKC.out _ _ hB44 (fun hHeld44 => ?_)
                          clear hKC KC
                          try simp only [Act.put, List.setIfInBounds_toArray, List.set_cons_zero, List.set_cons_succ]
                          refine anyH_take (i := 12) (v := .bool true) (some 113) rfl rfl (by kernel_rfl) (by kernel_rfl) (by kernel_rfl) (fun _ _ _ h => h) (Or.inl ⟨by rfl, fun _ hw => by (have hc := Hcmp.out; have hg := gt32; go_simp)⟩) (by assumption) ?_
                          simp only [Act.put, List.setIfInBounds_toArray, List.set_cons_zero, List.set_cons_succ]
                          refine anyH_take (i := 13) (v := .bool true) (some 6) rfl rfl (by kernel_rfl) (by kernel_rfl) (by kernel_rfl) (fun _ _ _ h => h) (Or.inl ⟨by rfl, fun _ hw => by go_simp⟩) (by assumption) ?_
                          simp only [Act.put, List.setIfInBounds_toArray, List.set_cons_zero, List.set_cons_succ]
                          refine wpAnyH_done (by kernel_rfl) ?_ _
                          clear hHeld
                          go_wp2_with fail
                          go_ret
                          exact ⟨rfl, hbw.trans (hB44.mono hbw.size)⟩
                        · go_simp
                          have hBa45 := hB41.alloc hB41.size (.cells #[.slice Ab lb cb] 27)
                          refine hKC.out _ _ hBa45 (fun hHeld45 => ?_)
                          clear hKC KC
                          try simp only [Act.put, List.setIfInBounds_toArray, List.set_cons_zero, List.set_cons_succ]
                          change wpAnyH _ _ _ _ _ _ _ _ (w41.alloc (.cells #[.slice Ab lb cb] 27))
                          obtain ⟨g45, hg45⟩ : ∃ x, x = w41.heap.size := ⟨_, rfl⟩
                          have N45 := pb_rows_one (n := lb) (c := cb) 27 Hlb.out hb2x hb3' (Hbb.out.below hB41 (Nat.le_refl _)) hB41.size
                          have hb45 : Below w41.heap.size w41 (w41.alloc (.cells #[.slice Ab lb cb] 27)) := (Below.refl _ _).alloc (Nat.le_refl _) _
                          obtain ⟨w45, hw45⟩ : ∃ x, x = w41.alloc (.cells #[.slice Ab lb cb] 27) := ⟨_, rfl⟩
                          have hBs45 : w45.heap.size = w41.heap.size + 1 := by rw [hw45]; simp
                          rw [← hw45] at hb45 N45 ⊢
                          have Fy45 := ((N41).below hb45 (Nat.le_refl _)).more hb45.size
                          clear N41
                          have hB45 := hB41.trans (hb45.mono hB41.size)
                          rw [← hBs45, ← hg45] at N45
                          try rw [← hg45]
                          clear hw45 hg45 hBs45
                          refine wpAnyH_ready (rs := [5]) (by kernel_rfl) (by simp) ?_
                          refine AllReadyH.cons rfl (fun KC hKC => ?_) AllReadyH.nil
                          go_simp
                          go_at_call 16
                          refine Calls.mono (rtag_at 4 4 [a] SL (some ⟨g41, 0, none⟩) 1 1 _ rfl HSL.out rfl (by omega) Fy45 HYa.out) ?_
                          rintro e w46 ⟨rfl, hb46⟩
                          have hB46 := hB45.trans (hb46.mono hB45.size)
                          have Fy46 := ((Fy45).below hb46 (Nat.le_refl _)).more hb46.size
                          clear Fy45
                          have Fz46 := ((N45).below hb46 (Nat.le_refl _)).more hb46.size
                          clear N45
                          go_wp2_with fail
                          refine hKC.out _ _ hB46 (fun hHeld46 => ?_)
                          clear hKC KC
                          try simp only [Act.put, List.setIfInBounds_toArray, List.set_cons_zero, List.set_cons_succ]
                          refine wpAnyH_ready (rs := [11]) (by kernel_rfl) (by simp) ?_
                          refine AllReadyH.cons rfl (fun KC hKC => ?_) AllReadyH.nil
                          go_simp
                          go_at_call 16
                          refine Calls.mono (rtag_at 4 4 [b2] SL (some ⟨g45, 0, none⟩) 1 1 _ rfl HSb.out rfl (by omega) Fz46 HYb.out) ?_
                          rintro e w47 ⟨rfl, hb47⟩
                          have hB47 := hB46.trans (hb47.mono hB46.size)
                          have Fy47 := ((Fy46).below hb47 (Nat.le_refl _)).more hb47.size
                          clear Fy46
                          have Fz47 := ((Fz46).below hb47 (Nat.le_refl _)).more hb47.size
                          clear Fz46
                          go_wp2_with fail
                          refine hKC.out _ _ hB47 (fun hHeld47 => ?_)
                          clear hKC KC
                          try simp only [Act.put, List.setIfInBounds_toArray, List.set_cons_zero, List.set_cons_succ]
                          refine anyH_take (i := 12) (v := .bool true) (some 113) rfl rfl (by kernel_rfl) (by kernel_rfl) (by kernel_rfl) (fun _ _ _ h => h) (Or.inl ⟨by rfl, fun _ hw => by (have hc := Hcmp.out; have hg := gt32; go_simp)⟩) (by assumption) ?_
                          simp only [Act.put, List.setIfInBounds_toArray, List.set_cons_zero, List.set_cons_succ]
                          refine anyH_take (i := 13) (v := .bool true) (some 6) rfl rfl (by kernel_rfl) (by kernel_rfl) (by kernel_rfl) (fun _ _ _ h => h) (Or.inl ⟨by rfl, fun _ hw => by go_simp⟩) (by assumption) ?_
                          simp only [Act.put, List.setIfInBounds_toArray, List.set_cons_zero, List.set_cons_succ]
                          refine wpAnyH_done (by kernel_rfl) ?_ _
                          clear hHeld
                          go_wp2_with fail
                          go_ret
                          exact ⟨rfl, hbw.trans (hB47.mono hbw.size)⟩
                      · go_simp
                        have hBa48 := hB8.alloc hB8.size (.cells #[.slice Ab lb cb] 27)
                        refine hKC.out _ _ hBa48 (fun hHeld48 => ?_)
                        clear hKC KC
                        try simp only [Act.put, List.setIfInBounds_toArray, List.set_cons_zero, List.set_cons_succ]
                        change wpAnyH _ _ _ _ _ _ _ _ (w8.alloc (.cells #[.slice Ab lb cb] 27))
                        obtain ⟨g48, hg48⟩ : ∃ x, x = w8.heap.size := ⟨_, rfl⟩
                        have N48 := pb_rows_one (n := lb) (c := cb) 27 Hlb.out hb2x hb3' (Hbb.out.below hB8 (Nat.le_refl _)) hB8.size
                        have hb48 : Below w8.heap.size w8 (w8.alloc (.cells #[.slice Ab lb cb] 27)) := (Below.refl _ _).alloc (Nat.le_refl _) _
                        obtain ⟨w48, hw48⟩ : ∃ x, x = w8.alloc (.cells #[.slice Ab lb cb] 27) := ⟨_, rfl⟩
                        have hBs48 : w48.heap.size = w8.heap.size + 1 := by rw [hw48]; simp
                        rw [← hw48] at hb48 N48 ⊢
                        have hB48 := hB8.trans (hb48.mono hB8.size)
                        rw [← hBs48, ← hg48] at N48
                        try rw [← hg48]
                        clear hw48 hg48 hBs48
                        refine wpAnyH_ready (rs := [4]) (by kernel_rfl) (by simp) ?_
                        refine AllReadyH.cons rfl (fun KC hKC => ?_) AllReadyH.nil
                        go_simp
                        have hBa49 := hB48.alloc hB48.size (.cells #[.slice Aa la ca] 27)
                        refine hKC.out _ _ hBa49 (fun hHeld49 => ?_)
                        clear hKC KC
                        try simp only [Act.put, List.setIfInBounds_toArray, List.set_cons_zero, List.set_cons_succ]
                        change wpAnyH _ _ _ _ _ _ _ _ (w48.alloc (.cells #[.slice Aa la ca] 27))
                        obtain ⟨g49, hg49⟩ : ∃ x, x = w48.heap.size := ⟨_, rfl⟩
                        have N49 := pb_rows_one (n := la) (c := ca) 27 Hla.out ha2 ha3 (Hba.out.below hB48 (Nat.le_refl _)) hB48.size
                        have hb49 : Below w48.heap.size w48 (w48.alloc (.cells #[.slice Aa la ca] 27)) := (Below.refl _ _).alloc (Nat.le_refl _) _
                        obtain ⟨w49, hw49⟩ : ∃ x, x = w48.alloc (.cells #[.slice Aa la ca] 27) := ⟨_, rfl⟩
                        have hBs49 : w49.heap.size = w48.heap.size + 1 := by rw [hw49]; simp
                        rw [← hw49] at hb49 N49 ⊢
                        have Fz49 := ((N48).below hb49 (Nat.le_refl _)).more hb49.size
                        clear N48
                        have hB49 := hB48.trans (hb49.mono hB48.size)
                        rw [← hBs49, ← hg49] at N49
                        try rw [← hg49]
                        clear hw49 hg49 hBs49
                        refine wpAnyH_ready (rs := [5]) (by kernel_rfl) (by simp) ?_
                        refine AllReadyH.cons rfl (fun KC hKC => ?_) AllReadyH.nil
                        go_simp
                        go_at_call 16
                        refine Calls.mono (rtag_at 4 4 [a] SL (some ⟨g49, 0, none⟩) 1 1 _ rfl HSL.out rfl (by omega) N49 HYa.out) ?_
                        rintro e w50 ⟨rfl, hb50⟩
                        have hB50 := hB49.trans (hb50.mono hB49.size)
                        have Fz50 := ((Fz49).below hb50 (Nat.le_refl _)).more hb50.size
                        clear Fz49
                        have Fy50 := ((N49).below hb50 (Nat.le_refl _)).more hb50.size
                        clear N49
                        go_wp2_with fail
                        refine hKC.out _ _ hB50 (fun hHeld50 => ?_)
                        clear hKC KC
                        try simp only [Act.put, List.setIfInBounds_toArray, List.set_cons_zero, List.set_cons_succ]
                        refine wpAnyH_ready (rs := [11]) (by kernel_rfl) (by simp) ?_
                        refine AllReadyH.cons rfl (fun KC hKC => ?_) AllReadyH.nil
                        go_simp
                        go_at_call 16
                        refine Calls.mono (rtag_at 4 4 [b2] SL (some ⟨g48, 0, none⟩) 1 1 _ rfl HSb.out rfl (by omega) Fz50 HYb.out) ?_
                        rintro e w51 ⟨rfl, hb51⟩
                        have hB51 := hB50.trans (hb51.mono hB50.size)
                        have Fz51 := ((Fz50).below hb51 (Nat.le_refl _)).more hb51.size
                        clear Fz50
                        have Fy51 := ((Fy50).below hb51 (Nat.le_refl _)).more hb51.size
                        clear Fy50
                        go_wp2_with fail
                        refine hKC.out _ _ hB51 (fun hHeld51 => ?_)
                        clear hKC KC
                        try simp only [Act.put, List.setIfInBounds_toArray, List.set_cons_zero, List.set_cons_succ]
                        refine anyH_take (i := 12) (v := .bool true) (some 113) rfl rfl (by kernel_rfl) (by kernel_rfl) (by kernel_rfl) (fun _ _ _ h => h) (Or.inl ⟨by rfl, fun _ hw => by (have hc := Hcmp.out; have hg := gt32; go_simp)⟩) (by assumption) ?_
                        simp only [Act.put, List.setIfInBounds_toArray, List.set_cons_zero, List.set_cons_succ]
                        refine anyH_take (i := 13) (v := .bool true) (some 6) rfl rfl (by kernel_rfl) (by kernel_rfl) (by kernel_rfl) (fun _ _ _ h => h) (Or.inl ⟨by rfl, fun _ hw => by go_simp⟩) (by assumption) ?_
                        simp only [Act.put, List.setIfInBounds_toArray, List.set_cons_zero, List.set_cons_succ]
                        refine wpAnyH_done (by kernel_rfl) ?_ _
                        clear hHeld
                        go_wp2_with fail
                        go_ret
                        exact ⟨rfl, hbw.trans (hB51.mono hbw.size)⟩
                  · have hd2 : decide ((i : Int) < (nr : Int)) = false := by simp; omega
                    have hfin := Ht2.out.2 i (by rw [Hnp.out]; exact hi1) (by rw [Hnr.out]; exact hi2) (.inr (by rw [Hnr.out]; omega)) Hi.out
                    rcases hfin with ⟨hL, b2, r2, hrs2, hsh⟩ | ⟨hL, hrs2, a2, r2, hP2', hsh⟩
                    · exfalso
                      have hx0 : xs = [] := List.map_eq_nil_iff.1 hL
                      have hn0 : n1 = 0 := by rw [← Hn1.out, hx0]; rfl
                      omega
                    · have hnr0 : nr = 0 := by rw [← Hnr.out, hrs2]; rfl
                      have hn0 : 0 < n1 := by
                        rw [← Hn1.out]
                        refine List.length_pos_iff.2 fun e => hL ?_
                        rw [e]; rfl
                      have hnp0 : 0 < np := by rw [← Hnp.out, hP2']; simp
                      have hq1 : decide ((n1 : Int) = 0) = false := by simp; omega
                      have hq2 : ((n1 : Int) == 0) = false := by simp; omega
                      have hq3 : decide (n1 = 0) = false := by simp; omega
                      have hq4 : (n1 == 0) = false := by simp; omega
                      have hd3 : decide ((0 : Int) < (n1 : Int)) = true := by simp; omega
                      have hd4 : decide (0 < n1) = true := by simp; omega
                      obtain ⟨bp, op, rfl, hbpl, hcp⟩ := hPrr (by rw [Hnp.out]; exact hnp0)
                      obtain ⟨Aa, ca, ha1, ha2, ha3, ha4⟩ := hcp 0 (by rw [Hnp.out]; exact hnp0)
                      have hga : P.getD 0 [] = a2 := by rw [hP2']; rfl
                      rw [hga] at ha1 ha2 ha4
                      rw [Nat.add_zero] at ha1
                      obtain ⟨la, hla⟩ : ∃ l, a2.length = l := ⟨_, rfl⟩
                      rw [hla] at ha1 ha2
                      have Hll := Lib.hid hla
                      have HL2 : Hid (a2.length ≤ 2000) := by have := HPl2.out a2 (by rw [hP2']; simp); show a2.length ≤ 2000; omega
                      clear hga hcp hla hrs2 hL hPrr hrsr hP2'
                      subst hnr0
                      have hlm : la ≤ 2000 := by rw [← Hll.out]; exact HL2.out
                      obtain ⟨SL, hSL⟩ : ∃ SL, SL = Lib.byteCells (shaF (tagF 4 [a2])) := ⟨_, rfl⟩
                      have HS5 : Hid (SL = Lib.byteCells (shaF (tagF 5 []))) := by show SL = _; rw [hSL, hsh]
                      have HSL := Lib.hid hSL
                      have Hcmp := Lib.hid (fun w => digCmpP _ _ (shaF_length (tagF 4 [a2])) (shaF_length (tagF 4 [a2])) SL SL hSL hSL true (by simp) w)
                      have HYa := Lib.hid (show (tagF 4 [a2]).length ≤ 1000000 from tag_one_bound a2 (by rw [Hll.out]; omega))
                      obtain ⟨W9, hW9⟩ : ∃ W, W = wr.alloc (.cells #[.slice Aa la ca] 27) := ⟨_, rfl⟩
                      have hb9 : Below wr.heap.size wr W9 := by rw [hW9]; exact (Below.refl _ wr).alloc (Nat.le_refl _) _
                      have hr9 : RowsAt W9 W9.heap.size (some ⟨wr.heap.size, 0, none⟩) [a2] := by
                        have hz : W9.heap.size = wr.heap.size + 1 := by rw [hW9]; simp
                        rw [hz, hW9]
                        exact pb_rows_one (n := la) (c := ca) _ Hll.out ha2 ha3 ha4 (Nat.le_refl _)
                      have HW9 := Lib.hid hW9
                      clear hW9 hSL hsh
                      go_wp2_with fail
                      go_at_call 16
                      first | rw [← HW9.out] | (change Calls _ _ _ (wr.alloc (.cells #[.slice Aa la ca] 27)) _; rw [← HW9.out])
                      refine Calls.mono (rtag_at 4 4 [a2] SL _ 1 1 W9 rfl HSL.out rfl (by omega) hr9 HYa.out) ?_
                      rintro e wA ⟨rfl, hbA⟩
                      have hbA' := hb9.trans (hbA.mono hb9.size)
                      clear hr9 hbA hb9
                      dsimp only
                      go_wp2_with fail
                      go_at_call 16
                      refine Calls.mono (rtag_at 5 5 [] SL none 0 0 wA rfl HS5.out rfl (by omega) (fun h => absurd h (by simp)) (by decide)) ?_
                      rintro e wB ⟨rfl, hbB⟩
                      have hbB' := hbA'.trans (hbB.mono hbA'.size)
                      clear hbA' hbB
                      dsimp only
                      have hcm := Hcmp.out
                      have hg32 := gt32
                      go_wp2_with fail
                      go_ret
                      exact ⟨rfl, hbw.trans (hbB'.mono hbw.size)⟩
                · have hd1 : decide ((i : Int) < (np : Int)) = false := by simp; omega
                  have hfin := Ht2.out.2 i (by rw [Hnp.out]; exact hi1) (by rw [Hnr.out]; exact hi2) (.inl (by rw [Hnp.out]; omega)) Hi.out
                  rcases hfin with ⟨hL, b2, r2, hrs2, hsh⟩ | ⟨hL, hrs2, a2, r2, hP2', hsh⟩
                  · exfalso
                    have hx0 : xs = [] := List.map_eq_nil_iff.1 hL
                    have hn0 : n1 = 0 := by rw [← Hn1.out, hx0]; rfl
                    omega
                  · exfalso
                    have hnr0 : nr = 0 := by rw [← Hnr.out, hrs2]; rfl
                    have hnp0 : 0 < np := by rw [← Hnp.out, hP2']; simp
                    omega

theorem proofBound_walk (A : Option Addr) (n c : Nat) (cs : List Cl8) (hn : cs.length = n) (hc : n ≤ c) (hm : c ≤ maxLen) (key : List UInt8) (Ar : Option Addr) (nr cr : Nat) (rs : List (List UInt8)) (hnr : rs.length = nr) (hcr : nr ≤ cr) (hmr : cr ≤ maxLen) (w : World) (hcs : Cls8 w w.heap.size A cs) (hk : key.length = 32) (hrows : RowsAt w w.heap.size Ar rs) :
    Calls Try.prog 4 #[.slice A n c, .agg (Lib.byteCells key).toArray, .slice Ar nr cr] w fun e w' => e = .returned (.bool true) ∧ Below w.heap.size w w' := by
  cases hg : (great8 cs || greatP rs) with
  | true => exact pbound_great _ cs A n c rs Ar nr cr w hn hc hm hcs hnr hcr hmr hrows hg
  | false =>
    rw [Bool.or_eq_false_iff] at hg
    exact pbound_in key hk _ rfl cs A n c rs Ar nr cr w hn hc hm hcs hnr hcr hmr hrows hg.1 hg.2

end Go.Proofs.Ytnhfbggaiecalaa

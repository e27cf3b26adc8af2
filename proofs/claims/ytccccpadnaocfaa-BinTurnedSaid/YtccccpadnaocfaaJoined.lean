/-
  joined of merkle: the root of two parts.
-/
import Derived.Test.YtccccpadnaocfaaTagged
import Derived.Test.YtccccpadnaocfaaGen
namespace Go.Proofs.Ytccccpadnaocfaa
open Go.RowKit
set_option linter.unusedVariables false
set_option linter.unusedSimpArgs false

/-- A row of two rows of bytes, new. -/
theorem rows_two {w : World} {B : Nat} {A A' : Option Addr} {l l' : List UInt8} {n n' c c' : Nat} (T : TypeId) (hn : l.length = n) (hn' : l'.length = n') (hc : n ≤ c) (hm : c ≤ maxLen) (hc' : n' ≤ c') (hm' : c' ≤ maxLen) (h : Bs w B A l) (h' : Bs w B A' l') (hB : B ≤ w.heap.size) :
    RowsAt (w.alloc (.cells #[.slice A n c, .slice A' n' c'] T)) (w.heap.size + 1) (some ⟨w.heap.size, 0, none⟩) [l, l'] := fun _ => by
  subst hn hn'
  have ha := Arr.new w T [.slice A l.length c, .slice A' l'.length c']
  have hb : Below w.heap.size w (w.alloc (.cells #[.slice A l.length c, .slice A' l'.length c'] T)) := (Below.refl _ w).alloc (Nat.le_refl _) _
  refine ⟨w.heap.size, 0, rfl, by omega, fun i hi => ?_⟩
  have hi2 : i = 0 ∨ i = 1 := by simp at hi; omega
  rcases hi2 with rfl | rfl
  · exact ⟨A, c, ha.cell 0, hc, hm, (h.below hb hB).more (by omega)⟩
  · exact ⟨A', c', ha.cell 1, hc', hm', (h'.below hb hB).more (by omega)⟩

/-- A block that is an array of bytes, as bytes in memory. -/
theorem Arr.bs {w : World} {g : Nat} {T : TypeId} {l : List UInt8} (h : Arr w g T (Lib.byteCells l)) : Bs w w.heap.size (some ⟨g, 0, none⟩) l := fun _ => ⟨g, 0, rfl, h.lt, fun j hj => by rw [Nat.zero_add, h.cell]; exact byteCells_get hj⟩

def joinF (x y : List UInt8) : List UInt8 := shaF (tagF 1 [x, y])
theorem joinF_length (x y : List UInt8) : (joinF x y).length = 32 := shaF_length _

theorem tagged_at (use : UInt8) (u : Int) (rs : List (List UInt8)) (SL : List Value) (A : Option Addr) (n c : Nat) (w : World) (hu : ((use.toNat : Nat) : Int) = u) (hS : SL = Lib.byteCells (shaF (tagF use rs))) (hn : rs.length = n) (hn2 : n ≤ 1000000) (hr : RowsAt w w.heap.size A rs) (hlim : (tagF use rs).length ≤ 1000000) :
    Calls Try.prog 34 #[.int .u8 u, .slice A n c] w fun e w' => e = .returned (.agg SL.toArray) ∧ Below w.heap.size w w' := by
  subst hS hu; exact tagged_any use rs A n c w hn hn2 hr hlim

set_option maxHeartbeats 4000000 in
set_option maxRecDepth 100000 in
theorem joined_any (x y : List UInt8) (XL YL JL : List Value) (w : World) (hx : x.length = 32) (hy : y.length = 32) (hXL : XL = Lib.byteCells x) (hYL : YL = Lib.byteCells y) (hJL : JL = Lib.byteCells (joinF x y)) :
    Calls Try.prog 59 #[.agg XL.toArray, .agg YL.toArray] w fun e w' => e = .returned (.agg JL.toArray) ∧ Below w.heap.size w w' := by
  obtain ⟨W, hW⟩ : ∃ W, W = ((w.alloc (.cells XL.toArray 29)).alloc (.cells YL.toArray 29)).alloc (.cells (Lib.byteCells zeros).toArray 29) := ⟨_, rfl⟩
  have hX : Arr W w.heap.size 29 (Lib.byteCells x) := by rw [hW, ← hXL]; exact ((Arr.new w _ XL).alloc _).alloc _
  have hY : Arr W (w.heap.size + 1) 29 (Lib.byteCells y) := by
    have h1 := Arr.new (w.alloc (.cells XL.toArray 29)) 29 YL
    rw [show (w.alloc (.cells XL.toArray 29)).heap.size = w.heap.size + 1 from by simp] at h1
    rw [hW, ← hYL]; exact h1.alloc _
  have hR : Arr W (w.heap.size + 1 + 1) 29 (Lib.byteCells zeros) := by
    have h1 := Arr.new ((w.alloc (.cells XL.toArray 29)).alloc (.cells YL.toArray 29)) 29 (Lib.byteCells zeros)
    rw [show ((w.alloc (.cells XL.toArray 29)).alloc (.cells YL.toArray 29)).heap.size = w.heap.size + 1 + 1 from by simp] at h1
    rw [hW]; exact h1
  have hWs : W.heap.size = w.heap.size + 3 := by rw [hW]; simp
  have hB : Below w.heap.size w W := by rw [hW]; exact (((Below.refl _ w).alloc (Nat.le_refl _) _).alloc (by simp) _).alloc (by simp; omega) _
  have hjl : JL.length = 32 := by rw [hJL, Lib.byteCells_length, joinF_length]
  have hone : ∀ v ∈ JL, v.oneCell' = true := by rw [hJL]; exact byteCells_one _
  have hi32 : (Try.prog.info? 29).map (·.size) = some JL.length := by rw [hjl]; exact digInfo
  have htb : (tagF 1 [x, y]).length ≤ 1000000 := by
    unfold tagF
    have e1 := Lib.uvarint_length64 (x := x.length) (by omega)
    have e2 := Lib.uvarint_length64 (x := y.length) (by omega)
    simp only [List.length_cons, List.flatMap_cons, List.flatMap_nil, List.length_append, List.length_nil]
    omega
  have HW := Lib.hid hW
  have HJL := Lib.hid hJL
  clear hW hXL hYL hJL
  go_enter Try.func59, Try.ntmps59
  go_wp2_with fail
  change Code.wp _ _ _ _ (((w.alloc (.cells XL.toArray 29)).alloc (.cells YL.toArray 29)).alloc (.cells (Lib.byteCells zeros).toArray 29))
  rw [← HW.out]
  obtain ⟨g, hg⟩ : ∃ g, g = w.heap.size + 1 + 1 := ⟨_, rfl⟩
  rw [← hg] at hR ⊢
  obtain ⟨g1, hg1⟩ : ∃ g, g = w.heap.size + 1 := ⟨_, rfl⟩
  rw [← hg1] at hY ⊢
  have hgw : w.heap.size ≤ g := by omega
  clear hg hg1 HW hWs
  have hr8 := rows_two (w := W.drew) 49 hx hy (Nat.le_refl 32) (by unfold maxLen; omega) (Nat.le_refl 32) (by unfold maxLen; omega) (hX.drewN 1).bs (hY.drewN 1).bs (Nat.le_refl _)
  have hba : Below W.drew.heap.size W.drew (W.drew.alloc (.cells #[.slice (some ⟨w.heap.size, 0, none⟩) 32 32, .slice (some ⟨g1, 0, none⟩) 32 32] 49)) := (Below.refl _ _).alloc (Nat.le_refl _) _
  have hR8 := (hR.drewN 1).up hba
  refine wp_region_held_drew (S := fun w' => True) (by kernel_rfl) trivial (fun hHeld => ?_)
  refine anyH_take (i := 0) (v := .slice (some ⟨w.heap.size, 0, none⟩) 32 32) (some 5) rfl rfl (by kernel_rfl) (by kernel_rfl) (by kernel_rfl) (fun _ _ _ h => h) (Or.inl ⟨by rfl, fun _ _ => by go_simp⟩) (by assumption) ?_
  simp only [Act.put, List.setIfInBounds_toArray, List.set_cons_zero, List.set_cons_succ]
  refine anyH_take (i := 1) (v := .slice (some ⟨g1, 0, none⟩) 32 32) (some 6) rfl rfl (by kernel_rfl) (by kernel_rfl) (by kernel_rfl) (fun _ _ _ h => h) (Or.inl ⟨by rfl, fun _ _ => by go_simp⟩) (by assumption) ?_
  simp only [Act.put, List.setIfInBounds_toArray, List.set_cons_zero, List.set_cons_succ]
  refine wpAnyH_ready (rs := [2]) (by kernel_rfl) (by simp) ?_
  refine AllReadyH.cons rfl (fun K hK => ?_) AllReadyH.nil
  go_simp
  refine hK.out _ _ trivial (fun hHeld => ?_)
  clear hK K
  refine wpAnyH_ready (rs := [3]) (by kernel_rfl) (by simp) ?_
  refine AllReadyH.cons rfl (fun K hK => ?_) AllReadyH.nil
  go_simp
  go_at_call 34
  refine Calls.mono (tagged_at 1 1 [x, y] JL (some ⟨W.heap.size, 0, none⟩) 2 2 _ rfl HJL.out rfl (by omega) (hr8.more (Nat.le_of_eq (by simp))) htb) ?_
  rintro e w5 ⟨rfl, hb5⟩
  go_wp2_with fail
  refine hK.out _ _ trivial (fun hHeld => ?_)
  clear hK K
  try simp only [Act.put, List.setIfInBounds_toArray, List.set_cons_zero, List.set_cons_succ]
  have hR5 := hR8.up hb5
  have hc1 : Below w.heap.size w W.drew := ⟨hB.os, hB.tape, hB.output, hB.size, hB.block⟩
  have hc2 := hc1.trans (hba.mono hc1.size)
  have hc3 := hc2.trans (hb5.mono hc2.size)
  have hset : Arr (w5.setCells g 0 JL) g 29 JL := by
    have h1 := Arr.setCells JL 0 _ w5 hR5 (by rw [zl, hjl])
    simpa using h1
  have hons : Only (fun k => k = g) w5 (w5.setCells g 0 JL) := Only.setCells (R := fun k => k = g) rfl JL 0 _ (Only.refl _ w5)
  have hth : w5.there g 0 32 := fun j hj => by
    rw [hR5.cell, hR5.frozen, Nat.zero_add, List.getElem?_eq_getElem (by rw [zl]; exact hj)]
    exact ⟨rfl, rfl⟩
  have hfin := hc3.trans (hons.below hc3.size (by rintro k rfl; exact hgw))
  refine wpAnyH_ready (rs := [4]) (by kernel_rfl) (by simp) ?_
  refine AllReadyH.cons rfl (fun K hK => ?_) AllReadyH.nil
  rw [if_pos (by rfl)]
  refine wp_store_mid 29 _ _ rfl g 0 JL.toArray rfl rfl (by rw [List.size_toArray, hjl]; exact hth) (by rw [List.size_toArray]; exact hi32) (all_oneCell_toArray hone) ?_
  refine hK.out _ _ trivial (fun hHeld4 => ?_)
  clear hK K
  refine wpAnyH_done (by kernel_rfl) ?_ _
  rw [show JL.toArray.toList = JL from rfl]
  go_wp2_with fail
  exact bodyPost_ret (v := .agg JL.toArray) (results_cell_row (by rfl) _ _ g 29 JL.toArray (0, 0) _ (by rfl) hset Try.underlying29 rfl hi32) rfl ⟨rfl, hfin⟩

end Go.Proofs.Ytccccpadnaocfaa

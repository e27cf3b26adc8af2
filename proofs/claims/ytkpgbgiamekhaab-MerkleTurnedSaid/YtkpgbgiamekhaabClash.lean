/-
  The law's clash.
-/
import Derived.Test.YtkpgbgiamekhaabVerify
import Derived.Test.YtkpgbgiamekhaabSame
import Derived.Deep.DeepCutAuto
import Derived.Deep.CutBlock
namespace Go.Proofs.Ytkpgbgiamekhaab
open Go.RowKit
set_option linter.unusedVariables false
set_option linter.unusedSimpArgs false

theorem same_below (A A' : Option Addr) (c c' n n' : Nat) (l m : List UInt8) (w : World) (ans : Bool) (hA : Bs w w.heap.size A l) (hA' : Bs w w.heap.size A' m) (hl : l.length = n) (hm : m.length = n') (hn : n ≤ maxLen) (hn' : n' ≤ maxLen) (ha : decide (l = m) = ans) :
    Calls Try.prog 21 #[.slice A n c, .slice A' n' c'] w fun e w' => e = .returned (.bool ans) ∧ Below w.heap.size w w' :=
  (same_n _ _ A A' c c' n n' l m w ans hA hA' hl hm hn hn' ha).mono fun e w' ⟨h, k, e'⟩ => ⟨h, e' ▸ Below.dN (Below.refl _ _) k⟩

theorem range_bs {w : World} {b o : Nat} {l : List UInt8} (h : w.rangeAt b o (Lib.byteCells l)) (hb : b < w.heap.size) : Bs w w.heap.size (some ⟨b, o, none⟩) l := fun _ => ⟨b, o, rfl, hb, fun j hj => h j _ (byteCells_get hj)⟩
theorem range_up {B : Nat} {w w' : World} {b o : Nat} {l : List Value} (h : w.rangeAt b o l) (hB : Below B w w') (hb : b < B) : w'.rangeAt b o l := fun j v hj => (hB.cell (p := ⟨b, o + j, none⟩) hb).trans (h j v hj)

theorem snoc_take {ds : List (List UInt8)} {q : Nat} (h : ds.length = q + 1) : ds.take q ++ [ds.getD q []] = ds := by
  conv => rhs; rw [← List.take_append_drop q ds]
  rw [List.drop_eq_getElem_cons (by omega), List.drop_eq_nil_of_le (by omega)]
  simp [List.getD, show q < ds.length by omega]
theorem ne_lo {rs ds : List (List UInt8)} {a n K m q : Nat} {row pv : List UInt8} (h2 : 2 ≤ n) (hn : rs.length = n) (hK : splitF n = K) (hds : ds.length = m) (hm : 0 < m) (hq : m - 1 = q) (hpv : ds.getD q [] = pv) (hne : row ≠ rs.getD a [] ∨ ds ≠ proveF rs a) (ha : a < K) (hp : pv = rootF (rs.drop K)) :
    row ≠ (rs.take K).getD a [] ∨ ds.take q ≠ proveF (rs.take K) a := by
  rcases hne with h | h
  · left
    have hg : (rs.take K).getD a [] = rs.getD a [] := by simp [List.getD, ha]
    rw [hg]; exact h
  · right
    intro h3
    apply h
    have h4 := proveF_lo (rs := rs) (a := a) (by omega) (by rw [hn, hK]; exact ha)
    rw [hn, hK] at h4
    rw [h4, ← h3, ← hp, ← hpv]
    exact (snoc_take (by omega)).symm
theorem ne_hi {rs ds : List (List UInt8)} {a n K m q : Nat} {row pv : List UInt8} (h2 : 2 ≤ n) (hn : rs.length = n) (hK : splitF n = K) (hds : ds.length = m) (hm : 0 < m) (hq : m - 1 = q) (hpv : ds.getD q [] = pv) (hne : row ≠ rs.getD a [] ∨ ds ≠ proveF rs a) (ha : K ≤ a) (hp : pv = rootF (rs.take K)) :
    row ≠ (rs.drop K).getD (a - K) [] ∨ ds.take q ≠ proveF (rs.drop K) (a - K) := by
  rcases hne with h | h
  · left
    have hg : (rs.drop K).getD (a - K) [] = rs.getD a [] := by
      simp only [List.getD, List.getElem?_drop]
      rw [show K + (a - K) = a by omega]
    rw [hg]; exact h
  · right
    intro h3
    apply h
    have h4 := proveF_hi (rs := rs) (a := a) (by omega) (by rw [hn, hK]; exact ha)
    rw [hn, hK] at h4
    rw [h4, ← h3, ← hp, ← hpv]
    exact (snoc_take (by omega)).symm

def ClashC (n : Nat) : Prop := ∀ (rs : List (List UInt8)) (A : Option Addr) (c a : Nat) (row : List UInt8) (ds : List (List UInt8)) (Ar : Option Addr) (lr cr : Nat) (Ap : Option Addr) (m cp : Nat) (w : World), rs.length = n → a < n → n ≤ c → c ≤ 9223372036854775807 → (∀ r ∈ rs, r.length ≤ 300) → RowsAt w w.heap.size A rs →
    row.length = lr → lr ≤ 300 → lr ≤ cr → cr ≤ maxLen → Bs w w.heap.size Ar row → ds.length = m → m ≤ cp → cp ≤ 9223372036854775807 → DigsAt w Ap ds → (row ≠ rs.getD a [] ∨ ds ≠ proveF rs a) → leadF n a row ds = (rootF rs, true) →
    Calls Try.prog 22 #[.slice A n c, .int .i64 (a : Nat), .slice Ar lr cr, .slice Ap m cp] w fun e w' => e = .returned (.bool true) ∧ Below w.heap.size w w'

set_option maxHeartbeats 16000000 in
set_option maxRecDepth 100000 in
theorem clash_one : ClashC 1 := by
  intro rs A c a row ds Ar lr cr Ap m cp w hn ha hc hcm63 hr hrs hrl hr0 hlc hcm hbs hds hmc hcp hdg hne hled
  obtain rfl : a = 0 := by omega
  rw [leadF_one (Nat.le_refl 1), rootF_one hn] at hled
  have hds0 : ds = [] := List.eq_nil_of_length_eq_zero (of_decide_eq_true (congrArg Prod.snd hled))
  replace hne : row ≠ rs.getD 0 [] := hne.resolve_right (fun h => h (by rw [hds0, proveF_one (by omega)]))
  clear hds0
  have hleaf : leafF row = leafF (rs.getD 0 []) := congrArg Prod.fst hled
  obtain ⟨blk, off0, rfl, hblk, hrow⟩ := hrs (by omega)
  obtain ⟨A0, c0, hcell, hlc0, hcm0, hb0⟩ := hrow 0 (by omega)
  have hl0 : (rs.getD 0 []).length ≤ 300 := hr _ (by simp [List.getD, show 0 < rs.length by omega])
  obtain ⟨r0, hre⟩ : ∃ r, rs.getD 0 [] = r := ⟨_, rfl⟩
  rw [hre] at hcell hlc0 hb0 hl0 hne hleaf
  obtain ⟨l0, hl⟩ : ∃ l, r0.length = l := ⟨_, rfl⟩
  rw [hl] at hcell hlc0 hl0
  rw [Nat.add_zero] at hcell
  have Hl0 := Lib.hid hl
  obtain ⟨XL, hXL⟩ : ∃ V, V = Lib.byteCells (leafF row) := ⟨_, rfl⟩
  have HX1 := Lib.hid (show XL = Lib.byteCells (shaF (tagF 0 [row])) from hXL)
  have HX2 := Lib.hid (show XL = Lib.byteCells (shaF (tagF 0 [r0])) by rw [hXL, hleaf]; rfl)
  have hgt := gt32
  have heq := fun w => eqv_at Try.underlying26 _ _ (leafF_length row) (leafF_length row) XL XL hXL hXL w
  rw [decide_eq_true rfl] at heq
  have Hne := Lib.hid (show decide (row = r0) = false from decide_eq_false hne)
  have hrl := Lib.hid hrl
  have hds := Lib.hid hds
  clear hn hr hrs hrow hled hleaf hre hl hXL hne hdg
  go_enter Try.func22, Try.ntmps22
  go_wp2_with fail
  refine wp_region_held_drew (S := fun w' => w'.cell? ⟨blk, off0, none⟩ = some (.slice A0 l0 c0)) (by kernel_rfl) hcell (fun hHeld => ?_)
  have hB9 : Below w.heap.size w w.drew := below_drew _ _
  obtain ⟨w9, hw9⟩ : ∃ x, x = w.drew := ⟨_, rfl⟩
  rw [← hw9] at hB9 ⊢
  try rw [← hw9] at hHeld
  clear hw9
  refine anyH_take (i := 0) (v := .slice Ar lr cr) (some 20) rfl rfl (by kernel_rfl) (by kernel_rfl) (by kernel_rfl) (fun _ _ _ h => h) (Or.inl ⟨by rfl, fun _ hw => by rfl⟩) (by assumption) ?_
  simp only [Act.put, List.setIfInBounds_toArray, List.set_cons_zero, List.set_cons_succ]
  refine anyH_take (i := 3) (v := .slice (some ⟨blk, off0, none⟩) 1 c) (some 23) rfl rfl (by kernel_rfl) (by kernel_rfl) (by kernel_rfl) (fun _ _ _ h => h) (Or.inl ⟨by rfl, fun _ hw => by rfl⟩) (by assumption) ?_
  simp only [Act.put, List.setIfInBounds_toArray, List.set_cons_zero, List.set_cons_succ]
  refine anyH_take (i := 4) (v := .pointer (some ⟨blk, off0, none⟩)) (some 24) rfl rfl (by kernel_rfl) (by kernel_rfl) (by kernel_rfl) (fun _ _ _ h => h) (Or.inl ⟨by rfl, fun _ hw => by go_simp⟩) (by assumption) ?_
  simp only [Act.put, List.setIfInBounds_toArray, List.set_cons_zero, List.set_cons_succ]
  refine anyH_take (i := 5) (v := .slice A0 l0 c0) (some 25) rfl rfl (by kernel_rfl) (by kernel_rfl) (by kernel_rfl) (fun _ _ _ h => h) (Or.inl ⟨by rfl, fun _ hw => by (have hw2 := hw; simp only at hw2; go_simp)⟩) (by assumption) ?_
  simp only [Act.put, List.setIfInBounds_toArray, List.set_cons_zero, List.set_cons_succ]
  refine wpAnyH_ready (rs := [1, 6]) (by kernel_rfl) (by simp) ?_
  refine AllReadyH.cons rfl (fun KC hKC => ?_) (AllReadyH.cons rfl (fun KC hKC => ?_) AllReadyH.nil)
  · go_simp
    have hBa21 := hB9.alloc hB9.size (.cells #[.slice Ar lr cr] 24)
    refine hKC.out _ _ ((hBa21.cell (p := ⟨blk, off0, none⟩) hblk).trans hcell) (fun hHeld21 => ?_)
    clear hKC KC
    try simp only [Act.put, List.setIfInBounds_toArray, List.set_cons_zero, List.set_cons_succ]
    change wpAnyH _ _ _ _ _ _ _ _ (w9.alloc (.cells #[.slice Ar lr cr] 24))
    obtain ⟨g21, hg21⟩ : ∃ x, x = w9.heap.size := ⟨_, rfl⟩
    have N21 := rows_one (w := w9) 24 hrl.out hlc hcm ((hbs.below hB9 (Nat.le_refl _)).more hB9.size) (Nat.le_refl _)
    have hb21 : Below w9.heap.size w9 (w9.alloc (.cells #[.slice Ar lr cr] 24)) := (Below.refl _ _).alloc (Nat.le_refl _) _
    obtain ⟨w21, hw21⟩ : ∃ x, x = w9.alloc (.cells #[.slice Ar lr cr] 24) := ⟨_, rfl⟩
    have hBs21 : w21.heap.size = w9.heap.size + 1 := by rw [hw21]; simp
    rw [← hw21] at hb21 N21 ⊢
    have hB21 := hB9.trans (hb21.mono hB9.size)
    rw [← hBs21, ← hg21] at N21
    try rw [← hg21]
    clear hw21 hg21 hBs21
    refine wpAnyH_ready (rs := [2, 6]) (by kernel_rfl) (by simp) ?_
    refine AllReadyH.cons rfl (fun KC hKC => ?_) (AllReadyH.cons rfl (fun KC hKC => ?_) AllReadyH.nil)
    · go_simp
      go_at_call 26
      refine Calls.mono (rtagd_at 0 0 [row] XL (some ⟨g21, 0, none⟩) 1 1 _ rfl HX1.out rfl (by omega) N21 (tag_one_le 0 (by rw [hrl.out]; exact hr0))) ?_
      rintro e w22 ⟨rfl, hb22⟩
      have hB22 := hB21.trans (hb22.mono hB21.size)
      have Fx22 := ((N21).below hb22 (Nat.le_refl _)).more hb22.size
      clear N21
      go_wp2_with fail
      refine hKC.out _ _ ((hB22.cell (p := ⟨blk, off0, none⟩) hblk).trans hcell) (fun hHeld22 => ?_)
      clear hKC KC
      try simp only [Act.put, List.setIfInBounds_toArray, List.set_cons_zero, List.set_cons_succ]
      refine wpAnyH_ready (rs := [6]) (by kernel_rfl) (by simp) ?_
      refine AllReadyH.cons rfl (fun KC hKC => ?_) AllReadyH.nil
      go_simp
      have hBa23 := hB22.alloc hB22.size (.cells #[.slice A0 l0 c0] 24)
      refine hKC.out _ _ ((hBa23.cell (p := ⟨blk, off0, none⟩) hblk).trans hcell) (fun hHeld23 => ?_)
      clear hKC KC
      try simp only [Act.put, List.setIfInBounds_toArray, List.set_cons_zero, List.set_cons_succ]
      change wpAnyH _ _ _ _ _ _ _ _ (w22.alloc (.cells #[.slice A0 l0 c0] 24))
      obtain ⟨g23, hg23⟩ : ∃ x, x = w22.heap.size := ⟨_, rfl⟩
      have N23 := rows_one (w := w22) 24 Hl0.out hlc0 hcm0 ((hb0.below hB22 (Nat.le_refl _)).more hB22.size) (Nat.le_refl _)
      have hb23 : Below w22.heap.size w22 (w22.alloc (.cells #[.slice A0 l0 c0] 24)) := (Below.refl _ _).alloc (Nat.le_refl _) _
      obtain ⟨w23, hw23⟩ : ∃ x, x = w22.alloc (.cells #[.slice A0 l0 c0] 24) := ⟨_, rfl⟩
      have hBs23 : w23.heap.size = w22.heap.size + 1 := by rw [hw23]; simp
      rw [← hw23] at hb23 N23 ⊢
      have Fx23 := ((Fx22).below hb23 (Nat.le_refl _)).more hb23.size
      clear Fx22
      have hB23 := hB22.trans (hb23.mono hB22.size)
      rw [← hBs23, ← hg23] at N23
      try rw [← hg23]
      clear hw23 hg23 hBs23
      refine wpAnyH_ready (rs := [7]) (by kernel_rfl) (by simp) ?_
      refine AllReadyH.cons rfl (fun KC hKC => ?_) AllReadyH.nil
      go_simp
      go_at_call 26
      refine Calls.mono (rtagd_at 0 0 [r0] XL (some ⟨g23, 0, none⟩) 1 1 _ rfl HX2.out rfl (by omega) N23 (tag_one_le 0 (by rw [Hl0.out]; exact hl0))) ?_
      rintro e w24 ⟨rfl, hb24⟩
      have hB24 := hB23.trans (hb24.mono hB23.size)
      have Fx24 := ((Fx23).below hb24 (Nat.le_refl _)).more hb24.size
      clear Fx23
      have Fy24 := ((N23).below hb24 (Nat.le_refl _)).more hb24.size
      clear N23
      go_wp2_with fail
      refine hKC.out _ _ ((hB24.cell (p := ⟨blk, off0, none⟩) hblk).trans hcell) (fun hHeld24 => ?_)
      clear hKC KC
      try simp only [Act.put, List.setIfInBounds_toArray, List.set_cons_zero, List.set_cons_succ]
      refine anyH_take (i := 8) (v := .bool true) (some 28) rfl rfl (by kernel_rfl) (by kernel_rfl) (by kernel_rfl) (fun _ _ _ h => h) (Or.inl ⟨by rfl, fun _ hw => by go_simp⟩) (by assumption) ?_
      simp only [Act.put, List.setIfInBounds_toArray, List.set_cons_zero, List.set_cons_succ]
      refine anyH_take (i := 9) (v := .bool true) (some 29) rfl rfl (by kernel_rfl) (by kernel_rfl) (by kernel_rfl) (fun _ _ _ h => h) (Or.inl ⟨by rfl, fun _ hw => by rfl⟩) (by assumption) ?_
      simp only [Act.put, List.setIfInBounds_toArray, List.set_cons_zero, List.set_cons_succ]
      refine anyH_take (i := 10) (v := .slice Ar lr cr) (some 30) rfl rfl (by kernel_rfl) (by kernel_rfl) (by kernel_rfl) (fun _ _ _ h => h) (Or.inl ⟨by rfl, fun _ hw => by rfl⟩) (by assumption) ?_
      simp only [Act.put, List.setIfInBounds_toArray, List.set_cons_zero, List.set_cons_succ]
      refine anyH_take (i := 11) (v := .slice (some ⟨blk, off0, none⟩) 1 c) (some 31) rfl rfl (by kernel_rfl) (by kernel_rfl) (by kernel_rfl) (fun _ _ _ h => h) (Or.inl ⟨by rfl, fun _ hw => by rfl⟩) (by assumption) ?_
      simp only [Act.put, List.setIfInBounds_toArray, List.set_cons_zero, List.set_cons_succ]
      refine anyH_take (i := 12) (v := .pointer (some ⟨blk, off0, none⟩)) (some 32) rfl rfl (by kernel_rfl) (by kernel_rfl) (by kernel_rfl) (fun _ _ _ h => h) (Or.inl ⟨by rfl, fun _ hw => by go_simp⟩) (by assumption) ?_
      simp only [Act.put, List.setIfInBounds_toArray, List.set_cons_zero, List.set_cons_succ]
      refine anyH_take (i := 13) (v := .slice A0 l0 c0) (some 33) rfl rfl (by kernel_rfl) (by kernel_rfl) (by kernel_rfl) (fun _ _ _ h => h) (Or.inl ⟨by rfl, fun _ hw => by (have hw2 := hw; simp only at hw2; go_simp)⟩) (by assumption) ?_
      simp only [Act.put, List.setIfInBounds_toArray, List.set_cons_zero, List.set_cons_succ]
      refine wpAnyH_ready (rs := [14]) (by kernel_rfl) (by simp) ?_
      refine AllReadyH.cons rfl (fun KC hKC => ?_) AllReadyH.nil
      go_simp
      go_at_call 21
      refine Calls.mono (same_below Ar A0 cr c0 lr l0 row r0 _ false ((hbs.below hB24 (Nat.le_refl _)).more hB24.size) ((hb0.below hB24 (Nat.le_refl _)).more hB24.size) hrl.out Hl0.out (by unfold maxLen; omega) (by unfold maxLen; omega) Hne.out) ?_
      rintro e w25 ⟨rfl, hb25⟩
      have hB25 := hB24.trans (hb25.mono hB24.size)
      have Fx25 := ((Fx24).below hb25 (Nat.le_refl _)).more hb25.size
      clear Fx24
      have Fy25 := ((Fy24).below hb25 (Nat.le_refl _)).more hb25.size
      clear Fy24
      go_wp2_with fail
      refine hKC.out _ _ ((hB25.cell (p := ⟨blk, off0, none⟩) hblk).trans hcell) (fun hHeld25 => ?_)
      clear hKC KC
      try simp only [Act.put, List.setIfInBounds_toArray, List.set_cons_zero, List.set_cons_succ]
      refine anyH_take (i := 15) (v := .bool true) (some 35) rfl rfl (by kernel_rfl) (by kernel_rfl) (by kernel_rfl) (fun _ _ _ h => h) (Or.inl ⟨by rfl, fun _ hw => by go_simp⟩) (by assumption) ?_
      simp only [Act.put, List.setIfInBounds_toArray, List.set_cons_zero, List.set_cons_succ]
      refine anyH_take (i := 16) (v := .bool true) (some 36) rfl rfl (by kernel_rfl) (by kernel_rfl) (by kernel_rfl) (fun _ _ _ h => h) (Or.inl ⟨by rfl, fun _ hw => by go_simp⟩) (by assumption) ?_
      simp only [Act.put, List.setIfInBounds_toArray, List.set_cons_zero, List.set_cons_succ]
      refine anyH_take (i := 17) (v := .bool true) (some 8) rfl rfl (by kernel_rfl) (by kernel_rfl) (by kernel_rfl) (fun _ _ _ h => h) (Or.inl ⟨by rfl, fun _ hw => by rfl⟩) (by assumption) ?_
      simp only [Act.put, List.setIfInBounds_toArray, List.set_cons_zero, List.set_cons_succ]
      refine wpAnyH_done (by kernel_rfl) ?_ _
      have hfin := hB25
      clear hHeld
      go_wp2_with fail
      go_ret
      exact ⟨rfl, hfin⟩
    · go_simp
      have hBa26 := hB21.alloc hB21.size (.cells #[.slice A0 l0 c0] 24)
      refine hKC.out _ _ ((hBa26.cell (p := ⟨blk, off0, none⟩) hblk).trans hcell) (fun hHeld26 => ?_)
      clear hKC KC
      try simp only [Act.put, List.setIfInBounds_toArray, List.set_cons_zero, List.set_cons_succ]
      change wpAnyH _ _ _ _ _ _ _ _ (w21.alloc (.cells #[.slice A0 l0 c0] 24))
      obtain ⟨g26, hg26⟩ : ∃ x, x = w21.heap.size := ⟨_, rfl⟩
      have N26 := rows_one (w := w21) 24 Hl0.out hlc0 hcm0 ((hb0.below hB21 (Nat.le_refl _)).more hB21.size) (Nat.le_refl _)
      have hb26 : Below w21.heap.size w21 (w21.alloc (.cells #[.slice A0 l0 c0] 24)) := (Below.refl _ _).alloc (Nat.le_refl _) _
      obtain ⟨w26, hw26⟩ : ∃ x, x = w21.alloc (.cells #[.slice A0 l0 c0] 24) := ⟨_, rfl⟩
      have hBs26 : w26.heap.size = w21.heap.size + 1 := by rw [hw26]; simp
      rw [← hw26] at hb26 N26 ⊢
      have Fx26 := ((N21).below hb26 (Nat.le_refl _)).more hb26.size
      clear N21
      have hB26 := hB21.trans (hb26.mono hB21.size)
      rw [← hBs26, ← hg26] at N26
      try rw [← hg26]
      clear hw26 hg26 hBs26
      refine wpAnyH_ready (rs := [2]) (by kernel_rfl) (by simp) ?_
      refine AllReadyH.cons rfl (fun KC hKC => ?_) AllReadyH.nil
      go_simp
      go_at_call 26
      refine Calls.mono (rtagd_at 0 0 [row] XL (some ⟨g21, 0, none⟩) 1 1 _ rfl HX1.out rfl (by omega) Fx26 (tag_one_le 0 (by rw [hrl.out]; exact hr0))) ?_
      rintro e w27 ⟨rfl, hb27⟩
      have hB27 := hB26.trans (hb27.mono hB26.size)
      have Fx27 := ((Fx26).below hb27 (Nat.le_refl _)).more hb27.size
      clear Fx26
      have Fy27 := ((N26).below hb27 (Nat.le_refl _)).more hb27.size
      clear N26
      go_wp2_with fail
      refine hKC.out _ _ ((hB27.cell (p := ⟨blk, off0, none⟩) hblk).trans hcell) (fun hHeld27 => ?_)
      clear hKC KC
      try simp only [Act.put, List.setIfInBounds_toArray, List.set_cons_zero, List.set_cons_succ]
      refine wpAnyH_ready (rs := [7]) (by kernel_rfl) (by simp) ?_
      refine AllReadyH.cons rfl (fun KC hKC => ?_) AllReadyH.nil
      go_simp
      go_at_call 26
      refine Calls.mono (rtagd_at 0 0 [r0] XL (some ⟨g26, 0, none⟩) 1 1 _ rfl HX2.out rfl (by omega) Fy27 (tag_one_le 0 (by rw [Hl0.out]; exact hl0))) ?_
      rintro e w28 ⟨rfl, hb28⟩
      have hB28 := hB27.trans (hb28.mono hB27.size)
      have Fx28 := ((Fx27).below hb28 (Nat.le_refl _)).more hb28.size
      clear Fx27
      have Fy28 := ((Fy27).below hb28 (Nat.le_refl _)).more hb28.size
      clear Fy27
      go_wp2_with fail
      refine hKC.out _ _ ((hB28.cell (p := ⟨blk, off0, none⟩) hblk).trans hcell) (fun hHeld28 => ?_)
      clear hKC KC
      try simp only [Act.put, List.setIfInBounds_toArray, List.set_cons_zero, List.set_cons_succ]
      refine anyH_take (i := 8) (v := .bool true) (some 28) rfl rfl (by kernel_rfl) (by kernel_rfl) (by kernel_rfl) (fun _ _ _ h => h) (Or.inl ⟨by rfl, fun _ hw => by go_simp⟩) (by assumption) ?_
      simp only [Act.put, List.setIfInBounds_toArray, List.set_cons_zero, List.set_cons_succ]
      refine anyH_take (i := 9) (v := .bool true) (some 29) rfl rfl (by kernel_rfl) (by kernel_rfl) (by kernel_rfl) (fun _ _ _ h => h) (Or.inl ⟨by rfl, fun _ hw => by rfl⟩) (by assumption) ?_
      simp only [Act.put, List.setIfInBounds_toArray, List.set_cons_zero, List.set_cons_succ]
      refine anyH_take (i := 10) (v := .slice Ar lr cr) (some 30) rfl rfl (by kernel_rfl) (by kernel_rfl) (by kernel_rfl) (fun _ _ _ h => h) (Or.inl ⟨by rfl, fun _ hw => by rfl⟩) (by assumption) ?_
      simp only [Act.put, List.setIfInBounds_toArray, List.set_cons_zero, List.set_cons_succ]
      refine anyH_take (i := 11) (v := .slice (some ⟨blk, off0, none⟩) 1 c) (some 31) rfl rfl (by kernel_rfl) (by kernel_rfl) (by kernel_rfl) (fun _ _ _ h => h) (Or.inl ⟨by rfl, fun _ hw => by rfl⟩) (by assumption) ?_
      simp only [Act.put, List.setIfInBounds_toArray, List.set_cons_zero, List.set_cons_succ]
      refine anyH_take (i := 12) (v := .pointer (some ⟨blk, off0, none⟩)) (some 32) rfl rfl (by kernel_rfl) (by kernel_rfl) (by kernel_rfl) (fun _ _ _ h => h) (Or.inl ⟨by rfl, fun _ hw => by go_simp⟩) (by assumption) ?_
      simp only [Act.put, List.setIfInBounds_toArray, List.set_cons_zero, List.set_cons_succ]
      refine anyH_take (i := 13) (v := .slice A0 l0 c0) (some 33) rfl rfl (by kernel_rfl) (by kernel_rfl) (by kernel_rfl) (fun _ _ _ h => h) (Or.inl ⟨by rfl, fun _ hw => by (have hw2 := hw; simp only at hw2; go_simp)⟩) (by assumption) ?_
      simp only [Act.put, List.setIfInBounds_toArray, List.set_cons_zero, List.set_cons_succ]
      refine wpAnyH_ready (rs := [14]) (by kernel_rfl) (by simp) ?_
      refine AllReadyH.cons rfl (fun KC hKC => ?_) AllReadyH.nil
      go_simp
      go_at_call 21
      refine Calls.mono (same_below Ar A0 cr c0 lr l0 row r0 _ false ((hbs.below hB28 (Nat.le_refl _)).more hB28.size) ((hb0.below hB28 (Nat.le_refl _)).more hB28.size) hrl.out Hl0.out (by unfold maxLen; omega) (by unfold maxLen; omega) Hne.out) ?_
      rintro e w29 ⟨rfl, hb29⟩
      have hB29 := hB28.trans (hb29.mono hB28.size)
      have Fx29 := ((Fx28).below hb29 (Nat.le_refl _)).more hb29.size
      clear Fx28
      have Fy29 := ((Fy28).below hb29 (Nat.le_refl _)).more hb29.size
      clear Fy28
      go_wp2_with fail
      refine hKC.out _ _ ((hB29.cell (p := ⟨blk, off0, none⟩) hblk).trans hcell) (fun hHeld29 => ?_)
      clear hKC KC
      try simp only [Act.put, List.setIfInBounds_toArray, List.set_cons_zero, List.set_cons_succ]
      refine anyH_take (i := 15) (v := .bool true) (some 35) rfl rfl (by kernel_rfl) (by kernel_rfl) (by kernel_rfl) (fun _ _ _ h => h) (Or.inl ⟨by rfl, fun _ hw => by go_simp⟩) (by assumption) ?_
      simp only [Act.put, List.setIfInBounds_toArray, List.set_cons_zero, List.set_cons_succ]
      refine anyH_take (i := 16) (v := .bool true) (some 36) rfl rfl (by kernel_rfl) (by kernel_rfl) (by kernel_rfl) (fun _ _ _ h => h) (Or.inl ⟨by rfl, fun _ hw => by go_simp⟩) (by assumption) ?_
      simp only [Act.put, List.setIfInBounds_toArray, List.set_cons_zero, List.set_cons_succ]
      refine anyH_take (i := 17) (v := .bool true) (some 8) rfl rfl (by kernel_rfl) (by kernel_rfl) (by kernel_rfl) (fun _ _ _ h => h) (Or.inl ⟨by rfl, fun _ hw => by rfl⟩) (by assumption) ?_
      simp only [Act.put, List.setIfInBounds_toArray, List.set_cons_zero, List.set_cons_succ]
      refine wpAnyH_done (by kernel_rfl) ?_ _
      have hfin := hB29
      clear hHeld
      go_wp2_with fail
      go_ret
      exact ⟨rfl, hfin⟩
  · go_simp
    have hBa30 := hB9.alloc hB9.size (.cells #[.slice A0 l0 c0] 24)
    refine hKC.out _ _ ((hBa30.cell (p := ⟨blk, off0, none⟩) hblk).trans hcell) (fun hHeld30 => ?_)
    clear hKC KC
    try simp only [Act.put, List.setIfInBounds_toArray, List.set_cons_zero, List.set_cons_succ]
    change wpAnyH _ _ _ _ _ _ _ _ (w9.alloc (.cells #[.slice A0 l0 c0] 24))
    obtain ⟨g30, hg30⟩ : ∃ x, x = w9.heap.size := ⟨_, rfl⟩
    have N30 := rows_one (w := w9) 24 Hl0.out hlc0 hcm0 ((hb0.below hB9 (Nat.le_refl _)).more hB9.size) (Nat.le_refl _)
    have hb30 : Below w9.heap.size w9 (w9.alloc (.cells #[.slice A0 l0 c0] 24)) := (Below.refl _ _).alloc (Nat.le_refl _) _
    obtain ⟨w30, hw30⟩ : ∃ x, x = w9.alloc (.cells #[.slice A0 l0 c0] 24) := ⟨_, rfl⟩
    have hBs30 : w30.heap.size = w9.heap.size + 1 := by rw [hw30]; simp
    rw [← hw30] at hb30 N30 ⊢
    have hB30 := hB9.trans (hb30.mono hB9.size)
    rw [← hBs30, ← hg30] at N30
    try rw [← hg30]
    clear hw30 hg30 hBs30
    refine wpAnyH_ready (rs := [1]) (by kernel_rfl) (by simp) ?_
    refine AllReadyH.cons rfl (fun KC hKC => ?_) AllReadyH.nil
    go_simp
    have hBa31 := hB30.alloc hB30.size (.cells #[.slice Ar lr cr] 24)
    refine hKC.out _ _ ((hBa31.cell (p := ⟨blk, off0, none⟩) hblk).trans hcell) (fun hHeld31 => ?_)
    clear hKC KC
    try simp only [Act.put, List.setIfInBounds_toArray, List.set_cons_zero, List.set_cons_succ]
    change wpAnyH _ _ _ _ _ _ _ _ (w30.alloc (.cells #[.slice Ar lr cr] 24))
    obtain ⟨g31, hg31⟩ : ∃ x, x = w30.heap.size := ⟨_, rfl⟩
    have N31 := rows_one (w := w30) 24 hrl.out hlc hcm ((hbs.below hB30 (Nat.le_refl _)).more hB30.size) (Nat.le_refl _)
    have hb31 : Below w30.heap.size w30 (w30.alloc (.cells #[.slice Ar lr cr] 24)) := (Below.refl _ _).alloc (Nat.le_refl _) _
    obtain ⟨w31, hw31⟩ : ∃ x, x = w30.alloc (.cells #[.slice Ar lr cr] 24) := ⟨_, rfl⟩
    have hBs31 : w31.heap.size = w30.heap.size + 1 := by rw [hw31]; simp
    rw [← hw31] at hb31 N31 ⊢
    have Fy31 := ((N30).below hb31 (Nat.le_refl _)).more hb31.size
    clear N30
    have hB31 := hB30.trans (hb31.mono hB30.size)
    rw [← hBs31, ← hg31] at N31
    try rw [← hg31]
    clear hw31 hg31 hBs31
    refine wpAnyH_ready (rs := [2]) (by kernel_rfl) (by simp) ?_
    refine AllReadyH.cons rfl (fun KC hKC => ?_) AllReadyH.nil
    go_simp
    go_at_call 26
    refine Calls.mono (rtagd_at 0 0 [row] XL (some ⟨g31, 0, none⟩) 1 1 _ rfl HX1.out rfl (by omega) N31 (tag_one_le 0 (by rw [hrl.out]; exact hr0))) ?_
    rintro e w32 ⟨rfl, hb32⟩
    have hB32 := hB31.trans (hb32.mono hB31.size)
    have Fy32 := ((Fy31).below hb32 (Nat.le_refl _)).more hb32.size
    clear Fy31
    have Fx32 := ((N31).below hb32 (Nat.le_refl _)).more hb32.size
    clear N31
    go_wp2_with fail
    refine hKC.out _ _ ((hB32.cell (p := ⟨blk, off0, none⟩) hblk).trans hcell) (fun hHeld32 => ?_)
    clear hKC KC
    try simp only [Act.put, List.setIfInBounds_toArray, List.set_cons_zero, List.set_cons_succ]
    refine wpAnyH_ready (rs := [7]) (by kernel_rfl) (by simp) ?_
    refine AllReadyH.cons rfl (fun KC hKC => ?_) AllReadyH.nil
    go_simp
    go_at_call 26
    refine Calls.mono (rtagd_at 0 0 [r0] XL (some ⟨g30, 0, none⟩) 1 1 _ rfl HX2.out rfl (by omega) Fy32 (tag_one_le 0 (by rw [Hl0.out]; exact hl0))) ?_
    rintro e w33 ⟨rfl, hb33⟩
    have hB33 := hB32.trans (hb33.mono hB32.size)
    have Fy33 := ((Fy32).below hb33 (Nat.le_refl _)).more hb33.size
    clear Fy32
    have Fx33 := ((Fx32).below hb33 (Nat.le_refl _)).more hb33.size
    clear Fx32
    go_wp2_with fail
    refine hKC.out _ _ ((hB33.cell (p := ⟨blk, off0, none⟩) hblk).trans hcell) (fun hHeld33 => ?_)
    clear hKC KC
    try simp only [Act.put, List.setIfInBounds_toArray, List.set_cons_zero, List.set_cons_succ]
    refine anyH_take (i := 8) (v := .bool true) (some 28) rfl rfl (by kernel_rfl) (by kernel_rfl) (by kernel_rfl) (fun _ _ _ h => h) (Or.inl ⟨by rfl, fun _ hw => by go_simp⟩) (by assumption) ?_
    simp only [Act.put, List.setIfInBounds_toArray, List.set_cons_zero, List.set_cons_succ]
    refine anyH_take (i := 9) (v := .bool true) (some 29) rfl rfl (by kernel_rfl) (by kernel_rfl) (by kernel_rfl) (fun _ _ _ h => h) (Or.inl ⟨by rfl, fun _ hw => by rfl⟩) (by assumption) ?_
    simp only [Act.put, List.setIfInBounds_toArray, List.set_cons_zero, List.set_cons_succ]
    refine anyH_take (i := 10) (v := .slice Ar lr cr) (some 30) rfl rfl (by kernel_rfl) (by kernel_rfl) (by kernel_rfl) (fun _ _ _ h => h) (Or.inl ⟨by rfl, fun _ hw => by rfl⟩) (by assumption) ?_
    simp only [Act.put, List.setIfInBounds_toArray, List.set_cons_zero, List.set_cons_succ]
    refine anyH_take (i := 11) (v := .slice (some ⟨blk, off0, none⟩) 1 c) (some 31) rfl rfl (by kernel_rfl) (by kernel_rfl) (by kernel_rfl) (fun _ _ _ h => h) (Or.inl ⟨by rfl, fun _ hw => by rfl⟩) (by assumption) ?_
    simp only [Act.put, List.setIfInBounds_toArray, List.set_cons_zero, List.set_cons_succ]
    refine anyH_take (i := 12) (v := .pointer (some ⟨blk, off0, none⟩)) (some 32) rfl rfl (by kernel_rfl) (by kernel_rfl) (by kernel_rfl) (fun _ _ _ h => h) (Or.inl ⟨by rfl, fun _ hw => by go_simp⟩) (by assumption) ?_
    simp only [Act.put, List.setIfInBounds_toArray, List.set_cons_zero, List.set_cons_succ]
    refine anyH_take (i := 13) (v := .slice A0 l0 c0) (some 33) rfl rfl (by kernel_rfl) (by kernel_rfl) (by kernel_rfl) (fun _ _ _ h => h) (Or.inl ⟨by rfl, fun _ hw => by (have hw2 := hw; simp only at hw2; go_simp)⟩) (by assumption) ?_
    simp only [Act.put, List.setIfInBounds_toArray, List.set_cons_zero, List.set_cons_succ]
    refine wpAnyH_ready (rs := [14]) (by kernel_rfl) (by simp) ?_
    refine AllReadyH.cons rfl (fun KC hKC => ?_) AllReadyH.nil
    go_simp
    go_at_call 21
    refine Calls.mono (same_below Ar A0 cr c0 lr l0 row r0 _ false ((hbs.below hB33 (Nat.le_refl _)).more hB33.size) ((hb0.below hB33 (Nat.le_refl _)).more hB33.size) hrl.out Hl0.out (by unfold maxLen; omega) (by unfold maxLen; omega) Hne.out) ?_
    rintro e w34 ⟨rfl, hb34⟩
    have hB34 := hB33.trans (hb34.mono hB33.size)
    have Fy34 := ((Fy33).below hb34 (Nat.le_refl _)).more hb34.size
    clear Fy33
    have Fx34 := ((Fx33).below hb34 (Nat.le_refl _)).more hb34.size
    clear Fx33
    go_wp2_with fail
    refine hKC.out _ _ ((hB34.cell (p := ⟨blk, off0, none⟩) hblk).trans hcell) (fun hHeld34 => ?_)
    clear hKC KC
    try simp only [Act.put, List.setIfInBounds_toArray, List.set_cons_zero, List.set_cons_succ]
    refine anyH_take (i := 15) (v := .bool true) (some 35) rfl rfl (by kernel_rfl) (by kernel_rfl) (by kernel_rfl) (fun _ _ _ h => h) (Or.inl ⟨by rfl, fun _ hw => by go_simp⟩) (by assumption) ?_
    simp only [Act.put, List.setIfInBounds_toArray, List.set_cons_zero, List.set_cons_succ]
    refine anyH_take (i := 16) (v := .bool true) (some 36) rfl rfl (by kernel_rfl) (by kernel_rfl) (by kernel_rfl) (fun _ _ _ h => h) (Or.inl ⟨by rfl, fun _ hw => by go_simp⟩) (by assumption) ?_
    simp only [Act.put, List.setIfInBounds_toArray, List.set_cons_zero, List.set_cons_succ]
    refine anyH_take (i := 17) (v := .bool true) (some 8) rfl rfl (by kernel_rfl) (by kernel_rfl) (by kernel_rfl) (fun _ _ _ h => h) (Or.inl ⟨by rfl, fun _ hw => by rfl⟩) (by assumption) ?_
    simp only [Act.put, List.setIfInBounds_toArray, List.set_cons_zero, List.set_cons_succ]
    refine wpAnyH_done (by kernel_rfl) ?_ _
    have hfin := hB34
    clear hHeld
    go_wp2_with fail
    go_ret
    exact ⟨rfl, hfin⟩

end Go.Proofs.Ytkpgbgiamekhaab

/-
  The law's example of merkle.
-/
import Derived.Test.YtkpgbgiamekhaabRRoot
import Derived.Test.YtkpgbgiamekhaabShaSpeaks
import Derived.Test.YtkpgbgiamekhaabMono
import Derived.Lib.SlBytesConst
namespace Go.Proofs.Ytkpgbgiamekhaab
open Go.RowKit
set_option linter.unusedVariables false
set_option linter.unusedSimpArgs false

theorem two_root (x y : List UInt8) : rootF [x, y] = joinF (leafF x) (leafF y) := by
  rw [rootF_two (by simp)]
  have h : splitF [x, y].length = 1 := by
    have := splitF_facts (n := [x, y].length) (by simp)
    simp at this ⊢
    omega
  rw [h, rootF_one (by simp), rootF_one (by simp)]
  rfl

/-- What each operation of the last statement yields. -/
def mspP (B : Nat) (JL : List Value) (g1 g2 : Nat) : Nat → Value → World → Prop
  | 0, v, w => ∃ g, v = .slice (some ⟨g, 0, none⟩) 1 1 ∧ B ≤ g ∧ g < w.heap.size ∧ w.shape? g = some (5, 1) ∧ Bs w w.heap.size (some ⟨g, 0, none⟩) [97]
  | 1, v, w => ∃ g, v = .slice (some ⟨g, 0, none⟩) 1 1 ∧ Bs w w.heap.size (some ⟨g, 0, none⟩) [97]
  | 2, v, w => ∃ g, v = .slice (some ⟨g, 0, none⟩) 1 1 ∧ B ≤ g ∧ g < w.heap.size ∧ w.shape? g = some (5, 1) ∧ Bs w w.heap.size (some ⟨g, 0, none⟩) [98]
  | 3, v, w => ∃ g, v = .slice (some ⟨g, 0, none⟩) 1 1 ∧ Bs w w.heap.size (some ⟨g, 0, none⟩) [98]
  | 4, v, w => ∃ g, v = .slice (some ⟨g, 0, none⟩) 2 2 ∧ RowsAt w w.heap.size (some ⟨g, 0, none⟩) [[97], [98]]
  | 5, v, w => v = .agg JL.toArray
  | 6, v, w => v = .slice (some ⟨g1, 0, none⟩) 32 32
  | 7, v, w => v = .slice (some ⟨g2, 0, none⟩) 32 32
  | 8, v, w => ∃ g, v = .slice (some ⟨g, 0, none⟩) 2 2 ∧ RowsAt w w.heap.size (some ⟨g, 0, none⟩) [leafF [97], leafF [98]]
  | 9, v, w => v = .agg JL.toArray
  | 10, v, w => v = .bool true
  | 11, v, w => v = .bool true
  | _, v, w => True

theorem msp_keep (B : Nat) (JL : List Value) (g1 g2 : Nat) : ∀ i v w w', B ≤ w.heap.size → Keep B w w' → mspP B JL g1 g2 i v w → mspP B JL g1 g2 i v w' := by
  intro i v w w' hB hk h
  match i, h with
  | 0, ⟨g, e, h1, h2, h3, h4⟩ => exact ⟨g, e, h1, Nat.lt_of_lt_of_le h2 hk.size, (hk.shape g h2).trans h3, h4.keepK hk⟩
  | 1, ⟨g, e, h1⟩ => exact ⟨g, e, h1.keepK hk⟩
  | 2, ⟨g, e, h1, h2, h3, h4⟩ => exact ⟨g, e, h1, Nat.lt_of_lt_of_le h2 hk.size, (hk.shape g h2).trans h3, h4.keepK hk⟩
  | 3, ⟨g, e, h1⟩ => exact ⟨g, e, h1.keepK hk⟩
  | 4, ⟨g, e, h1⟩ => exact ⟨g, e, h1.keepK hk⟩
  | 5, h => exact h
  | 6, h => exact h
  | 7, h => exact h
  | 8, ⟨g, e, h1⟩ => exact ⟨g, e, h1.keepK hk⟩
  | 9, h => exact h
  | 10, h => exact h
  | 11, h => exact h
  | _ + 12, _ => exact trivial

set_option maxHeartbeats 16000000 in
set_option maxRecDepth 100000 in
theorem mspeaks_true (w : World) : Calls Try.prog 11 #[] w fun e w' => e = .returned (.bool true) ∧ Below w.heap.size w w' := by
  have hgt := gt32
  obtain ⟨AL, hAL⟩ : ∃ V, V = Lib.byteCells (leafF [97]) := ⟨_, rfl⟩
  have HALl := Lib.hid (show AL.length = 32 by rw [hAL, Lib.byteCells_length]; exact leafF_length _)
  have HALi := Lib.hid (show (Try.prog.info? 26).map (·.size) = some AL.toArray.size by rw [List.size_toArray, HALl.out]; exact digInfo)
  have HAL1 := Lib.hid (show AL.toArray.all (·.oneCell') = true by rw [hAL]; exact dig_one _)
  have HALs := Lib.hid (show (Lib.byteCells zeros).toArray.size = AL.toArray.size by rw [List.size_toArray, List.size_toArray, HALl.out]; rfl)
  have HAL := Lib.hid hAL
  clear hAL
  obtain ⟨BL, hBL⟩ : ∃ V, V = Lib.byteCells (leafF [98]) := ⟨_, rfl⟩
  have HBLl := Lib.hid (show BL.length = 32 by rw [hBL, Lib.byteCells_length]; exact leafF_length _)
  have HBLi := Lib.hid (show (Try.prog.info? 26).map (·.size) = some BL.toArray.size by rw [List.size_toArray, HBLl.out]; exact digInfo)
  have HBL1 := Lib.hid (show BL.toArray.all (·.oneCell') = true by rw [hBL]; exact dig_one _)
  have HBLs := Lib.hid (show (Lib.byteCells zeros).toArray.size = BL.toArray.size by rw [List.size_toArray, List.size_toArray, HBLl.out]; rfl)
  have HBL := Lib.hid hBL
  clear hBL
  obtain ⟨JL, hJL⟩ : ∃ V, V = Lib.byteCells (joinF (leafF [97]) (leafF [98])) := ⟨_, rfl⟩
  have HJ1 := Lib.hid (show JL = Lib.byteCells (rootF [[97], [98]]) by rw [hJL, two_root])
  have HJ2 := Lib.hid (show JL = Lib.byteCells (shaF (tagF 1 [leafF [97], leafF [98]])) from hJL)
  have heq := fun w => eqv_at Try.underlying26 _ _ (joinF_length _ _) (joinF_length _ _) JL JL hJL hJL w
  rw [decide_eq_true rfl] at heq
  clear hJL
  have kc := fun (w : World) (C : Array Value) (n c : Nat) => Lib.run_convert_bytes_const (P := Try.prog) w 24 5 C n c Try.underlying24 Try.underlying5
  go_enter Try.func11, Try.ntmps11
  go_wp2_with fail
  have hAr := Bs.newF w [97] 5 (Lib.byteCells [97]).toArray (1, 2) rfl
  have hrow := rows_one (w := w.alloc (.cells (Lib.byteCells [97]).toArray 5 (1, 2))) (l := [97]) 24 rfl (Nat.le_refl 1) (by unfold maxLen; omega) (hAr.more (Nat.le_of_eq (by simp))) (Nat.le_refl _)
  have hup : Below w.heap.size w ((w.alloc (.cells (Lib.byteCells [97]).toArray 5 (1, 2))).alloc (.cells #[.slice (some ⟨w.heap.size, 0, none⟩) 1 1] 24)) := ((Below.refl _ w).alloc (Nat.le_refl _) _).alloc (by simp) _
  refine Calls.mono (rtagd_at 0 0 [[97]] AL (some ⟨w.heap.size + 1, 0, none⟩) 1 1 ((w.alloc (.cells (Lib.byteCells [97]).toArray 5 (1, 2))).alloc (.cells #[.slice (some ⟨w.heap.size, 0, none⟩) 1 1] 24)) rfl HAL.out rfl (by omega) (by simpa using hrow.more (by simp)) (tag_one_le 0 (by decide))) ?_
  rintro e w2 ⟨rfl, hb0⟩
  have hbw2 := hup.trans (hb0.mono hup.size)
  clear hAr hrow hup hb0
  go_wp2_with fail
  have hAr := Bs.newF w2 [98] 5 (Lib.byteCells [98]).toArray (1, 2) rfl
  have hrow := rows_one (w := w2.alloc (.cells (Lib.byteCells [98]).toArray 5 (1, 2))) (l := [98]) 24 rfl (Nat.le_refl 1) (by unfold maxLen; omega) (hAr.more (Nat.le_of_eq (by simp))) (Nat.le_refl _)
  have hup : Below w2.heap.size w2 ((w2.alloc (.cells (Lib.byteCells [98]).toArray 5 (1, 2))).alloc (.cells #[.slice (some ⟨w2.heap.size, 0, none⟩) 1 1] 24)) := ((Below.refl _ w2).alloc (Nat.le_refl _) _).alloc (by simp) _
  refine Calls.mono (rtagd_at 0 0 [[98]] BL (some ⟨w2.heap.size + 1, 0, none⟩) 1 1 ((w2.alloc (.cells (Lib.byteCells [98]).toArray 5 (1, 2))).alloc (.cells #[.slice (some ⟨w2.heap.size, 0, none⟩) 1 1] 24)) rfl HBL.out rfl (by omega) (by simpa using hrow.more (by simp)) (tag_one_le 0 (by decide))) ?_
  rintro e w5 ⟨rfl, hb0⟩
  have hbw5 := hup.trans (hb0.mono hup.size)
  clear hAr hrow hup hb0
  have hBw5 := hbw2.trans (hbw5.mono hbw2.size)
  go_wp2_with (change wpList _ _ _ _ _ ((w5.alloc (.cells (Lib.byteCells zeros).toArray 26)).alloc (.cells (Lib.byteCells zeros).toArray 26)); obtain ⟨w6, hw6⟩ : ∃ x, x = (w5.alloc (.cells (Lib.byteCells zeros).toArray 26)).alloc (.cells (Lib.byteCells zeros).toArray 26) := ⟨_, rfl⟩; have hP6 : Arr w6 w5.heap.size 26 (Lib.byteCells zeros) := (by rw [hw6]; exact (Arr.new w5 _ _).alloc _); have hQ6 : Arr w6 (w5.heap.size + 1) 26 (Lib.byteCells zeros) := (by have h := Arr.new (w5.alloc (.cells (Lib.byteCells zeros).toArray 26)) 26 (Lib.byteCells zeros); rw [show (w5.alloc (.cells (Lib.byteCells zeros).toArray 26)).heap.size = w5.heap.size + 1 from by simp] at h; rw [hw6]; exact h); have hb6 : Below w5.heap.size w5 w6 := (by rw [hw6]; exact ((Below.refl _ w5).alloc (Nat.le_refl _) _).alloc (by simp) _); rw [← hw6]; clear hw6; refine wpList_store_row rfl _ _ _ rfl w5.heap.size AL.toArray rfl rfl 26 _ hP6 HALi.out HALs.out HAL1.out ?_; refine wpList_store_row rfl _ _ _ rfl (w5.heap.size + 1) BL.toArray rfl rfl 26 _ (hQ6.rowOther (show w5.heap.size + 1 ≠ w5.heap.size by omega) AL.toArray) HBLi.out HBLs.out HBL1.out ?_; obtain ⟨w8, hw8⟩ : ∃ x, x = (w6.setRow w5.heap.size AL.toArray).setRow (w5.heap.size + 1) BL.toArray := ⟨_, rfl⟩; have hP8 : Arr w8 w5.heap.size 26 AL := (by rw [hw8]; exact (hP6.setRow AL).rowOther (show w5.heap.size ≠ w5.heap.size + 1 by omega) _); have hQ8 : Arr w8 (w5.heap.size + 1) 26 BL := (by rw [hw8]; exact (hQ6.rowOther (show w5.heap.size + 1 ≠ w5.heap.size by omega) AL.toArray).setRow BL); have hb8 : Below w5.heap.size w5 w8 := (by rw [hw8]; exact hb6.trans ((((Only.refl (fun k => k = w5.heap.size ∨ k = w5.heap.size + 1) w6).setRow (.inl (.inl rfl)) AL.toArray).setRow (.inl (.inr rfl)) BL.toArray).below hb6.size (by rintro k (rfl | rfl) <;> omega))); rw [← hw8]; clear hw8 hP6 hQ6 hb6)
  have hBw8 := hBw5.trans (hb8.mono hBw5.size)
  obtain ⟨g1, hg1⟩ : ∃ x, x = w5.heap.size := ⟨_, rfl⟩
  rw [← hg1] at hP8 hQ8 ⊢
  obtain ⟨g2, hg2⟩ : ∃ x, x = g1 + 1 := ⟨_, rfl⟩
  rw [← hg2] at hQ8 ⊢
  clear hg1 hg2 hBw5 hb8 hbw2 hbw5
  rw [HAL.out] at hP8
  rw [HBL.out] at hQ8
  have hPr := msp_keep w8.heap.size JL g1 g2
  refine wp_region_inv (fun D a w' => ∃ s : Nat → Value, a = ⟨#[s 11, .pointer (some ⟨g1, 0, none⟩), .pointer (some ⟨g2, 0, none⟩), .slice (some ⟨w.heap.size, 0, none⟩) 1 1, .slice (some ⟨w.heap.size, 0, none⟩) 1 1, .slice (some ⟨w.heap.size + 1, 0, none⟩) 1 1, .agg AL.toArray, .slice (some ⟨w2.heap.size, 0, none⟩) 1 1, .slice (some ⟨w2.heap.size, 0, none⟩) 1 1, .slice (some ⟨w2.heap.size + 1, 0, none⟩) 1 1, .agg BL.toArray, s 0, s 1, s 2, s 3, s 4, s 5, s 6, s 7, s 8, s 9, s 10], []⟩ ∧ MInv w8.heap.size w8 (mspP w8.heap.size JL g1 g2) 12 D s w') (by kernel_rfl) (by kernel_rfl) ⟨fun j => if j = 11 then .bool false else undef, rfl, MInv.begin (below_drew _ _) (Nat.le_refl _)⟩ ?_ ?_ (fun D D' a w' h hd => ?_)
  · rintro D a w' i o ⟨s, rfl, h⟩ ho hD hdep K hK
    have HK := Lib.hid hK
    clear hK
    have hi12 : i < 12 := (Array.getElem?_eq_some_iff.1 ho).1
    have hwz := h.size
    obtain rfl | rfl | rfl | rfl | rfl | rfl | rfl | rfl | rfl | rfl | rfl | rfl : i = 0 ∨ i = 1 ∨ i = 2 ∨ i = 3 ∨ i = 4 ∨ i = 5 ∨ i = 6 ∨ i = 7 ∨ i = 8 ∨ i = 9 ∨ i = 10 ∨ i = 11 := by omega
    · injection ho with ho
      subst ho
      go_simp
      have hk : Keep w8.heap.size w' (w'.alloc (.cells (Lib.byteCells [97]).toArray 5)) := Keep.of_below ((Below.refl _ w').alloc (Nat.le_refl _) _) hwz
      exact HK.out _ _ ⟨updS s 0 (.slice (some ⟨w'.heap.size, 0, none⟩) 1 1), (by simp [updS]), h.put hPr 0 hk _ ⟨w'.heap.size, rfl, hwz, by simp, new_shape w' _ _, (Arr.bs (Arr.new w' 5 (Lib.byteCells [97])))⟩⟩
    · injection ho with ho
      subst ho
      have d0 : D 0 := hdep ⟨0, .data⟩ (by simp) (by kernel_rfl)
      obtain ⟨g, e0, hBg, hgl, hsh, hbs⟩ := h.val 0 (by omega) d0
      refine step_convert_mark rfl _ _ rfl w8.heap.size 5 g 1 1 1 Try.underlying24 Try.underlying5 hBg hsh e0 (fun w5 hk => ?_)
      exact HK.out _ _ ⟨updS s 1 (.slice (some ⟨g, 0, none⟩) 1 1), (by simp [updS, Act.put]), h.put hPr 1 hk _ ⟨g, rfl, hbs.keepK hk⟩⟩
    · injection ho with ho
      subst ho
      go_simp
      have hk : Keep w8.heap.size w' (w'.alloc (.cells (Lib.byteCells [98]).toArray 5)) := Keep.of_below ((Below.refl _ w').alloc (Nat.le_refl _) _) hwz
      exact HK.out _ _ ⟨updS s 2 (.slice (some ⟨w'.heap.size, 0, none⟩) 1 1), (by simp [updS]), h.put hPr 2 hk _ ⟨w'.heap.size, rfl, hwz, by simp, new_shape w' _ _, (Arr.bs (Arr.new w' 5 (Lib.byteCells [98])))⟩⟩
    · injection ho with ho
      subst ho
      have d2 : D 2 := hdep ⟨2, .data⟩ (by simp) (by kernel_rfl)
      obtain ⟨g, e0, hBg, hgl, hsh, hbs⟩ := h.val 2 (by omega) d2
      refine step_convert_mark rfl _ _ rfl w8.heap.size 5 g 1 1 1 Try.underlying24 Try.underlying5 hBg hsh e0 (fun w5 hk => ?_)
      exact HK.out _ _ ⟨updS s 3 (.slice (some ⟨g, 0, none⟩) 1 1), (by simp [updS, Act.put]), h.put hPr 3 hk _ ⟨g, rfl, hbs.keepK hk⟩⟩
    · injection ho with ho
      subst ho
      have d1 : D 1 := hdep ⟨1, .data⟩ (by simp) (by kernel_rfl)
      have d3 : D 3 := hdep ⟨3, .data⟩ (by simp) (by kernel_rfl)
      obtain ⟨ga, e1, hba⟩ := h.val 1 (by omega) d1
      obtain ⟨gb, e3, hbb⟩ := h.val 3 (by omega) d3
      go_simp
      have hk : Keep w8.heap.size w' (w'.alloc (.cells #[.slice (some ⟨ga, 0, none⟩) 1 1, .slice (some ⟨gb, 0, none⟩) 1 1] 24)) := Keep.of_below ((Below.refl _ w').alloc (Nat.le_refl _) _) hwz
      have hr := rows_two (w := w') (l := [97]) (l' := [98]) 24 rfl rfl (Nat.le_refl 1) (by unfold maxLen; omega) (Nat.le_refl 1) (by unfold maxLen; omega) hba hbb (Nat.le_refl _)
      try simp only [e1, e3]
      exact HK.out _ _ ⟨updS s 4 (.slice (some ⟨w'.heap.size, 0, none⟩) 2 2), (by simp [updS, e1, e3]), h.put hPr 4 hk _ ⟨w'.heap.size, rfl, by simpa using hr⟩⟩
    · injection ho with ho
      subst ho
      have d4 : D 4 := hdep ⟨4, .data⟩ (by simp) (by kernel_rfl)
      obtain ⟨g, e4, hr⟩ := h.val 4 (by omega) d4
      go_simp
      try simp only [e4]
      refine Calls.mono (root_at [[97], [98]] JL (some ⟨g, 0, none⟩) 2 2 w' rfl HJ1.out (by omega) (Nat.le_refl _) (by omega) (by simp) hr) ?_
      rintro e w5 ⟨rfl, hb5⟩
      exact HK.out _ _ ⟨updS s 5 (.agg JL.toArray), (by simp [updS, e4]), h.put hPr 5 (Keep.of_below hb5 hwz) _ rfl⟩
    · injection ho with ho
      subst ho
      go_simp
      exact HK.out _ _ ⟨updS s 6 (.slice (some ⟨g1, 0, none⟩) 32 32), (by simp [updS]), h.put hPr 6 (Keep.refl _ _) _ rfl⟩
    · injection ho with ho
      subst ho
      go_simp
      exact HK.out _ _ ⟨updS s 7 (.slice (some ⟨g2, 0, none⟩) 32 32), (by simp [updS]), h.put hPr 7 (Keep.refl _ _) _ rfl⟩
    · injection ho with ho
      subst ho
      have d6 : D 6 := hdep ⟨6, .data⟩ (by simp) (by kernel_rfl)
      have d7 : D 7 := hdep ⟨7, .data⟩ (by simp) (by kernel_rfl)
      have e6 : s 6 = _ := h.val 6 (by omega) d6
      have e7 : s 7 = _ := h.val 7 (by omega) d7
      go_simp
      have hk : Keep w8.heap.size w' (w'.alloc (.cells #[.slice (some ⟨g1, 0, none⟩) 32 32, .slice (some ⟨g2, 0, none⟩) 32 32] 24)) := Keep.of_below ((Below.refl _ w').alloc (Nat.le_refl _) _) hwz
      have hr := rows_two (w := w') 24 (leafF_length [97]) (leafF_length [98]) (Nat.le_refl 32) (by unfold maxLen; omega) (Nat.le_refl 32) (by unfold maxLen; omega) (hP8.below h.bel hP8.lt).bs (hQ8.below h.bel hQ8.lt).bs (Nat.le_refl _)
      try simp only [e6, e7]
      exact HK.out _ _ ⟨updS s 8 (.slice (some ⟨w'.heap.size, 0, none⟩) 2 2), (by simp [updS, e6, e7]), h.put hPr 8 hk _ ⟨w'.heap.size, rfl, by simpa using hr⟩⟩
    · injection ho with ho
      subst ho
      have d8 : D 8 := hdep ⟨8, .data⟩ (by simp) (by kernel_rfl)
      obtain ⟨g, e8, hr⟩ := h.val 8 (by omega) d8
      go_simp
      try simp only [e8]
      refine Calls.mono (rtagd_at 1 1 [leafF [97], leafF [98]] JL (some ⟨g, 0, none⟩) 2 2 w' rfl HJ2.out rfl (by omega) hr (tag_two_le 1 (leafF_length _) (leafF_length _))) ?_
      rintro e w5 ⟨rfl, hb5⟩
      exact HK.out _ _ ⟨updS s 9 (.agg JL.toArray), (by simp [updS, e8]), h.put hPr 9 (Keep.of_below hb5 hwz) _ rfl⟩
    · injection ho with ho
      subst ho
      have d5 : D 5 := hdep ⟨5, .data⟩ (by simp) (by kernel_rfl)
      have d9 : D 9 := hdep ⟨9, .data⟩ (by simp) (by kernel_rfl)
      have e5 : s 5 = _ := h.val 5 (by omega) d5
      have e9 : s 9 = _ := h.val 9 (by omega) d9
      have heq' := heq w'
      try simp only [e5, e9]
      go_simp
      exact HK.out _ _ ⟨updS s 10 (.bool true), (by simp [updS, e5, e9]), h.put hPr 10 (Keep.refl _ _) _ rfl⟩
    · injection ho with ho
      subst ho
      have d10 : D 10 := hdep ⟨10, .data⟩ (by simp) (by kernel_rfl)
      have e10 : s 10 = _ := h.val 10 (by omega) d10
      go_simp
      exact HK.out _ _ ⟨updS s 11 (.bool true), (by simp [updS, e10]), h.put hPr 11 (Keep.refl _ _) _ rfl⟩
  · rintro D a w' ⟨s, rfl, h⟩ hall
    have e11 : s 11 = _ := h.val 11 (by omega) (hall 11 (by decide))
    have hfin := hBw8.trans (h.bel.mono hBw8.size)
    try simp only [e11]
    go_wp2_with fail
    go_ret
    exact ⟨rfl, hfin⟩
  · obtain ⟨s, rfl, hm⟩ := h
    exact ⟨s, rfl, hm.ext hd⟩

end Go.Proofs.Ytkpgbgiamekhaab

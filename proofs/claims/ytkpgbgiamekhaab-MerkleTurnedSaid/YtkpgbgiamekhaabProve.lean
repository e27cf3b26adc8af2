/-
  merkle.Prove.
-/
import Derived.Test.YtkpgbgiamekhaabReverse
import Derived.Test.YtkpgbgiamekhaabRoot
namespace Go.Proofs.Ytkpgbgiamekhaab
open Go.RowKit
set_option linter.unusedVariables false
set_option linter.unusedSimpArgs false

def ProvePost (ds : List (List UInt8)) (w : World) (e : Ending) (w' : World) : Prop := ∃ v, e = .returned (.tuple #[v, .int .i64 0]) ∧ DRow w' w.heap.size v ds ∧ Below w.heap.size w w'

set_option maxHeartbeats 8000000 in
set_option maxRecDepth 100000 in
theorem prove_in (rs : List (List UInt8)) (A : Option Addr) (n c a : Nat) (w : World) (hn : rs.length = n) (ha : a < n) (hn6 : n ≤ 1000000) (hc : n ≤ c) (hm63 : c ≤ 9223372036854775807) (hr : ∀ r ∈ rs, r.length ≤ 300) (hrs : RowsAt w w.heap.size A rs) :
    Calls Try.prog 14 #[.slice A n c, .int .i64 (a : Nat)] w (ProvePost (proveF rs a) w) := by
  obtain ⟨PF, hPF⟩ : ∃ x, proveF rs a = x := ⟨_, rfl⟩
  rw [hPF]
  have hd0 : decide ((a : Int) < 0) = false := by simp
  have hd1 : decide (n ≤ a) = false := by simp; omega
  have HPF := Lib.hid hPF
  have Hn := Lib.hid hn
  clear hPF hn
  go_enter Try.func14, Try.ntmps14
  go_wp2_with fail
  go_loopw [0, 1, 6] (fun x y z wr => ∃ (rs' : List (List UInt8)) (A' : Option Addr) (m d b : Nat) (p : Value) (pf : List (List UInt8)), x = .slice A' m d ∧ y = .int .i64 b ∧ z = p ∧ rs'.length = m ∧ b < m ∧ m ≤ n ∧ m ≤ d ∧ d ≤ 9223372036854775807 ∧ (∀ r ∈ rs', r.length ≤ 300) ∧ RowsAt wr w.heap.size A' rs' ∧ proveF rs' b ++ pf.reverse = PF ∧ DRow wr w.heap.size p pf ∧ Below w.heap.size w wr ∧ pf.length + m ≤ n) (fun x _ _ _ => sliceLen x)
  case atStart => exact ⟨rs, A, n, c, a, _, [], rfl, rfl, rfl, Hn.out, ha, Nat.le_refl _, hc, hm63, hr, hrs, by rw [HPF.out]; simp, DRow.nil _ _, Below.refl _ _, by simp⟩
  case round =>
    obtain ⟨rs', A', m, d, b, p, pf, rfl, rfl, rfl, hm, hbm, hmn, hmd, hdm, hr', hRw, hP, hD, hBl, hlen⟩ := hrel
    clear hrs hr Hn HPF
    have HP := Lib.hid hP
    clear hP hd0 hd1
    by_cases h2 : 2 ≤ m
    · have hd : decide ((1 : Int) < (m : Int)) = true := by simp; omega
      have hsp := splitF_facts h2
      have hfirst := fun w => first_any m h2 (by omega) w
      have plo := fun h => proveF_lo (rs := rs') (a := b) (by omega) h
      have phi := fun h => proveF_hi (rs := rs') (a := b) (by omega) h
      rw [hm] at plo phi
      obtain ⟨K, hK⟩ : ∃ K, splitF m = K := ⟨_, rfl⟩
      rw [hK] at hsp hfirst plo phi
      obtain ⟨hK0, hKn, _⟩ := hsp
      obtain ⟨blk, off, rfl, hblk, hrow⟩ := hRw (by omega)
      clear hrow
      have Hlk := Lib.hid (show (rs'.take K).length = K by rw [List.length_take]; omega)
      have Hld := Lib.hid (show (rs'.drop K).length = m - K by rw [List.length_drop, hm])
      have Hrk := Lib.hid (show ∀ r ∈ rs'.take K, r.length ≤ 300 from fun r h => hr' r (List.mem_of_mem_take h))
      have Hrd := Lib.hid (show ∀ r ∈ rs'.drop K, r.length ≤ 300 from fun r h => hr' r (List.mem_of_mem_drop h))
      have hKrs : K < rs'.length := by omega
      have hKc : K ≤ d := by omega
      have hNc : m - K ≤ d - K := by omega
      have hnec : ¬ d = K := by omega
      have hKn1 : K ≤ m := by omega
      have HF := Lib.hid hfirst
      have Hm := Lib.hid hm
      have Hr' := Lib.hid hr'
      clear hfirst hm hr' hK
      by_cases hb : b < K
      · have hbd : decide ((b : Int) < (K : Int)) = true := by simp; omega
        obtain ⟨VL, hVL⟩ : ∃ V, V = Lib.byteCells (rootF (rs'.drop K)) := ⟨_, rfl⟩
        have HVLl := Lib.hid (show VL.length = 32 by rw [hVL, Lib.byteCells_length]; exact rootF_length _)
        have HVLi := Lib.hid (show (Try.prog.info? 26).map (·.size) = some VL.toArray.size by rw [List.size_toArray, HVLl.out]; exact digInfo)
        have HVL1 := Lib.hid (show VL.toArray.all (·.oneCell') = true by rw [hVL]; exact dig_one _)
        have HVLs := Lib.hid (show (Lib.byteCells zeros).toArray.size = VL.toArray.size by rw [List.size_toArray, List.size_toArray, HVLl.out]; rfl)
        have HVL := Lib.hid hVL
        clear hVL
        have Hp := Lib.hid (plo hb)
        clear plo phi
        go_wp2_with fail
        refine Calls.mono (HF.out wr) ?_
        rintro e w1 ⟨rfl, rfl⟩
        go_wp2_with fail
        refine Calls.mono (root_at (rs'.drop K) VL _ (m - K) (d - K) _ Hld.out HVL.out (by omega) (by omega) (by omega) Hrd.out ((hRw.drop hKrs).more hBl.size)) ?_
        rintro e w2 ⟨rfl, hb2⟩
        have hD2 := hD.up hb2
        have hBl2 := hBl.trans (hb2.mono hBl.size)
        have hRw2 := hRw.below hb2 hBl.size
        go_wp2_with (first | (refine wpList_build_dig rfl _ rfl VL HVLl.out rfl ?_; obtain ⟨g, hg⟩ : ∃ x, x = w2.heap.size := ⟨_, rfl⟩; have N := Arr.new w2 26 VL; have hb3 : Below w2.heap.size w2 (w2.alloc (.cells VL.toArray 26)) := (Below.refl _ _).alloc (Nat.le_refl _) _; obtain ⟨w3, hw3⟩ : ∃ x, x = w2.alloc (.cells VL.toArray 26) := ⟨_, rfl⟩; rw [← hw3] at hb3 N ⊢; rw [← hg] at N ⊢; have hD3 := hD2.up hb3; have hBl3 := hBl2.trans (hb3.mono hBl2.size); have hRw3 := hRw2.below hb3 hBl2.size; rw [HVL.out] at N; clear hw3 hg hD hD2) | refine wpList_append_dig rfl _ _ rfl hD3 hBl3.size rfl g 1 rfl _ (rootF_length _) N (by omega) (fun v4 w4 hD4 hg4 => ?_))
        have hb4 := (Below.refl _ w3).grown hg4 hBl3.size (fun k hk => (hD3.lt k hk).1)
        have hBl4 := hBl3.trans hb4
        have hRw4 := hRw3.below hb4 (Nat.le_refl _)
        clear hg4 hD3 hRw2 hRw3 hRw N hBl2 hBl3 hb2 hb3 hb4
        go_roundw
        case rel => exact ⟨rs'.take K, _, K, d, b, v4, pf ++ [rootF (rs'.drop K)], rfl, rfl, rfl, Hlk.out, hb, by omega, by omega, hdm, Hrk.out, hRw4.take K, by have := HP.out; rw [Hp.out] at this; rw [← this]; simp, hD4, hBl4, by rw [List.length_append]; simp; omega⟩
        case measure => simp [sliceLen]; omega
      · have hbd : decide ((b : Int) < (K : Int)) = false := by simp; omega
        have hs2 : (b : Int) - (K : Int) = ((b - K : Nat) : Int) := by omega
        obtain ⟨VL, hVL⟩ : ∃ V, V = Lib.byteCells (rootF (rs'.take K)) := ⟨_, rfl⟩
        have HVLl := Lib.hid (show VL.length = 32 by rw [hVL, Lib.byteCells_length]; exact rootF_length _)
        have HVLi := Lib.hid (show (Try.prog.info? 26).map (·.size) = some VL.toArray.size by rw [List.size_toArray, HVLl.out]; exact digInfo)
        have HVL1 := Lib.hid (show VL.toArray.all (·.oneCell') = true by rw [hVL]; exact dig_one _)
        have HVLs := Lib.hid (show (Lib.byteCells zeros).toArray.size = VL.toArray.size by rw [List.size_toArray, List.size_toArray, HVLl.out]; rfl)
        have HVL := Lib.hid hVL
        clear hVL
        have Hp := Lib.hid (phi (by omega))
        clear plo phi
        go_wp2_with fail
        refine Calls.mono (HF.out wr) ?_
        rintro e w1 ⟨rfl, rfl⟩
        go_wp2_with fail
        refine Calls.mono (root_at (rs'.take K) VL _ K d _ Hlk.out HVL.out (by omega) (by omega) (by omega) Hrk.out ((hRw.take K).more hBl.size)) ?_
        rintro e w2 ⟨rfl, hb2⟩
        have hD2 := hD.up hb2
        have hBl2 := hBl.trans (hb2.mono hBl.size)
        have hRw2 := hRw.below hb2 hBl.size
        go_wp2_with (first | (refine wpList_build_dig rfl _ rfl VL HVLl.out rfl ?_; obtain ⟨g, hg⟩ : ∃ x, x = w2.heap.size := ⟨_, rfl⟩; have N := Arr.new w2 26 VL; have hb3 : Below w2.heap.size w2 (w2.alloc (.cells VL.toArray 26)) := (Below.refl _ _).alloc (Nat.le_refl _) _; obtain ⟨w3, hw3⟩ : ∃ x, x = w2.alloc (.cells VL.toArray 26) := ⟨_, rfl⟩; rw [← hw3] at hb3 N ⊢; rw [← hg] at N ⊢; have hD3 := hD2.up hb3; have hBl3 := hBl2.trans (hb3.mono hBl2.size); have hRw3 := hRw2.below hb3 hBl2.size; rw [HVL.out] at N; clear hw3 hg hD hD2) | refine wpList_append_dig rfl _ _ rfl hD3 hBl3.size rfl g 1 rfl _ (rootF_length _) N (by omega) (fun v4 w4 hD4 hg4 => ?_))
        have hb4 := (Below.refl _ w3).grown hg4 hBl3.size (fun k hk => (hD3.lt k hk).1)
        have hBl4 := hBl3.trans hb4
        have hRw4 := hRw3.below hb4 (Nat.le_refl _)
        clear hg4 hD3 hRw2 hRw3 hRw N hBl2 hBl3 hb2 hb3 hb4
        go_roundw
        case rel => exact ⟨rs'.drop K, _, m - K, d - K, b - K, v4, pf ++ [rootF (rs'.take K)], rfl, by go_num, rfl, Hld.out, by omega, by omega, by omega, by omega, Hrd.out, hRw4.drop hKrs, by have := HP.out; rw [Hp.out] at this; rw [← this]; simp, hD4, hBl4, by rw [List.length_append]; simp; omega⟩
        case measure => simp [sliceLen]; omega
    · have hd : decide ((1 : Int) < (m : Int)) = false := by simp; omega
      have hp := proveF_one (rs := rs') (a := b) (by omega)
      have hp2 : pf.reverse = PF := by have := HP.out; rw [hp] at this; simpa using this
      have Hp2 := Lib.hid hp2
      clear hp hp2
      go_wp2_with fail
      refine Calls.mono (rev_any w.heap.size _ pf wr hD (by omega)) ?_
      rintro e w5 ⟨rfl, hd5, ho5, hs5⟩
      have hb5 := ho5.below hBl.size (fun k hk => (hD.lt k hk).1)
      have Hd5 := Lib.hid hd5
      have Hb5 := Lib.hid (hBl.trans hb5)
      clear hd5 ho5 hs5 hb5 hBl hD
      go_wp2_with fail
      go_ret2
      exact ⟨_, rfl, by rw [← Hp2.out]; exact Hd5.out, Hb5.out⟩

set_option maxHeartbeats 4000000 in
set_option maxRecDepth 100000 in
theorem prove_out (A : Option Addr) (n c : Nat) (a : Int) (w : World) (ha : a < 0 ∨ (n : Int) ≤ a) :
    Calls Try.prog 14 #[.slice A n c, .int .i64 a] w fun e w' => e = .returned (.tuple #[.slice none 0 0, .int .i64 2]) ∧ w' = w := by
  by_cases h0 : a < 0
  · have hd0 : decide (a < 0) = true := decide_eq_true h0
    go_enter Try.func14, Try.ntmps14
    go_wp2_with fail
    go_ret2
    exact ⟨rfl, rfl⟩
  · have hd0 : decide (a < 0) = false := decide_eq_false h0
    have hd1 : decide ((n : Int) ≤ a) = true := decide_eq_true (by omega)
    go_enter Try.func14, Try.ntmps14
    go_wp2_with fail
    go_ret2
    exact ⟨rfl, rfl⟩

end Go.Proofs.Ytkpgbgiamekhaab

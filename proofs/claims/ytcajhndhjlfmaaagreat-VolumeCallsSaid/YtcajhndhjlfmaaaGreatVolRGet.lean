/-
  The document's Get.
-/
import Derived.Test.YtcajhndhjlfmaaaGreatVolRefB
import Derived.Test.YtcajhndhjlfmaaaGreatVolPut
import Derived.Test.YtcajhndhjlfmaaaGreatVolSame
namespace Go.Proofs.YtcajhndhjlfmaaaGreat
open Go.RowKit
set_option linter.unusedVariables false
set_option linter.unusedSimpArgs false

theorem getC_first {cs : List Cl} {n : Int} {j : Nat} {c : Cl} (hj : cs[j]? = some c) (hc : (c.1 : Int) = n) (h : ∀ (i : Nat) (d : Cl), i < j → cs[i]? = some d → (d.1 : Int) ≠ n) : getC cs n = some c.2 := by
  unfold getC
  have : cs.find? (fun c => decide ((c.1 : Int) = n)) = some c := by
    rw [List.find?_eq_some_iff_getElem]
    obtain ⟨h1, h2⟩ := List.getElem?_eq_some_iff.1 hj
    refine ⟨by simpa using hc, j, h1, h2, fun i hi => ?_⟩
    have := h i cs[i] hi (List.getElem?_eq_getElem (by omega))
    simpa using this
  rw [this]
  rfl
theorem getC_nowhere {cs : List Cl} {n : Int} (h : ∀ (i : Nat) (d : Cl), cs[i]? = some d → (d.1 : Int) ≠ n) : getC cs n = none := by
  unfold getC
  have : cs.find? (fun c => decide ((c.1 : Int) = n)) = none := by
    rw [List.find?_eq_none]
    intro c hc
    obtain ⟨i, hi⟩ := List.getElem?_of_mem hc
    simpa using h i c hi
  rw [this]
  rfl

set_option maxHeartbeats 8000000 in
set_option maxRecDepth 100000 in
theorem rget_any (A : Option Addr) (n c : Nat) (L : List Vol) (nm : ByteArray) (hsz : nm.size ≤ maxLen) (nu : Int) (w : World) (G : Nat → Prop) (h : VSl w G A n c L) (hl : L.length ≤ 100000) (o : List UInt8) (b : Bool) (k : Int) (hk : getL L nm nu = (o, b, k)) (OL : List Value) (hOL : OL = Lib.byteCells o) :
    Calls Tryz.prog 9 #[.slice A n c, .string nm, .int .i64 nu] w fun e w' => e = .returned (.tuple #[.agg OL.toArray, .bool b, .int .i64 k]) ∧ Below w.heap.size w w' := by
  obtain ⟨ZL, hZL⟩ : ∃ ZL, ZL = Lib.byteCells zeros := ⟨_, rfl⟩
  have HZi := Lib.hid (show (Tryz.prog.info? 29).map (·.size) = some ZL.toArray.size by rw [hZL]; simpa [Lib.byteCells, zeros] using digInfo)
  have HZ1 := Lib.hid (show ZL.toArray.all (·.oneCell') = true by rw [hZL]; exact dig_one _)
  have HZb := Lib.hid (show Tryz.prog.built 29 [] = some ZL.toArray by rw [hZL]; exact digBuilt)
  obtain ⟨w1, hw1⟩ : ∃ z, z = w.alloc (.cells (Lib.byteCells zeros).toArray 29) := ⟨_, rfl⟩
  have hb1 : Below w.heap.size w w1 := by rw [hw1]; exact (Below.refl _ _).alloc (Nat.le_refl _) _
  have hR : Arr w1 w.heap.size 29 ZL := by rw [hw1, hZL]; exact Arr.new w _ _
  have h1 := h.below hb1
  have Hf := Lib.hid (h1.find nm hsz)
  have HW1 := Lib.hid hw1
  have Hb1 := Lib.hid hb1
  have HOL := Lib.hid hOL
  have HZL := Lib.hid hZL
  clear hw1 hb1 hOL hZL h
  unfold getL at hk
  cases hfv : findV L nm with
  | none =>
    rw [hfv] at hk
    simp only [Prod.mk.injEq] at hk
    obtain ⟨rfl, rfl, rfl⟩ := hk
    have hm1 : findI L nm = -1 := findI_has.2 (by rw [hasV_find, hfv]; rfl)
    rw [hm1] at Hf
    have HOLz : Hid (OL = ZL) := by rw [HZL.out]; exact HOL
    clear h1 hfv hm1
    go_enter Tryz.func9, Tryz.ntmps9
    go_upto_region 1 with fail
    change Code.wp _ _ _ _ (w.alloc (.cells (Lib.byteCells zeros).toArray 29))
    rw [← HW1.out]
    go_wp2_with fail
    refine Calls.mono Hf.out ?_
    rintro e w' ⟨rfl, rfl⟩
    clear Hf HW1
    go_wp2_with (first | (refine wpList_builtV rfl _ _ rfl [] rfl ZL.toArray HZb.out ?_) | (refine wpList_store_row rfl _ _ _ rfl w.heap.size ZL.toArray rfl rfl 29 ZL.toArray hR HZi.out rfl HZ1.out ?_))
    have hset := hR.setRow ZL
    have HE := Lib.hid (Hb1.out.trans (((Only.refl (fun b => b = w.heap.size) w1).setRow (g := w.heap.size) (.inl rfl) ZL.toArray).below (B := w.heap.size) Hb1.out.size (by rintro i rfl; exact Nat.le_refl _)))
    (try simp only [Exit.inBlock, Exit.then])
    obtain ⟨V, hV⟩ : ∃ V, V = Value.tuple #[.agg ZL.toArray, .bool false, .int .i64 5] := ⟨_, rfl⟩
    refine bodyPost_ret (v := V) ?hx1 ?h2 ?h3
    case hx1 => rw [hV]; exact results_cell3 (fn := Tryz.f9) (by rfl) _ _ w.heap.size 29 ZL.toArray (0, 0) _ (by rfl) _ _ (by rfl) (by rfl) hset Tryz.underlying29 rfl HZi.out
    case h2 => rfl
    case h3 => exact ⟨by rw [hV, HOLz.out], HE.out⟩
  | some v =>
    rw [hfv] at hk
    dsimp only at hk
    obtain ⟨i, hi, hLi⟩ := findI_at hfv
    rw [hi] at Hf
    obtain ⟨bb, off, rfl, hin, Ac, cc, a0, a1, a2, a3, hvx, _⟩ := h1.at_ hLi
    have hcn : n ≤ c ∧ c ≤ 9223372036854775807 ∧ n ≤ 100000 := by
      obtain ⟨xs, hx, hn', hc, hm, _⟩ := h1
      unfold maxLen at hm
      rw [← hx, List.length_map, hn'] at hl
      exact ⟨hc, by omega, hl⟩
    cases hn : numB nu with
    | false =>
      rw [hn, if_neg (by simp)] at hk
      simp only [Prod.mk.injEq] at hk
      obtain ⟨rfl, rfl, rfl⟩ := hk
      have hno := numB_no hn
      have HOLz : Hid (OL = ZL) := by rw [HZL.out]; exact HOL
      clear h1 hfv hi hLi hvx hn a0 a1 a2 a3
      by_cases h0 : nu < 0
      · have hd : decide (nu < 0) = true := by simpa using h0
        go_enter Tryz.func9, Tryz.ntmps9
        go_upto_region 1 with fail
        change Code.wp _ _ _ _ (w.alloc (.cells (Lib.byteCells zeros).toArray 29))
        rw [← HW1.out]
        go_wp2_with fail
        refine Calls.mono Hf.out ?_
        rintro e w' ⟨rfl, rfl⟩
        clear Hf HW1
        go_wp2_with (first | (refine wpList_builtV rfl _ _ rfl [] rfl ZL.toArray HZb.out ?_) | (refine wpList_store_row rfl _ _ _ rfl w.heap.size ZL.toArray rfl rfl 29 ZL.toArray hR HZi.out rfl HZ1.out ?_))
        have hset := hR.setRow ZL
        have HE := Lib.hid (Hb1.out.trans (((Only.refl (fun b => b = w.heap.size) w1).setRow (g := w.heap.size) (.inl rfl) ZL.toArray).below (B := w.heap.size) Hb1.out.size (by rintro i rfl; exact Nat.le_refl _)))
        (try simp only [Exit.inBlock, Exit.then])
        obtain ⟨V, hV⟩ : ∃ V, V = Value.tuple #[.agg ZL.toArray, .bool false, .int .i64 2] := ⟨_, rfl⟩
        refine bodyPost_ret (v := V) ?hx1 ?h2 ?h3
        case hx1 => rw [hV]; exact results_cell3 (fn := Tryz.f9) (by rfl) _ _ w.heap.size 29 ZL.toArray (0, 0) _ (by rfl) _ _ (by rfl) (by rfl) hset Tryz.underlying29 rfl HZi.out
        case h2 => rfl
        case h3 => exact ⟨by rw [hV, HOLz.out], HE.out⟩
      · have hd : decide (nu < 0) = false := by simpa using h0
        have hd2 : decide (nu ≥ 1048576) = true := by simp; omega
        go_enter Tryz.func9, Tryz.ntmps9
        go_upto_region 1 with fail
        change Code.wp _ _ _ _ (w.alloc (.cells (Lib.byteCells zeros).toArray 29))
        rw [← HW1.out]
        go_wp2_with fail
        refine Calls.mono Hf.out ?_
        rintro e w' ⟨rfl, rfl⟩
        clear Hf HW1
        go_wp2_with (first | (refine wpList_builtV rfl _ _ rfl [] rfl ZL.toArray HZb.out ?_) | (refine wpList_store_row rfl _ _ _ rfl w.heap.size ZL.toArray rfl rfl 29 ZL.toArray hR HZi.out rfl HZ1.out ?_))
        have hset := hR.setRow ZL
        have HE := Lib.hid (Hb1.out.trans (((Only.refl (fun b => b = w.heap.size) w1).setRow (g := w.heap.size) (.inl rfl) ZL.toArray).below (B := w.heap.size) Hb1.out.size (by rintro i rfl; exact Nat.le_refl _)))
        (try simp only [Exit.inBlock, Exit.then])
        obtain ⟨V, hV⟩ : ∃ V, V = Value.tuple #[.agg ZL.toArray, .bool false, .int .i64 2] := ⟨_, rfl⟩
        refine bodyPost_ret (v := V) ?hx1 ?h2 ?h3
        case hx1 => rw [hV]; exact results_cell3 (fn := Tryz.f9) (by rfl) _ _ w.heap.size 29 ZL.toArray (0, 0) _ (by rfl) _ _ (by rfl) (by rfl) hset Tryz.underlying29 rfl HZi.out
        case h2 => rfl
        case h3 => exact ⟨by rw [hV, HOLz.out], HE.out⟩
    | true =>
      rw [hn, if_pos rfl] at hk
      simp only [Prod.mk.injEq] at hk
      obtain ⟨ho, hb, rfl⟩ := hk
      have hyes := numB_yes hn
      have hd : decide (nu < 0) = false := by simp; omega
      have hd2 : decide (nu ≥ 1048576) = false := by simp; omega
      obtain ⟨lx, hlx⟩ : ∃ z, v.cells.length = z := ⟨_, rfl⟩
      rw [hlx] at a3
      have hlc : lx ≤ cc ∧ cc ≤ 9223372036854775807 ∧ lx ≤ 1048576 := by
        have e1 : v.cells.length ≤ cc := hvx.le
        have e2 : cc ≤ maxLen := hvx.lim
        have e3 : v.cells.length ≤ 1048576 := hvx.len
        rw [hlx] at e1 e3
        unfold maxLen at e2
        omega
      have Hvx := Lib.hid hvx
      have Hlx := Lib.hid hlx
      have Ho := Lib.hid ho
      have Hb := Lib.hid hb
      clear h1 hfv hi hLi hvx hn a0 a1 a2 hlx ho hb
      go_enter Tryz.func9, Tryz.ntmps9
      go_upto_region 1 with fail
      change Code.wp _ _ _ _ (w.alloc (.cells (Lib.byteCells zeros).toArray 29))
      rw [← HW1.out]
      go_wp2_with fail
      refine Calls.mono Hf.out ?_
      rintro e w' ⟨rfl, rfl⟩
      clear Hf HW1
      go_wp2_with fail
      go_loop [10] (fun i => ∃ j : Nat, j ≤ lx ∧ i = .int .i64 j ∧ Hid (∀ (t : Nat) (d : Cl), t < j → v.cells[t]? = some d → (d.1 : Int) ≠ nu)) (fun i => lx - (Go.RowKit.intOf i).toNat)
      case atStart => exact ⟨0, Nat.zero_le _, rfl, fun t d ht => by omega⟩
      case round =>
        obtain ⟨j, hj, rfl, Hj⟩ := hrel
        by_cases hjl : j < lx
        · have hd3 : decide ((j : Int) < (lx : Int)) = true := by simp; omega
          have hjx : j < v.cells.length := by rw [Hlx.out]; exact hjl
          obtain ⟨d, hdj⟩ : ∃ z, v.cells[j]? = some z := ⟨_, List.getElem?_eq_getElem hjx⟩
          obtain ⟨cb, coff, hax, hcb, hx32, hrx⟩ := Hvx.out.cell (x := ⟨v, Ac, cc⟩) hdj
          have hax' : Ac = some ⟨cb, coff, none⟩ := hax
          have Hvx2 := Hvx.out
          have ho' : getC v.cells nu = getC v.cells nu := rfl
          subst hax'
          have c0 : World.cell? _ ⟨cb, coff + j * 33, none⟩ = some (.int .i64 (d.1 : Nat)) := hrx 0 _ rfl
          obtain ⟨dn, hdn⟩ : ∃ z, d.1 = z := ⟨_, rfl⟩
          rw [hdn] at c0
          obtain ⟨DL, hDL⟩ : ∃ z, z = Lib.byteCells d.2 := ⟨_, rfl⟩
          have hrD : World.rangeAt _ cb (coff + j * 33 + 1) DL := fun t u ht => by
            rw [hDL] at ht
            rw [Nat.add_assoc]
            have := hrx (1 + t) u (by unfold cellC; rw [Nat.add_comm 1 t, List.getElem?_cons_succ]; exact ht)
            exact this
          have HDi := Lib.hid (show (Tryz.prog.info? 29).map (·.size) = some DL.length by rw [hDL, Lib.byteCells_length, hx32]; exact digInfo)
          have HDj := Lib.hid (show (Tryz.prog.info? 29).map (·.size) = some DL.toArray.size by rw [List.size_toArray, hDL, Lib.byteCells_length, hx32]; exact digInfo)
          have HD1 := Lib.hid (show DL.toArray.all (·.oneCell') = true by rw [hDL]; exact dig_one _)
          have HDz := Lib.hid (show ZL.toArray.size = DL.toArray.size by rw [HZL.out, hDL, List.size_toArray, List.size_toArray, Lib.byteCells_length, Lib.byteCells_length, hx32]; rfl)
          have Hdj := Lib.hid hdj
          have Hdn := Lib.hid hdn
          have HDL := Lib.hid hDL
          clear hdj hx32 hrx hdn hDL hax Hvx2 ho' hjx
          by_cases he : (dn : Int) = nu
          · have hq : ((dn : Int) == nu) = true := by simpa using he
            have Hg := Lib.hid (getC_first Hdj.out (by rw [Hdn.out]; exact he) Hj.out)
            have HOLz : Hid (OL = DL) := by
              have e := Ho.out
              unfold atC at e
              rw [Hg.out] at e
              rw [HDL.out, show d.2 = o from e]
              exact HOL
            have Hb2 : Hid (b = true) := by rw [← Hb.out, hasC_get, Hg.out]; rfl
            clear he
            go_wp2_with (first | (refine wpList_load_mid rfl _ _ rfl cb (coff + j * 33 + 1) rfl DL _ hrD Tryz.underlying29 rfl HDi.out ?_) | (refine wpList_store_row rfl _ _ _ rfl w.heap.size DL.toArray rfl rfl 29 ZL.toArray hR HDj.out HDz.out HD1.out ?_))
            have hset := hR.setRow DL
            have HE := Lib.hid (Hb1.out.trans (((Only.refl (fun b => b = w.heap.size) w1).setRow (g := w.heap.size) (.inl rfl) DL.toArray).below (B := w.heap.size) Hb1.out.size (by rintro i rfl; exact Nat.le_refl _)))
            (try simp only [Exit.inBlock, Exit.then])
            obtain ⟨V, hV⟩ : ∃ V, V = Value.tuple #[.agg DL.toArray, .bool true, .int .i64 0] := ⟨_, rfl⟩
            refine bodyPost_ret (v := V) ?hx1 ?h2 ?h3
            case hx1 => rw [hV]; exact results_cell3 (fn := Tryz.f9) (by rfl) _ _ w.heap.size 29 DL.toArray (0, 0) _ (by rfl) _ _ (by rfl) (by rfl) hset Tryz.underlying29 rfl HDj.out
            case h2 => rfl
            case h3 => exact ⟨by rw [hV, HOLz.out, Hb2.out], HE.out⟩
          · have hq : ((dn : Int) == nu) = false := by simpa using he
            have Hj2 : Hid (∀ (t : Nat) (e : Cl), t < j + 1 → v.cells[t]? = some e → (e.1 : Int) ≠ nu) := fun t e ht hte => by
              by_cases ej : t = j
              · subst ej; rw [Hdj.out] at hte; injection hte with hte; rw [← hte, Hdn.out]; exact he
              · exact Hj.out t e (by omega) hte
            clear he
            go_wp2_with fail
            go_round
            case rel => exact ⟨j + 1, by omega, by go_num, Hj2⟩
            case measure => simp [Go.RowKit.intOf]; omega
        · obtain rfl : j = lx := by omega
          have hd3 : decide (j < j) = false := by simp
          have Hg := Lib.hid (getC_nowhere (cs := v.cells) (n := nu) fun t d ht => Hj.out t d (by have := (List.getElem?_eq_some_iff.1 ht).1; rw [Hlx.out] at this; exact this) ht)
          have HOLz : Hid (OL = ZL) := by
            have e := Ho.out
            unfold atC at e
            rw [Hg.out] at e
            rw [HZL.out, show zeros = o from e]
            exact HOL
          have Hb2 : Hid (b = false) := by rw [← Hb.out, hasC_get, Hg.out]; rfl
          go_wp2_with (first | (refine wpList_builtV rfl _ _ rfl [] rfl ZL.toArray HZb.out ?_) | (refine wpList_store_row rfl _ _ _ rfl w.heap.size ZL.toArray rfl rfl 29 ZL.toArray hR HZi.out rfl HZ1.out ?_))
          have hset := hR.setRow ZL
          have HE := Lib.hid (Hb1.out.trans (((Only.refl (fun b => b = w.heap.size) w1).setRow (g := w.heap.size) (.inl rfl) ZL.toArray).below (B := w.heap.size) Hb1.out.size (by rintro i rfl; exact Nat.le_refl _)))
          (try simp only [Exit.inBlock, Exit.then])
          obtain ⟨V, hV⟩ : ∃ V, V = Value.tuple #[.agg ZL.toArray, .bool false, .int .i64 0] := ⟨_, rfl⟩
          refine bodyPost_ret (v := V) ?hx1 ?h2 ?h3
          case hx1 => rw [hV]; exact results_cell3 (fn := Tryz.f9) (by rfl) _ _ w.heap.size 29 ZL.toArray (0, 0) _ (by rfl) _ _ (by rfl) (by rfl) hset Tryz.underlying29 rfl HZi.out
          case h2 => rfl
          case h3 => exact ⟨by rw [hV, HOLz.out, Hb2.out], HE.out⟩

end Go.Proofs.YtcajhndhjlfmaaaGreat

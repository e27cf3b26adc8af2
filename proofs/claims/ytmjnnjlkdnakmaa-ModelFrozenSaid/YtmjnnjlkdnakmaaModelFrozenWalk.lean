/-
  The law ModelFrozen.
-/
import Derived.Test.YtmjnnjlkdnakmaaModFrozenMath
import Derived.Test.YtmjnnjlkdnakmaaModImages
import Derived.Test.YtmjnnjlkdnakmaaModSame
namespace Go.Proofs.Ytmjnnjlkdnakmaa
open Go.RowKit
set_option linter.unusedVariables false
set_option linter.unusedSimpArgs false

/-- A whole array is read, under a guard that holds. -/
theorem wpList_load_row_if {P : Program} {ops : Array Oper} {rest : List Oper} {o : Oper} {a : Act} {w : World} {Q : Exit → Act → World → Prop} (hw : Region.wanted o (yielded ops a.tmps) = true) (ty : TypeId) (x : Operand) (ho : o.op = .load ty x) (g : Nat) (hx : a.eval x = .pointer (some ⟨g, 0, none⟩))
    (t : TypeId) (cs : Array Value) (d : TypeDesc) (hg : w.heap[g]? = some (.cells cs t (0, 0))) (hu : P.underlying ty = some d) (hd : (match d with | .struct _ | .array _ _ => true | _ => false) = true) (hi : (P.info? ty).map (·.size) = some cs.size)
    (h : wpList P ops Q rest (a.put o.dst (.agg cs)) w) : wpList P ops Q (o :: rest) a w :=
  wpList_step fun K hK => by
    rw [if_pos hw]
    unfold Oper.wp execOp
    simp only [ho, hx, Sem.run_bind, run_loadAt_row w g t ty cs d hg hu hd hi, Result.andThen_ok]
    exact hK _ _ h

theorem newF_not {F : Nat → Prop} {w w' : World} {g : Nat} (h : ¬ F g) (hl : g < w.heap.size) : ¬ newF F w w' g := by
  rintro (h1 | h1)
  · exact h h1
  · omega
theorem OpsAt.more {w : World} {B B' : Nat} {A : Option Addr} {xs : List Op15} (h : OpsAt w B A xs) (hB : B ≤ B') : OpsAt w B' A xs :=
  ⟨h.1, fun hp => by obtain ⟨b, off, e, hlt, hc⟩ := h.2 hp; exact ⟨b, off, e, by omega, hc⟩⟩
theorem wpList_builtV_if {P : Program} {ops : Array Oper} {rest : List Oper} {o : Oper} {a : Act} {w : World} {Q : Exit → Act → World → Prop} (hw : Region.wanted o (yielded ops a.tmps) = true) (t : TypeId) (parts : Array (Nat × Operand)) (ho : o.op = .build t parts)
    (ps : List (Nat × Value)) (hp : parts.toList.map (fun x => (x.1, a.eval x.2)) = ps) (cells : Array Value) (hf : P.built t ps = some cells)
    (h : wpList P ops Q rest (a.put o.dst (.agg cells)) w) : wpList P ops Q (o :: rest) a w :=
  wpList_step fun K hK => by
    rw [if_pos hw]
    have hf2 : P.built t (parts.map fun (i, x) => (i, a.eval x)).toList = some cells := by rw [← hf, ← hp]; simp
    refine wp_build t parts ho (by rw [hf2]; rfl) ?_
    rw [hf2]
    exact hK _ _ h
theorem VsAt.at4 {w : World} {G : Nat → Prop} {A : Option Addr} {xs : List Vx} (h : VsAt w G A xs) {i : Nat} {x : Vx} (hi : xs[i]? = some x) : ∃ b off, A = some ⟨b, off, none⟩ ∧ b < w.heap.size ∧ w.rangeAt b (off + i * 4) (volC x) := by
  obtain ⟨b, off, e, hg, hlt, hr⟩ := h.1 (by have := (List.getElem?_eq_some_iff.1 hi).1; omega)
  exact ⟨b, off, e, hlt, hr i x hi⟩

theorem VsAt.sub {w : World} {G : Nat → Prop} {b off : Nat} {xs : List Vx} (h : VsAt w G (some ⟨b, off, none⟩) xs) {i : Nat} {x : Vx} (hi : xs[i]? = some x) : VsAt w G (some ⟨b, off + i * 4, none⟩) [x] := by
  refine ⟨fun _ => ?_, fun y hy => by rw [List.mem_singleton] at hy; rw [hy]; exact h.2 x (List.mem_of_getElem? hi)⟩
  obtain ⟨b', off', e, hg, hlt, hr⟩ := h.1 (by have := (List.getElem?_eq_some_iff.1 hi).1; omega)
  injection e with e
  injection e with e1 e2
  subst e1 e2
  refine ⟨b, off + i * 4, rfl, hg, hlt, fun j y hj t v ht => ?_⟩
  cases j with
  | zero =>
    simp at hj
    subst hj
    rw [Nat.zero_mul, Nat.add_zero]
    exact hr i x hi t v ht
  | succ j => simp at hj

theorem VsAt.one {w : World} {g : Nat} {x : Vx} {VL : List Value} {G : Nat → Prop} (hV : VL = volC x) (hg : Arr w g 51 VL) (hx : VxOk w G x) : VsAt w (fun b => G b ∨ b = g) (some ⟨g, 0, none⟩) [x] := by
  refine ⟨fun _ => ⟨g, 0, rfl, .inr rfl, hg.lt, fun j y hj t v ht => ?_⟩, fun y hy => by rw [List.mem_singleton] at hy; rw [hy]; exact hx.keep (Nat.le_refl _) (fun _ _ _ => rfl) fun _ _ h => .inl h⟩
  cases j with
  | zero =>
    simp at hj
    subst hj
    rw [Nat.zero_mul, Nat.add_zero, Nat.zero_add, hg.cell, hV]
    exact ht
  | succ j => simp at hj

theorem volC_one_arr (x : Vx) : (volC x).toArray.all (·.oneCell') = true := all_one (volC_one x)
theorem nmK_list : nmK.toList = [107, 101, 112, 116, 45, 97, 115, 45, 105, 116, 45, 105, 115] := by rw [ba_toList]; rfl
theorem imSize : (Try.prog.info? 51).map (·.size) = some 4 := by kernel_rfl

set_option maxHeartbeats 32000000 in
set_option maxRecDepth 100000 in
theorem mfrozen_walk (A : Option Addr) (n c : Nat) (xs : List Op15) (hn : xs.length = n) (hc : n ≤ c) (hm : c ≤ maxLen) (A' : Option Addr) (n' c' : Nat) (ys : List Op15) (hn' : ys.length = n') (hc' : n' ≤ c') (hm' : c' ≤ maxLen) (nm : ByteArray) (hsz : nm.size ≤ maxLen) (w : World) (hxs : OpsAt w w.heap.size A xs) (hys : OpsAt w w.heap.size A' ys) :
    Calls Try.prog 5 #[.slice A n c, .slice A' n' c', .string nm] w fun e w' => e = .returned (.bool true) ∧ Below w.heap.size w w' := by
  have hsz' := hsz
  unfold maxLen at hm hm' hsz'
  obtain ⟨AZ, hAZ⟩ : ∃ z, z = ansZ := ⟨_, rfl⟩
  obtain ⟨OZ, hOZ⟩ : ∃ z, z = opZ := ⟨_, rfl⟩
  obtain ⟨SL, hSL⟩ : ∃ z, z = opC (opS nm) := ⟨_, rfl⟩
  have HZO := Lib.hid (fun w : World => show (zeroValue 31).run Try.prog w = .ok (.agg OZ.toArray) w by rw [hOZ]; exact opZero w)
  have HOZ := Lib.hid (show OZ.toArray.size = 53 by rw [hOZ]; rfl)
  have HbS := Lib.hid (show Try.prog.built 31 [(0, .int .i64 6), (1, .string nm), (2, .string ⟨#[107, 101, 112, 116, 45, 97, 115, 45, 105, 116, 45, 105, 115]⟩)] = some SL.toArray by rw [hSL]; exact bS_built nm)
  have HSL := Lib.hid hSL
  have Hn := Lib.hid hn
  have Hxs := Lib.hid hxs
  have Hn' := Lib.hid hn'
  have Hys := Lib.hid hys
  clear hAZ hOZ hn hxs hn' hys hSL
  go_enter Try.func5, Try.ntmps5
  go_wp2_with fail
  refine Calls.mono (speaks15_any w) ?_
  rintro e w2 ⟨rfl, hb2⟩
  obtain ⟨gr, hgr⟩ : ∃ z, great15 xs = z := ⟨_, rfl⟩
  have Hgr := Lib.hid (great15_any xs A n c w2 Hn.out hc hm ((Hxs.out.below hb2 (Nat.le_refl _)).more hb2.size))
  rw [hgr] at Hgr
  go_wp2_with fail
  refine Calls.mono Hgr.out ?_
  rintro e w3 ⟨rfl, hb3⟩
  have hbw3 := hb2.trans (hb3.mono hb2.size)
  clear Hgr hb2 hb3
  cases gr with
  | true =>
    go_wp2_with fail
    go_ret
    exact ⟨rfl, hbw3⟩
  | false =>
    have hg80 := (great15_no hgr).1
    rw [Hn.out] at hg80
    clear hgr
    obtain ⟨gr, hgr⟩ : ∃ z, great15 ys = z := ⟨_, rfl⟩
    have Hgr := Lib.hid (great15_any ys A' n' c' w3 Hn'.out hc' hm' ((Hys.out.below hbw3 (Nat.le_refl _)).more hbw3.size))
    rw [hgr] at Hgr
    go_wp2_with fail
    refine Calls.mono Hgr.out ?_
    rintro e w5 ⟨rfl, hb5⟩
    have hbw5 := hbw3.trans (hb5.mono hbw3.size)
    clear Hgr hbw3 hb5
    cases gr with
    | true =>
      go_wp2_with fail
      go_ret
      exact ⟨rfl, hbw5⟩
    | false =>
      have hg81 := (great15_no hgr).1
      rw [Hn'.out] at hg81
      clear hgr
      by_cases hlong : 100 < nm.size
      · have hd : decide ((nm.size : Int) > (100 : Int)) = true := by simp; omega
        have hd' : decide ((100 : Int) < (nm.size : Int)) = true := by simp; omega
        go_wp2_with fail
        go_ret
        exact ⟨rfl, hbw5⟩
      · have hdl : decide ((nm.size : Int) > (100 : Int)) = false := by simp; omega
        have hdl' : decide ((100 : Int) < (nm.size : Int)) = false := by simp; omega
        go_wp2_with fail
        refine Calls.mono (mnew_any w5) ?_
        rintro e w6 ⟨s, rfl, hs6, hM6, hb6⟩
        clear hdl hdl'
        obtain ⟨B1, hB1⟩ : ∃ z, z = w5.heap.size := ⟨_, rfl⟩
        have hwB : w.heap.size ≤ B1 := by rw [hB1]; exact hbw5.size
        have hF6 : ∀ b, newF (fun _ => False) w5 w6 b → B1 ≤ b := fun b h => h.elim (fun h => h.elim) fun h => by rw [hB1]; exact h.1
        obtain ⟨F6, hFe⟩ : ∃ z, z = newF (fun _ => False) w5 w6 := ⟨_, rfl⟩
        rw [← hFe] at hF6 hM6
        rw [← hB1] at hb6
        have Hxs5 := Lib.hid (Hxs.out.below hbw5 (Nat.le_refl _))
        have Hys5 := Lib.hid (Hys.out.below hbw5 (Nat.le_refl _))
        have Hbw5 := Lib.hid hbw5
        have HB1 := Lib.hid hB1
        clear hFe hbw5 hB1
        go_wp2_with fail
        go_loopw [31] (fun i wr => ∃ (k : Nat) (F : Nat → Prop) (L : List Vol), k ≤ n ∧ i = .int .i64 k ∧ MdL wr F s L ∧ Hid (L.length ≤ k) ∧ Hid (∀ b, F b → B1 ≤ b) ∧ Below B1 w5 wr) (fun i _ => n - (Go.RowKit.intOf i).toNat)
        case atStart => exact ⟨0, F6, [], Nat.zero_le _, rfl, hM6, Nat.le_refl _, Lib.hid hF6, hb6⟩
        case round =>
          clear hM6 hF6 hb6
          obtain ⟨k, F, L, hk, rfl, hM, HL, HF, hbr⟩ := hrel
          by_cases hlt : k < n
          · have hd1 : decide ((k : Int) < (n : Int)) = true := by simp; omega
            obtain ⟨x, hx⟩ : ∃ x, xs[k]? = some x := ⟨xs[k]'(by rw [Hn.out]; exact hlt), List.getElem?_eq_getElem _⟩
            obtain ⟨b, off, rfl, hblk, hrow⟩ := Hxs5.out.2 (by rw [Hn.out]; omega)
            have hxo := Hxs5.out.1 x (List.mem_of_getElem? hx)
            obtain ⟨VL, hVL⟩ : ∃ VL, VL = opC x := ⟨_, rfl⟩
            have hVl : VL.length = 53 := by rw [hVL, opC_length hxo.b48]
            have hrg : wr.rangeAt b (off + k * 53) VL := fun j v hj => by
              rw [hVL] at hj
              rw [← hrow k x hx j v hj]
              exact World.cell?_of_block (hbr.block b (by have := hwB; omega))
            have HVi := Lib.hid (show (Try.prog.info? 31).map (·.size) = some VL.length by rw [hVl]; exact opSize)
            have HVj := Lib.hid (show (Try.prog.info? 31).map (·.size) = some VL.toArray.size by rw [List.size_toArray, hVl]; exact opSize)
            have HV1 := Lib.hid (show VL.toArray.all (·.oneCell') = true by rw [hVL]; exact all_oneCell_toArray (opC_one x))
            have HVz := Lib.hid (show OZ.toArray.size = VL.toArray.size by rw [HOZ.out, List.size_toArray, hVl])
            obtain ⟨wa, hwa⟩ : ∃ W, W = (wr.alloc (.cells OZ.toArray 31)).setRow wr.heap.size VL.toArray := ⟨_, rfl⟩
            obtain ⟨hVa, hbra⟩ := alloc_row wr 31 OZ.toArray VL
            rw [← hwa] at hVa hbra
            have Hwa := Lib.hid hwa
            have HVL := Lib.hid hVL
            have Hx := Lib.hid hx
            have Hxo := Lib.hid hxo
            clear hwa hx hrow hVL hVl hxo
            have hMa := hM.below hbra
            have hba : Below B1 w5 wa := hbr.trans (hbra.mono (by have := hbr.size; rw [HB1.out]; exact this))
            have hBa : B1 ≤ wa.heap.size := by have := hba.size; rw [HB1.out]; exact this
            have HVa := Lib.hid hVa
            clear hM hbra hbr hVa
            go_upto_region 9 with (first | (refine wpList_load_mid rfl _ _ rfl b (off + k * 53) rfl VL _ hrg Try.underlying31 rfl HVi.out ?_) | (refine wpList_allocZC rfl 31 rfl OZ.toArray (HZO.out _) ?_) | (refine wpList_store_row rfl _ _ _ rfl wr.heap.size VL.toArray rfl rfl 31 OZ.toArray (heap_alloc_new wr _) HVj.out HVz.out HV1.out ?_; rw [← Hwa.out]))
            clear hrg
            go_wp2_with (first | ((with_reducible refine wpList_at 36 (by rfl) ?_); refine wpList_load_row rfl 31 _ rfl wr.heap.size rfl 31 VL.toArray (0, 0) _ HVa.out Try.underlying31 rfl HVj.out ?_))
            refine Calls.mono (do_any s x Hxo.out VL HVL.out wa F L hMa (by have := HL.out; omega)) ?_
            rintro e w8 hd
            obtain ⟨A8, rfl, _, hM8, hO8⟩ := do_open hMa hd
            have hb8 : Below B1 w5 w8 := hba.trans (hO8.below hBa HF.out)
            have hF8 : ∀ b, newF F wa w8 b → B1 ≤ b := fun b h => h.elim (HF.out b) fun h => Nat.le_trans hBa h.1
            have hl8 : (doL L x).1.length ≤ k + 1 := by have := doL_length L x; have := HL.out; omega
            obtain ⟨F8, hFe⟩ : ∃ z, z = newF F wa w8 := ⟨_, rfl⟩
            obtain ⟨L8, hLe⟩ : ∃ z, z = (doL L x).1 := ⟨_, rfl⟩
            rw [← hFe] at hM8 hF8
            rw [← hLe] at hM8 hl8
            have HF8 := Lib.hid hF8
            have HL8 := Lib.hid hl8
            clear hFe hLe hF8 hl8 hd hO8 hMa hba
            go_wp2_with fail
            go_roundw
            case rel => exact ⟨k + 1, F8, L8, by omega, by go_num, hM8, HL8, HF8, hb8⟩
            case measure => (simp [Go.RowKit.intOf]; try omega)
          · have hd1 : decide ((k : Int) < (n : Int)) = false := by simp; omega
            have hL80 : L.length ≤ 80 := by have := HL.out; omega
            have hBr : B1 ≤ wr.heap.size := by have := hbr.size; rw [HB1.out]; exact this
            go_wp2_with (first | (refine wpList_builtV rfl _ _ rfl _ rfl SL.toArray HbS.out ?_))
            refine Calls.mono (do_any s (opS nm) (opS_ok hsz) SL HSL.out wr F L hM (by omega)) ?_
            rintro e w8 hd
            obtain ⟨A8, rfl, hf8, hM8, hO8⟩ := do_open hM hd
            have hb8 : Below B1 w5 w8 := hbr.trans (hO8.below hBr HF.out)
            have hF8 : ∀ b, newF F wr w8 b → B1 ≤ b := fun b h => h.elim (HF.out b) fun h => Nat.le_trans hBr h.1
            have hl8 : (doL L (opS nm)).1.length ≤ 81 := by have := doL_length L (opS nm); omega
            have hsn := snap_found L nm
            have hfl := ans_f0 hf8
            obtain ⟨F8, hFe⟩ : ∃ z, z = newF F wr w8 := ⟨_, rfl⟩
            obtain ⟨L8, hLe⟩ : ∃ z, z = (doL L (opS nm)).1 := ⟨_, rfl⟩
            obtain ⟨k8, hk8⟩ : ∃ z, z = (doL L (opS nm)).2.k := ⟨_, rfl⟩
            rw [← hFe] at hM8 hF8
            rw [← hLe] at hM8 hl8
            rw [← hLe, ← hk8] at hsn
            rw [← hk8] at hfl
            have hbw8 : Below w.heap.size w w8 := Hbw5.out.trans (hb8.mono hwB)
            clear hFe hLe hk8 hd hO8 hM hbr hf8
            by_cases hz : k8 = 0
            · have hkn : (k8 != 0) = false := by simpa using hz
              obtain ⟨v0, hv0, hvf, hvn⟩ := hsn hz
              have hB8 : B1 ≤ w8.heap.size := by have := hb8.size; rw [HB1.out]; exact this
              go_wp2_with fail
              refine Calls.mono (images_any s w8 F8 L8 hM8 (by omega)) ?_
              rintro e w9 ⟨A9, c9, zs, rfl, hz1, hz2, hz3, hz4, hb9⟩
              clear hfl
              obtain ⟨i, hi1, hi2⟩ := findI_of hv0
              obtain ⟨n9, hn9⟩ : ∃ z, zs.length = z := ⟨_, rfl⟩
              obtain ⟨x0, hx0, hxv⟩ : ∃ x0, zs[i]? = some x0 ∧ x0.v = v0 := by
                rw [← hz4, List.getElem?_map] at hi2
                cases hzi : zs[i]? with
                | none => rw [hzi] at hi2; cases hi2
                | some x0 => rw [hzi] at hi2; injection hi2 with hi2; exact ⟨x0, rfl, hi2⟩
              have hil : i < n9 := by rw [← hn9]; exact (List.getElem?_eq_some_iff.1 hx0).1
              obtain ⟨b9, off9, rfl, hb9l, hr9⟩ := hz3.at4 hx0
              have hox := hz3.2 x0 (List.mem_of_getElem? hx0)
              obtain ⟨WL, hWL⟩ : ∃ z, z = volC x0 := ⟨_, rfl⟩
              rw [← hWL] at hr9
              have HWn := Lib.hid (show (Try.prog.info? 51).map (·.size) = some WL.length by rw [hWL]; exact imSize)
              have HWi := Lib.hid (show (Try.prog.info? 51).map (·.size) = some WL.toArray.size ∧ (#[.string ⟨#[]⟩, .int .i64 0, .bool false, .slice none 0 0] : Array Value).size = WL.toArray.size from ⟨by rw [hWL]; exact imSize, by rw [hWL]; rfl⟩)
              have HW1 := Lib.hid (show WL.toArray.all (·.oneCell') = true by rw [hWL]; exact volC_one_arr x0)
              have hz2' : c9 ≤ 9223372036854775807 := by unfold maxLen at hz2; omega
              rw [hn9] at hz1 ⊢
              have Hf := Lib.hid (find12_any (some ⟨b9, off9, none⟩) n9 c9 zs nmK (by decide) w9 _ hz3 hn9 hz1 hz2)
              rw [hz4, hi1] at Hf
              have HWL := Lib.hid hWL
              have Hvz := Lib.hid hvf
              have Hxv := Lib.hid hxv
              have Hvf := Lib.hid hvf
              have Hv0 := Lib.hid hv0
              have Hox := Lib.hid hox
              have hM9 := hM8.below hb9
              have hF8l := hM8.lt
              have hs9 := hb9.size
              have hb9w : Below B1 w5 w9 := hb8.trans (hb9.mono hB8)
              have hdi : decide ((i : Int) < (n9 : Int)) = true := by simp; omega
              clear hWL hxv hvf hv0 hox hi2 hx0 hn9 hz3 hz4 hM8 hb9 hsn hb8 hbw8 hi1
              go_wp2_with fail
              refine Calls.mono Hf.out ?_
              rintro e w9' ⟨rfl, hwe⟩
              subst hwe
              clear Hf
              obtain ⟨g11, hg11⟩ : ∃ z, z = w9.heap.size := ⟨_, rfl⟩
              have Hg11 := Lib.hid hg11
              clear hg11
              go_upto_region 15 with (first | (refine wpList_load_mid rfl _ _ rfl b9 (off9 + i * 4) rfl WL _ hr9 Try.underlying51 rfl HWn.out ?_) | (change wpList _ _ _ _ _ (w9.alloc (.cells (#[.string ⟨#[]⟩, .int .i64 0, .bool false, .slice none 0 0] : Array Value) 51)); refine wpList_store_row rfl _ _ _ rfl w9.heap.size WL.toArray rfl rfl 51 (#[.string ⟨#[]⟩, .int .i64 0, .bool false, .slice none 0 0] : Array Value) (heap_alloc_new w9 _) HWi.out.1 HWi.out.2 HW1.out ?_; obtain ⟨w10, hw10⟩ : ∃ x, x = (w9.alloc (.cells (#[.string ⟨#[]⟩, .int .i64 0, .bool false, .slice none 0 0] : Array Value) 51)).setRow w9.heap.size WL.toArray := ⟨_, rfl⟩; rw [← hw10]; obtain ⟨hP10, hb10⟩ := alloc_row w9 51 (#[.string ⟨#[]⟩, .int .i64 0, .bool false, .slice none 0 0] : Array Value) WL; rw [← hw10] at hP10 hb10; clear hw10))
              rw [← Hg11.out] at hP10 ⊢
              have HP10 := Lib.hid hP10
              have Hox10 := Lib.hid (Hox.out.keep (G' := fun b => w8.heap.size ≤ b ∧ b < w9.heap.size) hb10.size (fun b _ hlt => hb10.block b hlt) (fun b hlt h => ⟨h, hlt⟩))
              have hM10 := hM9.below hb10
              have hF9 : ∀ b, F8 b → b < w8.heap.size := hF8l
              have hs10 := hb10.size
              have hb10w : Below B1 w5 w10 := hb9w.trans (hb10.mono (by have := hb9w.size; rw [HB1.out]; exact this))
              obtain ⟨wI, hwI⟩ : ∃ z, z = w8.heap.size := ⟨_, rfl⟩
              obtain ⟨wJ, hwJ⟩ : ∃ z, z = w10.heap.size := ⟨_, rfl⟩
              have hgJ : wI ≤ g11 ∧ g11 < wJ := ⟨by rw [hwI, Hg11.out]; exact hs9, by rw [hwJ]; exact hP10.lt⟩
              have hIJ : wI ≤ wJ := by omega
              have hox10 : VxOk w10 (fun b => wI ≤ b ∧ b < wJ) x0 := Hox10.out.keep (Nat.le_refl _) (fun _ _ _ => rfl) (fun b _ h => ⟨by rw [hwI]; exact h.1, by rw [hwJ]; exact Nat.lt_of_lt_of_le h.2 hs10⟩)
              have HOX := Lib.hid hox10
              have HF10 := Lib.hid (show ∀ b, F8 b → B1 ≤ b ∧ ¬ (wI ≤ b ∧ b < wJ) from fun b h => ⟨hF8 b h, fun h2 => by have := hF9 b h; omega⟩)
              have HwJ := Lib.hid hwJ
              have hB10 : B1 ≤ wJ := by have := hb10w.size; rw [HB1.out, hwJ]; exact this
              clear hox10 Hox10 Hox hF9 hF8l hF8 hM9 hb9w hs9 hs10 hP10 hb10 hr9 hb9l hwI hwJ hdi hz1 hz2 hz2' hil
              go_wp2_with fail
              go_loopw [54] (fun i ws => ∃ (k : Nat) (F : Nat → Prop) (L : List Vol), k ≤ n' ∧ i = .int .i64 k ∧ MdL ws F s L ∧ Hid (L.length ≤ 81 + k) ∧ Hid (findV L nmK = some v0) ∧ Hid (∀ b, F b → B1 ≤ b ∧ ¬ (wI ≤ b ∧ b < wJ)) ∧ Hid (∀ b, wI ≤ b ∧ b < wJ → ws.heap[b]? = w10.heap[b]?) ∧ wJ ≤ ws.heap.size ∧ Below B1 w5 ws) (fun i _ => n' - (Go.RowKit.intOf i).toNat)
              case atStart => exact ⟨0, F8, L8, Nat.zero_le _, rfl, hM10, Lib.hid (by omega), Hv0, HF10, Lib.hid (fun _ _ => rfl), Nat.le_of_eq HwJ.out, hb10w⟩
              case round =>
                clear hM10 hb10w Hv0 HF10 HF HL
                obtain ⟨k, F, L, hk, rfl, hM, HL, Hfd, HF, HK, hJr, hbr⟩ := hrel
                by_cases hlt : k < n'
                · have hd1 : decide ((k : Int) < (n' : Int)) = true := by simp; omega
                  obtain ⟨x, hx⟩ : ∃ x, ys[k]? = some x := ⟨ys[k]'(by rw [Hn'.out]; exact hlt), List.getElem?_eq_getElem _⟩
                  obtain ⟨b, off, rfl, hblk, hrow⟩ := Hys5.out.2 (by rw [Hn'.out]; omega)
                  have hxo := Hys5.out.1 x (List.mem_of_getElem? hx)
                  obtain ⟨VL, hVL⟩ : ∃ VL, VL = opC x := ⟨_, rfl⟩
                  have hVl : VL.length = 53 := by rw [hVL, opC_length hxo.b48]
                  have hrg : wr.rangeAt b (off + k * 53) VL := fun j v hj => by
                    rw [hVL] at hj
                    rw [← hrow k x hx j v hj]
                    exact World.cell?_of_block (hbr.block b (by have := hwB; omega))
                  have HVi := Lib.hid (show (Try.prog.info? 31).map (·.size) = some VL.length by rw [hVl]; exact opSize)
                  have HVj := Lib.hid (show (Try.prog.info? 31).map (·.size) = some VL.toArray.size by rw [List.size_toArray, hVl]; exact opSize)
                  have HV1 := Lib.hid (show VL.toArray.all (·.oneCell') = true by rw [hVL]; exact all_oneCell_toArray (opC_one x))
                  have HVz := Lib.hid (show OZ.toArray.size = VL.toArray.size by rw [HOZ.out, List.size_toArray, hVl])
                  obtain ⟨wa, hwa⟩ : ∃ W, W = (wr.alloc (.cells OZ.toArray 31)).setRow wr.heap.size VL.toArray := ⟨_, rfl⟩
                  obtain ⟨hVa, hbra⟩ := alloc_row wr 31 OZ.toArray VL
                  rw [← hwa] at hVa hbra
                  have Hwa := Lib.hid hwa
                  have HVL := Lib.hid hVL
                  have Hx := Lib.hid hx
                  have Hxo := Lib.hid hxo
                  clear hwa hx hrow hVL hVl hxo
                  have hMa := hM.below hbra
                  have hba : Below B1 w5 wa := hbr.trans (hbra.mono (by have := hbr.size; rw [HB1.out]; exact this))
                  have hBa : B1 ≤ wa.heap.size := by have := hba.size; rw [HB1.out]; exact this
                  have hJa : wJ ≤ wa.heap.size := Nat.le_trans hJr hbra.size
                  have HKa := Lib.hid (show ∀ b, wI ≤ b ∧ b < wJ → wa.heap[b]? = w10.heap[b]? from fun b hb => (hbra.block b (by omega)).trans (HK.out b hb))
                  obtain ⟨hx0, hx1, _⟩ := c12_cells hVa HVL.out
                  have HVa := Lib.hid hVa
                  obtain ⟨kx, hkx⟩ : ∃ z, z = x.kind := ⟨_, rfl⟩
                  obtain ⟨sx, hsx⟩ : ∃ z, z = x.name := ⟨_, rfl⟩
                  rw [← hkx] at hx0
                  rw [← hsx] at hx1
                  have Hkx := Lib.hid hkx
                  have Hsx := Lib.hid hsx
                  clear hM hbra hbr hVa hJr hkx hsx HK
                  go_upto_region 18 with (first | (refine wpList_load_mid rfl _ _ rfl b (off + k * 53) rfl VL _ hrg Try.underlying31 rfl HVi.out ?_) | (refine wpList_allocZC rfl 31 rfl OZ.toArray (HZO.out _) ?_) | (refine wpList_store_row rfl _ _ _ rfl wr.heap.size VL.toArray rfl rfl 31 OZ.toArray (heap_alloc_new wr _) HVj.out HVz.out HV1.out ?_; rw [← Hwa.out]))
                  clear hrg
                  by_cases h2 : kx = 2
                  · have hd2 : decide (kx = 2) = true := by simpa using h2
                    by_cases h3 : sx = nmK
                    · have hq : (sx.toList == [107, 101, 112, 116, 45, 97, 115, 45, 105, 116, 45, 105, 115]) = true := by have := ba_eq h3; rw [nmK_list] at this; exact this
                      clear h3
                      go_wp2_with fail
                      go_roundw
                      case rel => exact ⟨k + 1, F, L, by omega, by go_num, hMa, Lib.hid (by have := HL.out; omega), Hfd, HF, HKa, hJa, hba⟩
                      case measure => (simp [Go.RowKit.intOf]; try omega)
                    · have hq : (sx.toList == [107, 101, 112, 116, 45, 97, 115, 45, 105, 116, 45, 105, 115]) = false := by have := ba_ne h3; rw [nmK_list] at this; exact this
                      have hno := Lib.hid (show ¬ (x.kind = 2 ∧ x.name = nmK) from fun e => h3 (by rw [Hsx.out]; exact e.2))
                      clear h3
                      go_wp2_with (first | ((with_reducible refine wpList_at 67 (by rfl) ?_); refine wpList_load_row rfl 31 _ rfl wr.heap.size rfl 31 VL.toArray (0, 0) _ HVa.out Try.underlying31 rfl HVj.out ?_))
                      refine Calls.mono (do_any s x Hxo.out VL HVL.out wa F L hMa (by have := HL.out; omega)) ?_
                      rintro e wb hd
                      obtain ⟨Ab, rfl, _, hMb, hOb⟩ := do_open hMa hd
                      have hfb := Lib.hid (frozen_step Hfd.out Hvz.out hno.out)
                      have hbb : Below B1 w5 wb := hba.trans (hOb.below hBa fun b hb => (HF.out b hb).1)
                      have HFb := Lib.hid (show ∀ b, newF F wa wb b → B1 ≤ b ∧ ¬ (wI ≤ b ∧ b < wJ) from fun b h => h.elim (HF.out b) fun h => ⟨Nat.le_trans hBa h.1, fun h2 => by omega⟩)
                      have HKb := Lib.hid (show ∀ b, wI ≤ b ∧ b < wJ → wb.heap[b]? = w10.heap[b]? from fun b hb => (hOb.block b (by omega) (fun e => (HF.out b e).2 hb)).trans (HKa.out b hb))
                      have HLb := Lib.hid (show (doL L x).1.length ≤ 81 + (k + 1) by have := doL_length L x; have := HL.out; omega)
                      have hJb : wJ ≤ wb.heap.size := Nat.le_trans hJa hOb.size
                      clear hd hOb hMa hba hx0 hx1
                      go_wp2_with fail
                      go_roundw
                      case rel => exact ⟨k + 1, _, _, by omega, by go_num, hMb, HLb, hfb, HFb, HKb, hJb, hbb⟩
                      case measure => (simp [Go.RowKit.intOf]; try omega)
                  · have hd2 : decide (kx = 2) = false := by simpa using h2
                    have hno := Lib.hid (show ¬ (x.kind = 2 ∧ x.name = nmK) from fun e => h2 (by rw [Hkx.out]; exact e.1))
                    go_wp2_with (first | ((with_reducible refine wpList_at 67 (by rfl) ?_); refine wpList_load_row rfl 31 _ rfl wr.heap.size rfl 31 VL.toArray (0, 0) _ HVa.out Try.underlying31 rfl HVj.out ?_))
                    refine Calls.mono (do_any s x Hxo.out VL HVL.out wa F L hMa (by have := HL.out; omega)) ?_
                    rintro e wb hd
                    obtain ⟨Ab, rfl, _, hMb, hOb⟩ := do_open hMa hd
                    have hfb := Lib.hid (frozen_step Hfd.out Hvz.out hno.out)
                    have hbb : Below B1 w5 wb := hba.trans (hOb.below hBa fun b hb => (HF.out b hb).1)
                    have HFb := Lib.hid (show ∀ b, newF F wa wb b → B1 ≤ b ∧ ¬ (wI ≤ b ∧ b < wJ) from fun b h => h.elim (HF.out b) fun h => ⟨Nat.le_trans hBa h.1, fun h2 => by omega⟩)
                    have HKb := Lib.hid (show ∀ b, wI ≤ b ∧ b < wJ → wb.heap[b]? = w10.heap[b]? from fun b hb => (hOb.block b (by omega) (fun e => (HF.out b e).2 hb)).trans (HKa.out b hb))
                    have HLb := Lib.hid (show (doL L x).1.length ≤ 81 + (k + 1) by have := doL_length L x; have := HL.out; omega)
                    have hJb : wJ ≤ wb.heap.size := Nat.le_trans hJa hOb.size
                    clear hd hOb hMa hba hx0 hx1
                    go_wp2_with fail
                    go_roundw
                    case rel => exact ⟨k + 1, _, _, by omega, by go_num, hMb, HLb, hfb, HFb, HKb, hJb, hbb⟩
                    case measure => (simp [Go.RowKit.intOf]; try omega)
                · have hd1 : decide ((k : Int) < (n' : Int)) = false := by simp; omega
                  have hl161 : L.length ≤ 161 := by have := HL.out; omega
                  go_wp2_with fail
                  refine Calls.mono (images_any s wr F L hM (by omega)) ?_
                  rintro e wa ⟨A2, c2, zs2, rfl, hy1, hy2, hy3, hy4, hba⟩
                  obtain ⟨i2, hi1, hi2⟩ := findI_of Hfd.out
                  obtain ⟨n2, hn2⟩ : ∃ z, zs2.length = z := ⟨_, rfl⟩
                  obtain ⟨x2, hx2, hxv2⟩ : ∃ x2, zs2[i2]? = some x2 ∧ x2.v = v0 := by
                    rw [← hy4, List.getElem?_map] at hi2
                    cases hzi : zs2[i2]? with
                    | none => rw [hzi] at hi2; cases hi2
                    | some x2 => rw [hzi] at hi2; injection hi2 with hi2; exact ⟨x2, rfl, hi2⟩
                  have hil2 : i2 < n2 := by rw [← hn2]; exact (List.getElem?_eq_some_iff.1 hx2).1
                  obtain ⟨b2, off2, rfl, hb2l, hr2⟩ := hy3.at4 hx2
                  have hy2' : c2 ≤ 9223372036854775807 := by unfold maxLen at hy2; omega
                  rw [hn2] at hy1 ⊢
                  have Hf := Lib.hid (find12_any (some ⟨b2, off2, none⟩) n2 c2 zs2 nmK (by decide) wa _ hy3 hn2 hy1 hy2)
                  rw [hy4, hi1] at Hf
                  have Hsub := Lib.hid (hy3.sub hx2)
                  have Hxv2 := Lib.hid hxv2
                  have hKa : ∀ b, wI ≤ b ∧ b < wJ → wa.heap[b]? = w10.heap[b]? := fun b hb => (hba.block b (by omega)).trans (HK.out b hb)
                  have hWa : Arr wa g11 51 WL := (hKa g11 hgJ).trans HP10.out
                  have hoxa : VxOk wa (fun b => wI ≤ b ∧ b < wJ) x0 := HOX.out.keep (by rw [← HwJ.out]; exact Nat.le_trans hJr hba.size) (fun b hb _ => hKa b hb) (fun _ _ h => h)
                  have HOXa := Lib.hid hoxa
                  have hbwa : Below w.heap.size w wa := (Hbw5.out.trans (hbr.mono hwB)).trans (hba.mono (by have := hbr.size; have := Hbw5.out.size; omega))
                  have hg2 : WL[2]? = some (.bool true) := by rw [HWL.out, ← Hvz.out, ← Hxv.out]; rfl
                  have HWa := Lib.hid hWa
                  have Hg2 := Lib.hid hg2
                  have HWl := Lib.hid (show WL.length = 4 by rw [HWL.out]; rfl)
                  have Hle := Lib.hid (show i2 < n2 ∧ n2 ≤ c2 ∧ c2 ≤ 9223372036854775807 from ⟨hil2, hy1, hy2'⟩)
                  have Hbwa := Lib.hid hbwa
                  have hgi : decide ((i2 : Int) ≥ 0) = true := by simp
                  have hgi' : decide ((0 : Int) ≤ (i2 : Int)) = true := by simp
                  clear hM hba hbr hi1 hi2 hn2 hx2 hxv2 hy3 hy4 hr2 hb2l hKa hWa hoxa hbwa hg2 HK HF HL hJr
                  go_wp2_with fail
                  refine Calls.mono Hf.out ?_
                  rintro e wa' ⟨rfl, hwe⟩
                  subst hwe
                  clear Hf
                  go_upto_region 23 with fail
                  have Hwrap := Lib.hid (show IntKind.i64.wrap ((i2 : Int) + 1) = (i2 : Int) + 1 from IntWalk.i64_in _ (by omega))
                  have Hsl1 := Lib.hid (show 0 ≤ (i2 : Int) + 1 ∧ (i2 : Int) + 1 ≤ (c2 : Int) by omega)
                  have Hsl2 := Lib.hid (show ¬ c2 = i2 by omega)
                  have HWn2 := Lib.hid (show (Try.prog.info? 51).map (·.size) = some WL.length by rw [HWl.out]; exact imSize)
                  refine wp_region_held_drew (S := fun w' => Arr w' g11 51 WL) (by kernel_rfl) HWa.out (fun hHeld => ?_)
                  refine anyH_take (i := 0) (v := .int .i64 (i2 : Nat)) (some 74) rfl rfl (by kernel_rfl) (by kernel_rfl) (by kernel_rfl) (fun _ _ _ h => h) (Or.inl ⟨by rfl, fun w' hw => by rfl⟩) (by assumption) ?_
                  simp only [Act.put, List.setIfInBounds_toArray, List.set_cons_zero, List.set_cons_succ]
                  refine anyH_take (i := 1) (v := .bool true) (some 75) rfl rfl (by kernel_rfl) (by kernel_rfl) (by kernel_rfl) (fun _ _ _ h => h) (Or.inl ⟨by rfl, fun w' hw => by (go_simp)⟩) (by assumption) ?_
                  simp only [Act.put, List.setIfInBounds_toArray, List.set_cons_zero, List.set_cons_succ]
                  refine anyH_take (i := 2) (v := .bool true) (some 76) rfl rfl (by kernel_rfl) (by kernel_rfl) (by kernel_rfl) (fun _ _ _ h => h) (Or.inl ⟨by rfl, fun w' hw => by (go_simp)⟩) (by assumption) ?_
                  simp only [Act.put, List.setIfInBounds_toArray, List.set_cons_zero, List.set_cons_succ]
                  refine anyH_take (i := 3) (v := .pointer (some ⟨g11, 2, none⟩)) (some 77) rfl rfl (by kernel_rfl) (by kernel_rfl) (by kernel_rfl) (fun _ _ _ h => h) (Or.inl ⟨by rfl, fun w' hw => by (go_simp)⟩) (by assumption) ?_
                  simp only [Act.put, List.setIfInBounds_toArray, List.set_cons_zero, List.set_cons_succ]
                  refine anyH_take (i := 4) (v := .bool true) (some 78) rfl rfl (by kernel_rfl) (by kernel_rfl) (by kernel_rfl) (fun _ _ _ h => h) (Or.inl ⟨by rfl, fun w' hw => by (have hcc : w'.cell? ⟨g11, 2, none⟩ = _ := (hw.cell 2).trans Hg2.out; go_simp)⟩) (by assumption) ?_
                  simp only [Act.put, List.setIfInBounds_toArray, List.set_cons_zero, List.set_cons_succ]
                  refine anyH_take (i := 5) (v := .bool true) (some 79) rfl rfl (by kernel_rfl) (by kernel_rfl) (by kernel_rfl) (fun _ _ _ h => h) (Or.inl ⟨by rfl, fun w' hw => by (go_simp)⟩) (by assumption) ?_
                  simp only [Act.put, List.setIfInBounds_toArray, List.set_cons_zero, List.set_cons_succ]
                  refine anyH_take (i := 6) (v := .bool true) (some 80) rfl rfl (by kernel_rfl) (by kernel_rfl) (by kernel_rfl) (fun _ _ _ h => h) (Or.inl ⟨by rfl, fun w' hw => by (go_simp)⟩) (by assumption) ?_
                  simp only [Act.put, List.setIfInBounds_toArray, List.set_cons_zero, List.set_cons_succ]
                  refine anyH_take (i := 7) (v := .slice (some ⟨b2, off2, none⟩) n2 c2) (some 81) rfl rfl (by kernel_rfl) (by kernel_rfl) (by kernel_rfl) (fun _ _ _ h => h) (Or.inl ⟨by rfl, fun w' hw => by (go_simp)⟩) (by assumption) ?_
                  simp only [Act.put, List.setIfInBounds_toArray, List.set_cons_zero, List.set_cons_succ]
                  refine anyH_take (i := 8) (v := .int .i64 (i2 : Nat)) (some 82) rfl rfl (by kernel_rfl) (by kernel_rfl) (by kernel_rfl) (fun _ _ _ h => h) (Or.inl ⟨by rfl, fun w' hw => by (go_simp)⟩) (by assumption) ?_
                  simp only [Act.put, List.setIfInBounds_toArray, List.set_cons_zero, List.set_cons_succ]
                  refine anyH_take (i := 9) (v := .int .i64 (i2 : Nat)) (some 83) rfl rfl (by kernel_rfl) (by kernel_rfl) (by kernel_rfl) (fun _ _ _ h => h) (Or.inl ⟨by rfl, fun w' hw => by (go_simp)⟩) (by assumption) ?_
                  simp only [Act.put, List.setIfInBounds_toArray, List.set_cons_zero, List.set_cons_succ]
                  refine anyH_take (i := 10) (v := .int .i64 ((i2 : Int) + 1)) (some 84) rfl rfl (by kernel_rfl) (by kernel_rfl) (by kernel_rfl) (fun _ _ _ h => h) (Or.inl ⟨by rfl, fun w' hw => by (have hwp := Hwrap.out; go_simp)⟩) (by assumption) ?_
                  simp only [Act.put, List.setIfInBounds_toArray, List.set_cons_zero, List.set_cons_succ]
                  refine anyH_take (i := 11) (v := .slice (some ⟨b2, off2 + i2 * 4, none⟩) 1 (c2 - i2)) (some 85) rfl rfl (by kernel_rfl) (by kernel_rfl) (by kernel_rfl) (fun _ _ _ h => h) (Or.inl ⟨by rfl, fun w' hw => by (go_simp; rw [if_pos Hsl1.out, if_neg Hsl2.out])⟩) (by assumption) ?_
                  simp only [Act.put, List.setIfInBounds_toArray, List.set_cons_zero, List.set_cons_succ]
                  refine anyH_take (i := 12) (some 86) rfl rfl (by kernel_rfl) (by kernel_rfl) (by kernel_rfl) (fun _ _ _ h => h) (yieldsIf_load_mid (by rfl) 51 (.tmp 11) rfl g11 0 rfl WL _ (fun w' h => (h).range) Try.underlying51 rfl HWn2.out) (by assumption) ?_
                  simp only [Act.put, List.setIfInBounds_toArray, List.set_cons_zero, List.set_cons_succ]
                  refine wpAnyH_ready (rs := [13]) (by kernel_rfl) (by simp) ?_
                  refine AllReadyH.cons rfl (fun K hK => ?_) AllReadyH.nil
                  rw [if_pos (by rfl)]
                  refine wp_build_vl (some 87) rfl _ rfl WL HWl.out rfl ?_
                  simp only [Act.put, List.setIfInBounds_toArray, List.set_cons_zero, List.set_cons_succ]
                  have hbb : Below wa.heap.size wa ((wa.drewN 1).alloc (.cells WL.toArray 51)) := (Below.dN (Below.refl _ wa) 1).alloc (Nat.le_refl _) _
                  refine hK.out _ _ (HWa.out.up hbb) (fun hHeldy => ?_)
                  clear hK K
                  try simp only [Act.put, List.setIfInBounds_toArray, List.set_cons_zero, List.set_cons_succ]
                  have hA9 : Arr ((wa.drewN 1).alloc (.cells WL.toArray 51)) wa.heap.size 51 WL := Arr.new (wa.drewN 1) 51 WL
                  have Hone := Lib.hid (VsAt.one HWL.out hA9 (HOXa.out.keep hbb.size (fun b _ hlt => hbb.block b hlt) fun _ _ h => h))
                  have Hsub9 := Lib.hid (Hsub.out.below hbb)
                  have hbf9 : Below w.heap.size w ((wa.drewN 1).alloc (.cells WL.toArray 51)) := Hbwa.out.trans (hbb.mono Hbwa.out.size)
                  have HWb := Lib.hid (HWa.out.up hbb)
                  obtain ⟨wf, hwf⟩ : ∃ x, x = (wa.drewN 1).alloc (.cells WL.toArray 51) := ⟨_, rfl⟩
                  change wpAnyH _ _ _ _ _ _ _ _ ((wa.drewN 1).alloc (.cells WL.toArray 51))
                  rw [← hwf] at Hone Hsub9 hbf9 HWb ⊢
                  clear hwf hA9 hbb
                  refine wpAnyH_ready (rs := [14]) (by kernel_rfl) (by simp) ?_
                  refine AllReadyH.cons rfl (fun K hK => ?_) AllReadyH.nil
                  go_simp
                  go_at_call 14
                  refine Calls.mono (same12_any _ _ 1 (c2 - i2) 1 1 [x2] [x0] wf _ _ Hsub9.out Hone.out rfl rfl (by omega) (by unfold maxLen; omega) (Nat.le_refl _) (by unfold maxLen; omega) true (by rw [List.map_cons, List.map_cons, Hxv2.out, Hxv.out]; simp)) ?_
                  rintro e wg ⟨rfl, nd, rfl⟩
                  go_wp2_with fail
                  refine hK.out _ _ (show Arr (wf.drewN nd) _ _ _ from HWb.out) (fun hHeldx => ?_)
                  clear hK K
                  try simp only [Act.put, List.setIfInBounds_toArray, List.set_cons_zero, List.set_cons_succ]
                  refine anyH_take (i := 15) (v := .bool true) (some 89) rfl rfl (by kernel_rfl) (by kernel_rfl) (by kernel_rfl) (fun _ _ _ h => h) (Or.inl ⟨by rfl, fun w' hw => by (go_simp)⟩) (by assumption) ?_
                  simp only [Act.put, List.setIfInBounds_toArray, List.set_cons_zero, List.set_cons_succ]
                  refine anyH_take (i := 16) (v := .bool true) (some 6) rfl rfl (by kernel_rfl) (by kernel_rfl) (by kernel_rfl) (fun _ _ _ h => h) (Or.inl ⟨by rfl, fun w' hw => by (go_simp)⟩) (by assumption) ?_
                  simp only [Act.put, List.setIfInBounds_toArray, List.set_cons_zero, List.set_cons_succ]
                  refine wpAnyH_done (by kernel_rfl) ?_ _
                  have Hbf := Lib.hid (Below.dN hbf9 nd)
                  go_wp2_with fail
                  go_ret
                  exact ⟨rfl, Hbf.out⟩
            · have hkn : (k8 != 0) = true := by simpa using hz
              go_wp2_with fail
              go_ret
              exact ⟨rfl, hbw8⟩
end Go.Proofs.Ytmjnnjlkdnakmaa

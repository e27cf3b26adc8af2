/-
  The law ModelQuiet.
-/
import Derived.Test.YtmjnnjlkdnakmaaModQuietMath
import Derived.Test.YtmjnnjlkdnakmaaModImages
import Derived.Test.YtmjnnjlkdnakmaaModSame
namespace Go.Proofs.Ytmjnnjlkdnakmaa
open Go.RowKit
set_option linter.unusedVariables false
set_option linter.unusedSimpArgs false

/-- A whole array is read, under a guard that holds. -/
theorem wpList_load_row_if {P : Program} {ops : Array Oper} {rest : List Oper} {o : Oper} {a : Act} {w : World} {Q : Exit → Act → World → Prop} (hw : Region.wanted o (yielded ops a.tmps) = true) (ty : TypeId) (x : Operand) (ho : o.op = .load ty x) (g : Nat) (hx : a.eval x = .pointer (some ⟨g, 0, none⟩))
    (t : TypeId) (cs : Array Value) (d : TypeDesc) (hg : w.heap[g]? = some (.cells cs t (0, 0))) (hu : P.underlying ty = some d) (hd : (match d with | .struct _ | .array _ _ => true | _ => false) = true) (hi : (P.info? ty).map (·.size) = some cs.size)
    (h : wpList P ops Q rest (a.put o.dst (.agg cs)) w) : wpList P ops Q (o :: rest) a w :=
  wpList_step fun K hK => by
    rw [if_pos hw]
    unfold Oper.wp execOp
    simp only [ho, hx, Sem.run_bind, run_loadAt_row w g t ty cs d hg hu hd hi, Result.andThen_ok]
    exact hK _ _ h

theorem newF_not {F : Nat → Prop} {w w' : World} {g : Nat} (h : ¬ F g) (hl : g < w.heap.size) : ¬ newF F w w' g := by
  rintro (h1 | h1)
  · exact h h1
  · omega
theorem OpsAt.more {w : World} {B B' : Nat} {A : Option Addr} {xs : List Op15} (h : OpsAt w B A xs) (hB : B ≤ B') : OpsAt w B' A xs :=
  ⟨h.1, fun hp => by obtain ⟨b, off, e, hlt, hc⟩ := h.2 hp; exact ⟨b, off, e, by omega, hc⟩⟩
theorem wpList_builtV_if {P : Program} {ops : Array Oper} {rest : List Oper} {o : Oper} {a : Act} {w : World} {Q : Exit → Act → World → Prop} (hw : Region.wanted o (yielded ops a.tmps) = true) (t : TypeId) (parts : Array (Nat × Operand)) (ho : o.op = .build t parts)
    (ps : List (Nat × Value)) (hp : parts.toList.map (fun x => (x.1, a.eval x.2)) = ps) (cells : Array Value) (hf : P.built t ps = some cells)
    (h : wpList P ops Q rest (a.put o.dst (.agg cells)) w) : wpList P ops Q (o :: rest) a w :=
  wpList_step fun K hK => by
    rw [if_pos hw]
    have hf2 : P.built t (parts.map fun (i, x) => (i, a.eval x)).toList = some cells := by rw [← hf, ← hp]; simp
    refine wp_build t parts ho (by rw [hf2]; rfl) ?_
    rw [hf2]
    exact hK _ _ h

set_option maxHeartbeats 32000000 in
set_option maxRecDepth 100000 in
theorem mquiet_walk (A : Option Addr) (n c : Nat) (xs : List Op15) (hn : xs.length = n) (hc : n ≤ c) (hm : c ≤ maxLen) (w : World) (hxs : OpsAt w w.heap.size A xs) :
    Calls Try.prog 4 #[.slice A n c] w fun e w' => e = .returned (.bool true) ∧ Below w.heap.size w w' := by
  unfold maxLen at hm
  obtain ⟨AZ, hAZ⟩ : ∃ z, z = ansZ := ⟨_, rfl⟩
  obtain ⟨OZ, hOZ⟩ : ∃ z, z = opZ := ⟨_, rfl⟩
  have HZA := Lib.hid (fun w : World => show (zeroValue 35).run Try.prog w = .ok (.agg AZ.toArray) w by rw [hAZ]; exact ansZero w)
  have HAi := Lib.hid (fun (AL : List Value) (h : AL.length = 51) => show (Try.prog.info? 35).map (·.size) = some AL.toArray.size ∧ AZ.toArray.size = AL.toArray.size by rw [List.size_toArray, List.size_toArray, h, hAZ]; exact ⟨ansSize, rfl⟩)
  have HZO := Lib.hid (fun w : World => show (zeroValue 31).run Try.prog w = .ok (.agg OZ.toArray) w by rw [hOZ]; exact opZero w)
  have HOZ := Lib.hid (show OZ.toArray.size = 53 by rw [hOZ]; rfl)
  have Hn := Lib.hid hn
  have Hxs := Lib.hid hxs
  clear hAZ hOZ hn hxs
  go_enter Try.func4, Try.ntmps4
  go_wp2_with fail
  refine Calls.mono (speaks15_any w) ?_
  rintro e w2 ⟨rfl, hb2⟩
  obtain ⟨gr, hgr⟩ : ∃ z, great15 xs = z := ⟨_, rfl⟩
  have Hgr := Lib.hid (great15_any xs A n c w2 Hn.out hc hm ((Hxs.out.below hb2 (Nat.le_refl _)).more hb2.size))
  rw [hgr] at Hgr
  go_wp2_with fail
  refine Calls.mono Hgr.out ?_
  rintro e w5 ⟨rfl, hb5⟩
  have hbw5 := hb2.trans (hb5.mono hb2.size)
  clear Hgr hb2 hb5
  cases gr with
  | true =>
    go_wp2_with fail
    go_ret
    exact ⟨rfl, hbw5⟩
  | false =>
    have hg80 := (great15_no hgr).1
    rw [Hn.out] at hg80
    clear hgr
    go_wp2_with fail
    refine Calls.mono (mnew_any w5) ?_
    rintro e w6 ⟨s, rfl, hs6, hM6, hb6⟩
    obtain ⟨B1, hB1⟩ : ∃ z, z = w5.heap.size := ⟨_, rfl⟩
    have hwB : w.heap.size ≤ B1 := by rw [hB1]; exact hbw5.size
    have hF6 : ∀ b, newF (fun _ => False) w5 w6 b → B1 ≤ b := fun b h => h.elim (fun h => h.elim) fun h => by rw [hB1]; exact h.1
    obtain ⟨F6, hFe⟩ : ∃ z, z = newF (fun _ => False) w5 w6 := ⟨_, rfl⟩
    rw [← hFe] at hF6 hM6
    rw [← hB1] at hb6
    have Hxs5 := Lib.hid (Hxs.out.below hbw5 (Nat.le_refl _))
    have Hbw5 := Lib.hid hbw5
    have HB1 := Lib.hid hB1
    clear hFe hbw5 hB1
    go_wp2_with fail
    go_loopw [15] (fun i wr => ∃ (k : Nat) (F : Nat → Prop) (L : List Vol), k ≤ n ∧ i = .int .i64 k ∧ MdL wr F s L ∧ Hid (L.length ≤ k) ∧ Hid (∀ b, F b → B1 ≤ b) ∧ Below B1 w5 wr) (fun i _ => n - (Go.RowKit.intOf i).toNat)
    case atStart => exact ⟨0, F6, [], Nat.zero_le _, rfl, hM6, Nat.le_refl _, Lib.hid hF6, hb6⟩
    case round =>
      clear hM6 hF6 hb6
      obtain ⟨k, F, L, hk, rfl, hM, HL, HF, hbr⟩ := hrel
      by_cases hlt : k < n
      · have hd1 : decide ((k : Int) < (n : Int)) = true := by simp; omega
        obtain ⟨x, hx⟩ : ∃ x, xs[k]? = some x := ⟨xs[k]'(by rw [Hn.out]; exact hlt), List.getElem?_eq_getElem _⟩
        obtain ⟨b, off, rfl, hblk, hrow⟩ := Hxs5.out.2 (by rw [Hn.out]; omega)
        have hxo := Hxs5.out.1 x (List.mem_of_getElem? hx)
        obtain ⟨VL, hVL⟩ : ∃ VL, VL = opC x := ⟨_, rfl⟩
        have hVl : VL.length = 53 := by rw [hVL, opC_length hxo.b48]
        have hrg : wr.rangeAt b (off + k * 53) VL := fun j v hj => by
          rw [hVL] at hj
          rw [← hrow k x hx j v hj]
          exact World.cell?_of_block (hbr.block b (by have := hwB; omega))
        have HVi := Lib.hid (show (Try.prog.info? 31).map (·.size) = some VL.length by rw [hVl]; exact opSize)
        have HVj := Lib.hid (show (Try.prog.info? 31).map (·.size) = some VL.toArray.size by rw [List.size_toArray, hVl]; exact opSize)
        have HV1 := Lib.hid (show VL.toArray.all (·.oneCell') = true by rw [hVL]; exact all_oneCell_toArray (opC_one x))
        have HVz := Lib.hid (show OZ.toArray.size = VL.toArray.size by rw [HOZ.out, List.size_toArray, hVl])
        obtain ⟨wa, hwa⟩ : ∃ W, W = (wr.alloc (.cells OZ.toArray 31)).setRow wr.heap.size VL.toArray := ⟨_, rfl⟩
        obtain ⟨hVa, hbra⟩ := alloc_row wr 31 OZ.toArray VL
        rw [← hwa] at hVa hbra
        have Hwa := Lib.hid hwa
        have HVL := Lib.hid hVL
        have Hx := Lib.hid hx
        have Hxo := Lib.hid hxo
        clear hwa hx hrow hVL hVl hxo
        have hMa := hM.below hbra
        have hba : Below B1 w5 wa := hbr.trans (hbra.mono (by have := hbr.size; rw [HB1.out]; exact this))
        have hBa : B1 ≤ wa.heap.size := by have := hba.size; rw [HB1.out]; exact this
        obtain ⟨gx, hgx⟩ : ∃ z, z = wr.heap.size := ⟨_, rfl⟩
        have Hgx := Lib.hid hgx
        have HNG := Lib.hid (show ¬ F gx from fun e => by have := hM.lt gx e; omega)
        rw [← hgx] at hVa
        clear hM hbra hbr hgx
        go_upto_region 9 with (first | (refine wpList_load_mid rfl _ _ rfl b (off + k * 53) rfl VL _ hrg Try.underlying31 rfl HVi.out ?_) | (refine wpList_allocZC rfl 31 rfl OZ.toArray (HZO.out _) ?_) | (refine wpList_store_row rfl _ _ _ rfl wr.heap.size VL.toArray rfl rfl 31 OZ.toArray (heap_alloc_new wr _) HVj.out HVz.out HV1.out ?_; rw [← Hwa.out]))
        rw [← Hgx.out]
        clear hrg
        have hL80 : L.length ≤ 80 := by have := HL.out; omega
        go_wp2_with fail
        refine Calls.mono (images_any s wa F L hMa (by omega)) ?_
        rintro e w7 ⟨A7, c7, ys, rfl, hy1, hy2, hy3, hy4, hb7⟩
        have hM7 := hMa.below hb7
        have hV7 := hVa.up hb7
        have hFa : ∀ b, F b → b < wa.heap.size := hMa.lt
        have HV7 := Lib.hid hV7
        have HY3 := Lib.hid hy3
        have HY4 := Lib.hid hy4
        obtain ⟨ny, hny⟩ : ∃ z, ys.length = z := ⟨_, rfl⟩
        rw [hny] at hy1 ⊢
        have Hny := Lib.hid hny
        have hb7w : Below B1 w5 w7 := hba.trans (hb7.mono hBa)
        have hs7 := hb7.size
        have hng := HNG.out
        clear hMa hba hb7 hVa hy3 hy4 hny hV7
        go_wp2_with (first | ((with_reducible refine wpList_at 22 (by rfl) ?_); refine wpList_load_row rfl 31 _ rfl gx rfl 31 VL.toArray (0, 0) _ HV7.out Try.underlying31 rfl HVj.out ?_))
        obtain ⟨L8, a8, hdo⟩ : ∃ L' a', doL L x = (L', a') := ⟨_, _, rfl⟩
        have Hq1 := Lib.hid (show a8.k ≠ 0 → L8 = L ∧ a8 = aE a8.k from fun h => by have := do_quiet L x (by rw [hdo]; exact h); rw [hdo] at this; exact this)
        have Hq2 := Lib.hid (show changesB x.kind = false → L8 = L from fun h => by have := do_still L x h; rw [hdo] at this; exact this)
        have hl8 : L8.length ≤ k + 1 := by have := doL_length L x; rw [hdo] at this; have := HL.out; dsimp only at *; omega
        refine Calls.mono (do_any s x Hxo.out VL HVL.out w7 F L hM7 (by omega)) ?_
        rintro e w8 hd
        obtain ⟨A8, rfl, hf8, hM8, hO8⟩ := do_open hM7 hd
        rw [hdo] at hf8 hM8
        dsimp only at hf8 hM8
        have hB7 : B1 ≤ w7.heap.size := by have := hb7w.size; rw [HB1.out]; exact this
        have hb8 : Below B1 w5 w8 := hb7w.trans (hO8.below hB7 HF.out)
        have hF8 : ∀ b, newF F w7 w8 b → B1 ≤ b := fun b h => h.elim (HF.out b) fun h => Nat.le_trans hB7 h.1
        have hV8 := only_arr HV7.out hO8 hng
        have hY8 := HY3.out.only hO8 (fun b hb e => by have := hFa b e; omega)
        obtain ⟨F8, hFe⟩ : ∃ z, z = newF F w7 w8 := ⟨_, rfl⟩
        rw [← hFe] at hM8 hF8
        have HF8 := Lib.hid hF8
        have HL8 := Lib.hid hl8
        have hAi := Lib.hid (HAi.out A8 hf8.len)
        have hOne := Lib.hid hf8.one
        have Hf8 := Lib.hid hf8
        obtain ⟨ga, hga⟩ : ∃ z, z = w8.heap.size := ⟨_, rfl⟩
        have Hga := Lib.hid hga
        clear hFe hF8 hl8 hd hO8 hM7 hf8 hdo hga hng hFa
        go_upto_region 11 with (first | (refine wpList_allocZC rfl 35 rfl AZ.toArray (HZA.out _) ?_) | (change wpList _ _ _ _ _ (w8.alloc (.cells AZ.toArray 35)); refine wpList_store_row rfl _ _ _ rfl w8.heap.size A8.toArray rfl rfl 35 AZ.toArray (heap_alloc_new w8 _) hAi.out.1 hAi.out.2 hOne.out ?_; obtain ⟨w9, hw9⟩ : ∃ x, x = (w8.alloc (.cells AZ.toArray 35)).setRow w8.heap.size A8.toArray := ⟨_, rfl⟩; rw [← hw9]; obtain ⟨hPx, hby⟩ := alloc_row w8 35 AZ.toArray A8; rw [← hw9] at hPx hby; clear hw9))
        rw [← Hga.out] at hPx ⊢
        have hf9 := Hf8.out.up hby
        have hV9 := hV8.up hby
        have hY9 := hY8.below hby
        have hM9 := hM8.below hby
        have hb9 : Below B1 w5 w9 := hb8.trans (hby.mono (by have := hb8.size; rw [HB1.out]; exact this))
        have a0 : w9.cell? ⟨ga, 0, none⟩ = some (.int .i64 a8.k) := by rw [hPx.cell]; exact hf9.c0
        have x0 : w9.cell? ⟨gx, 0, none⟩ = some (.int .i64 x.kind) := (c12_cells hV9 HVL.out).1
        have Hca := Lib.hid hPx
        have Hf9 := Lib.hid hf9
        have HY9 := Lib.hid hY9
        have hB9 : B1 ≤ w9.heap.size := by have := hb9.size; rw [HB1.out]; exact this
        obtain ⟨kx, hkx⟩ : ∃ z, z = x.kind := ⟨_, rfl⟩
        rw [← hkx] at x0 Hq2
        clear hAi hOne hPx hby hV8 hY8 hM8 hb8 hf9 hV9 hY9 Hf8 hkx Hga
        have hl82 : L8.length ≤ 82 := by have := HL8.out; omega
        obtain ⟨k8, hk8⟩ : ∃ z, z = a8.k := ⟨_, rfl⟩
        rw [← hk8] at a0
        have Hk8 := Lib.hid hk8
        clear hk8
        by_cases hz : k8 = 0
        · subst hz
          have hkn : ((0 : Int) != 0) = false := by simp
          obtain ⟨ch, hch⟩ : ∃ z, changesB kx = z := ⟨_, rfl⟩
          go_wp2_with fail
          refine Calls.mono (changes_any kx w9 ch hch) ?_
          rintro e w10 ⟨rfl, hwx⟩
          subst hwx
          cases ch with
          | true =>
            go_wp2_with fail
            go_roundw
            case rel => exact ⟨k + 1, F8, L8, by omega, by go_num, hM9, HL8, HF8, hb9⟩
            case measure => (simp [Go.RowKit.intOf]; try omega)
          | false =>
            have hLL := Hq2.out hch
            go_wp2_with fail
            refine Calls.mono (images_any s w9 F8 L8 hM9 (by omega)) ?_
            rintro e w10 ⟨A10, c10, zs, rfl, hz1, hz2, hz3, hz4, hb10⟩
            have hM11 := hM9.below hb10
            have hY10 := HY9.out.below hb10
            have hb11 : Below B1 w5 w10 := hb9.trans (hb10.mono hB9)
            go_wp2_with fail
            refine Calls.mono (same12_any A10 A7 zs.length c10 ny c7 zs ys w10 _ _ hz3 hY10 rfl Hny.out hz1 hz2 hy1 hy2 true (by rw [hz4, HY4.out, hLL]; simp)) ?_
            rintro e w11 ⟨rfl, j, rfl⟩
            have hM11 : MdL (w10.drewN j) F8 s L8 := hM11.below (Below.dN (Below.refl _ _) j)
            have hb11 : Below B1 w5 (w10.drewN j) := Below.dN hb11 j
            clear hz3 hz4 hY10 hM9 hb9
            have a0' : (w10.drewN j).cell? ⟨ga, 0, none⟩ = some (.int .i64 0) := (World.cell?_of_block (hb10.block ga Hca.out.lt)).trans a0
            have Hb11 := Lib.hid hb11
            clear hb10 a0 x0
            go_wp2_with fail
            go_roundw
            case rel => exact ⟨k + 1, F8, L8, by omega, by go_num, hM11, HL8, HF8, Hb11.out⟩
            case measure => (simp [Go.RowKit.intOf]; try omega)
        · have hkn : (k8 != 0) = true := by simpa using hz
          obtain ⟨hLL, hae⟩ := Hq1.out (by rw [← Hk8.out]; exact hz)
          have hfe := Hf9.out
          rw [hae] at hfe
          obtain ⟨An, cn, hAn⟩ := ans_err hfe
          rw [← Hk8.out] at hAn
          have HAn := Lib.hid hAn
          obtain ⟨EL, hEL⟩ : ∃ z, z = ansC k8 false (Lib.byteCells zB) nilS := ⟨_, rfl⟩
          have HEL := Lib.hid hEL
          have HEt := Lib.hid (show Try.prog.built 35 [(0, .int .i64 k8)] = some EL.toArray by rw [hEL]; exact ans_b0 k8)
          have HAs := Lib.hid (show (Try.prog.info? 35).map (·.size) = some A8.toArray.size by rw [List.size_toArray, Hf9.out.len]; exact ansSize)
          clear hfe hAn hEL hae
          go_wp2_with fail
          refine Calls.mono (images_any s w9 F8 L8 hM9 (by omega)) ?_
          rintro e w10 ⟨A10, c10, zs, rfl, hz1, hz2, hz3, hz4, hb10⟩
          have hM11 := hM9.below hb10
          have hY10 := HY9.out.below hb10
          have hb11 : Below B1 w5 w10 := hb9.trans (hb10.mono hB9)
          go_wp2_with fail
          refine Calls.mono (same12_any A10 A7 zs.length c10 ny c7 zs ys w10 _ _ hz3 hY10 rfl Hny.out hz1 hz2 hy1 hy2 true (by rw [hz4, HY4.out, hLL]; simp)) ?_
          rintro e w11 ⟨rfl, j, rfl⟩
          have hM11 : MdL (w10.drewN j) F8 s L8 := hM11.below (Below.dN (Below.refl _ _) j)
          have hb11 : Below B1 w5 (w10.drewN j) := Below.dN hb11 j
          clear hz3 hz4 hY10 hM9 hb9
          have a0' : (w10.drewN j).cell? ⟨ga, 0, none⟩ = some (.int .i64 k8) := (World.cell?_of_block (hb10.block ga Hca.out.lt)).trans a0
          have hra : Arr (w10.drewN j) ga 35 A8 := (hb10.block ga Hca.out.lt).trans Hca.out
          have Hb11 := Lib.hid hb11
          clear hb10 a0 x0
          go_wp2_with (first | ((with_reducible refine wpList_at 45 (by rfl) ?_); refine wpList_load_row_if (by rfl) 35 _ rfl ga rfl 35 A8.toArray _ hra Try.underlying35 rfl HAs.out ?_) | (refine wpList_builtV_if (by rfl) _ _ rfl _ rfl EL.toArray HEt.out ?_))
          refine Calls.mono (sans_quiet k8 An cn A8 EL HAn.out HEL.out (w10.drewN j)) ?_
          rintro e w12 ⟨rfl, hb12⟩
          have hM12 := hM11.below hb12
          have Hb12 := Lib.hid (Hb11.out.trans (hb12.mono (by have := Hb11.out.size; rw [HB1.out]; exact this)))
          clear hra a0' hb12
          go_wp2_with fail
          go_roundw
          case rel => exact ⟨k + 1, F8, L8, by omega, by go_num, hM12, HL8, HF8, Hb12.out⟩
          case measure => (simp [Go.RowKit.intOf]; try omega)
      · have hd1 : decide ((k : Int) < (n : Int)) = false := by simp; omega
        go_wp2_with fail
        go_ret
        exact ⟨rfl, Hbw5.out.trans (hbr.mono hwB)⟩

end Go.Proofs.Ytmjnnjlkdnakmaa

/-
  VolumeErrors' walk.
-/
import Derived.Test.YtmfamhdjkladoaaVolSpeaks
import Derived.Test.YtmfamhdjkladoaaVolAll
import Derived.Test.YtmfamhdjkladoaaVolSame
import Derived.Test.YtmfamhdjkladoaaCalls12Arg
namespace Go.Proofs.Ytmfamhdjkladoaa
open Go.RowKit
set_option linter.unusedVariables false
set_option linter.unusedSimpArgs false

theorem Cls12.more {w : World} {B B' : Nat} {A : Option Addr} {xs : List Cl12} (h : Cls12 w B A xs) (hB : B ≤ B') : Cls12 w B' A xs :=
  ⟨h.1, fun hp => by
    obtain ⟨b, off, e, hlt, hc⟩ := h.2 hp
    exact ⟨b, off, e, by omega, hc⟩⟩
theorem VsAt.at4 {w : World} {G : Nat → Prop} {A : Option Addr} {xs : List Vx} (h : VsAt w G A xs) {i : Nat} {x : Vx} (hi : xs[i]? = some x) : ∃ b off, A = some ⟨b, off, none⟩ ∧ b < w.heap.size ∧ w.rangeAt b (off + i * 4) (volC x) := by
  obtain ⟨b, off, e, hg, hlt, hr⟩ := h.1 (by have := (List.getElem?_eq_some_iff.1 hi).1; omega)
  exact ⟨b, off, e, hlt, hr i x hi⟩
theorem VsAt.sub {w : World} {G : Nat → Prop} {b off : Nat} {xs : List Vx} (h : VsAt w G (some ⟨b, off, none⟩) xs) {i : Nat} {x : Vx} (hi : xs[i]? = some x) : VsAt w G (some ⟨b, off + i * 4, none⟩) [x] := by
  refine ⟨fun _ => ?_, fun y hy => by rw [List.mem_singleton] at hy; rw [hy]; exact h.2 x (List.mem_of_getElem? hi)⟩
  obtain ⟨b', off', e, hg, hlt, hr⟩ := h.1 (by have := (List.getElem?_eq_some_iff.1 hi).1; omega)
  injection e with e
  injection e with e1 e2
  subst e1 e2
  refine ⟨b, off + i * 4, rfl, hg, hlt, fun j y hj t v ht => ?_⟩
  cases j with
  | zero =>
    simp at hj
    subst hj
    rw [Nat.zero_mul, Nat.add_zero]
    exact hr i x hi t v ht
  | succ j => simp at hj
theorem VsAt.one {w : World} {g : Nat} {x : Vx} {VL : List Value} {G : Nat → Prop} (hV : VL = volC x) (hg : Arr w g 47 VL) (hx : VxOk w G x) : VsAt w (fun b => G b ∨ b = g) (some ⟨g, 0, none⟩) [x] := by
  refine ⟨fun _ => ⟨g, 0, rfl, .inr rfl, hg.lt, fun j y hj t v ht => ?_⟩, fun y hy => by rw [List.mem_singleton] at hy; rw [hy]; exact hx.keep (Nat.le_refl _) (fun _ _ _ => rfl) fun _ _ h => .inl h⟩
  cases j with
  | zero =>
    simp at hj
    subst hj
    rw [Nat.zero_mul, Nat.add_zero, Nat.zero_add, hg.cell, hV]
    exact ht
  | succ j => simp at hj
def vlZ : List Value := [.string ⟨#[]⟩, .int .i64 0, .bool false, .slice none 0 0]
theorem vlZero (w : World) : (zeroValue 47).run Try.prog w = .ok (.agg vlZ.toArray) w := by kernel_rfl
theorem findI_cases (L : List Vol) (nm : ByteArray) : findI L nm = -1 ∨ ∃ (i : Nat) (u : Vol), findI L nm = (i : Nat) ∧ L[i]? = some u ∧ u.name = nm := by
  unfold findI
  cases h : L.findIdx? (fun v => decide (v.name = nm)) with
  | none => exact .inl rfl
  | some i =>
    rw [List.findIdx?_eq_some_iff_getElem] at h
    obtain ⟨hi, h1, _⟩ := h
    exact .inr ⟨i, L[i], rfl, List.getElem?_eq_getElem hi, by simpa using h1⟩

set_option maxHeartbeats 16000000 in
set_option maxRecDepth 100000 in
theorem verrors_walk (A : Option Addr) (n c : Nat) (xs : List Cl12) (hn : xs.length = n) (hc : n ≤ c) (hm : c ≤ maxLen) (w : World) (hcs : Cls12 w w.heap.size A xs) :
    Calls Try.prog 5 #[.slice A n c] w fun e w' => e = .returned (.bool true) ∧ Below w.heap.size w w' := by
  obtain ⟨CZ, hCZ⟩ : ∃ CZ, CZ = c12Z := ⟨_, rfl⟩
  have HZ := Lib.hid (fun w : World => show (zeroValue 42).run Try.prog w = .ok (.agg CZ.toArray) w by rw [hCZ]; exact c12Zero w)
  have HZl := Lib.hid (show CZ.length = 38 by rw [hCZ]; rfl)
  obtain ⟨VZ, hVZ⟩ : ∃ CZ, CZ = vlZ := ⟨_, rfl⟩
  have HVZ := Lib.hid (fun w : World => show (zeroValue 47).run Try.prog w = .ok (.agg VZ.toArray) w by rw [hVZ]; exact vlZero w)
  have HVZl := Lib.hid (show VZ.length = 4 by rw [hVZ]; rfl)
  clear hCZ hVZ
  have hm' : c ≤ 9223372036854775807 := by unfold maxLen at hm; omega
  have Hn := Lib.hid hn
  go_enter Try.func5, Try.ntmps5
  go_wp2_with fail
  refine Calls.mono (speaks12_any w) ?_
  rintro e w1 ⟨rfl, hb1⟩
  have hcs1 := (hcs.below hb1 (Nat.le_refl _)).more hb1.size
  obtain ⟨gr, hgr⟩ : ∃ z, great12 xs = z := ⟨_, rfl⟩
  have hg := great12_any xs A n c w1 hn hc hm' hcs1
  rw [hgr] at hg
  have Hg := Lib.hid hg
  have Hcs := Lib.hid hcs
  clear hg hn hcs hcs1
  go_wp2_with fail
  refine Calls.mono Hg.out ?_
  rintro e w2 ⟨rfl, hb2⟩
  have hb2w : Below w.heap.size w w2 := hb1.trans (hb2.mono hb1.size)
  clear hb1 hb2 Hg
  cases gr with
  | true =>
    go_wp2_with fail
    go_ret
    exact ⟨rfl, hb2w⟩
  | false =>
    have Hn60 := Lib.hid (great12_no hgr)
    clear hgr
    go_wp2_with fail
    refine Calls.mono (vnew_any w2) ?_
    rintro e w3 ⟨s, rfl, hs3, hS3, hb3⟩
    have hb3w : Below w.heap.size w w3 := hb2w.trans (hb3.mono hb2w.size)
    have hF3 : ∀ b, newF (fun _ => False) w2 w3 b → w.heap.size ≤ b := fun b h => h.elim (fun h => h.elim) fun h => by have := hb2w.size; omega
    clear hb2w hb3 hs3
    go_wp2_with fail
    go_loopw [19] (fun i wr => ∃ k : Nat, k ≤ n ∧ i = .int .i64 k ∧ (∃ F L, SetL wr F s L ∧ Hid (L.length ≤ k) ∧ (∀ b, F b → w.heap.size ≤ b)) ∧ Below w.heap.size w wr) (fun i _ => n - (Go.RowKit.intOf i).toNat)
    case atStart => exact ⟨0, Nat.zero_le _, rfl, ⟨_, [], hS3, Nat.le_refl _, hF3⟩, hb3w⟩
    case round =>
      clear hS3 hF3 hb3w
      obtain ⟨k, hk, rfl, ⟨F, L, hS, HL, hF⟩, hbr⟩ := hrel
      by_cases hlt : k < n
      · have hd1 : decide ((k : Int) < (n : Int)) = true := by simp; omega
        obtain ⟨x, hx⟩ : ∃ x, xs[k]? = some x := ⟨xs[k]'(by rw [Hn.out]; exact hlt), List.getElem?_eq_getElem _⟩
        obtain ⟨b, off, rfl, hblk, hrow⟩ := Hcs.out.2 (by rw [Hn.out]; omega)
        have hxo := Hcs.out.1 x (List.mem_of_getElem? hx)
        obtain ⟨VL, hVL⟩ : ∃ VL, VL = c12C x := ⟨_, rfl⟩
        have hVl : VL.length = 38 := by rw [hVL, c12C_length hxo.f32]
        have hrg : wr.rangeAt b (off + k * 38) VL := fun j v hj => by
          rw [hVL] at hj
          rw [← hrow k x hx j v hj]
          exact World.cell?_of_block (hbr.block b hblk)
        have HVi := Lib.hid (show (Try.prog.info? 42).map (·.size) = some VL.length by rw [hVl]; exact c12Size)
        have HVj := Lib.hid (show (Try.prog.info? 42).map (·.size) = some VL.toArray.size by rw [List.size_toArray, hVl]; exact c12Size)
        have HV1 := Lib.hid (show VL.toArray.all (·.oneCell') = true by rw [hVL]; exact all_oneCell_toArray (c12C_one x))
        have HVz := Lib.hid (show CZ.toArray.size = VL.toArray.size by rw [List.size_toArray, List.size_toArray, HZl.out, hVl])
        obtain ⟨wa, hwa⟩ : ∃ W, W = (wr.alloc (.cells CZ.toArray 42)).setRow wr.heap.size VL.toArray := ⟨_, rfl⟩
        obtain ⟨hVa, hbra⟩ := alloc_row wr 42 CZ.toArray VL
        rw [← hwa] at hVa hbra
        have hSa := hS.below hbra
        have hba : Below w.heap.size w wa := hbr.trans (hbra.mono hbr.size)
        have hwlt : wr.heap.size < wa.heap.size := hVa.lt
        have Hwa := Lib.hid hwa
        have Hxo := Lib.hid hxo
        have HVL := Lib.hid hVL
        have Hrs := Lib.hid hS.rise
        have hL' : L.length ≤ 100000 := by have := HL.out; have := Hn60.out.1; rw [Hn.out] at this; omega
        have HL' := Lib.hid hL'
        clear hwa hx hrow hVL hVl hbra hbr hxo hS hL'
        go_upto_region 9 with (first
          | (refine wpList_load_mid rfl _ _ rfl b (off + k * 38) rfl VL _ hrg Try.underlying42 rfl HVi.out ?_)
          | (refine wpList_allocZ12 rfl 42 rfl CZ.toArray (HZ.out _) ?_)
          | (refine wpList_store_row rfl _ _ _ rfl wr.heap.size VL.toArray rfl rfl 42 CZ.toArray (heap_alloc_new wr _) HVj.out HVz.out HV1.out ?_; rw [← Hwa.out]))
        go_wp2_with fail
        refine Calls.mono (all_any s wa F L hSa HL'.out) ?_
        rintro e w4 ⟨A1, c1, xs1, rfl, h1c, h1m, hV1, hx1, hb4⟩
        obtain ⟨n1, hn1⟩ : ∃ z, xs1.length = z := ⟨_, rfl⟩
        rw [hn1] at h1c ⊢
        have Hn1 := Lib.hid hn1
        have Hx1 := Lib.hid hx1
        have hS4 := hSa.below hb4
        have hV4 := hVa.up hb4
        have hb4w : Below w.heap.size w w4 := hba.trans (hb4.mono hba.size)
        obtain ⟨p0, p1, p2, p3, p4, p5⟩ := c12_cells hV4 HVL.out
        obtain ⟨FL, hFL⟩ : ∃ z, z = Lib.byteCells x.finger := ⟨_, rfl⟩
        have p6 := c12_finger hV4 HVL.out hFL
        have HFi := Lib.hid (show (Try.prog.info? 40).map (·.size) = some FL.length by rw [hFL, Lib.byteCells_length, Hxo.out.f32]; exact digInfo)
        have HFL := Lib.hid hFL
        have hFa : ∀ b, F b → b < wa.heap.size := hSa.lt
        have Hmeet := Lib.hid (fun (w5 : World) (L' : List Vol) (kk : Int) (s7 : Value) (e7 : s7 = .int .i64 kk) (h5 : SetL w5 (newF F w4 w5) s L') (hO : Only F w4 w5) (hst : StepOk L L' kk) =>
          show ∃ (k' : Int) (L' : List Vol) (F' : Nat → Prop), s7 = .int .i64 k' ∧ SetL w5 F' s L' ∧ Hid (∀ b, F' b → w.heap.size ≤ b) ∧ Hid (StepOk L L' k') ∧ VsAt w5 (fun b => wa.heap.size ≤ b) A1 xs1 ∧ Below w.heap.size w w5 from
          ⟨kk, L', _, e7, h5, fun b hb => hb.elim (hF b) fun h => by have := hb4w.size; omega, hst, hV1.only hO fun b hb hFb => by have := hFa b hFb; omega, hb4w.trans (hO.below hb4w.size hF)⟩)
        obtain ⟨wh, hwh⟩ : ∃ z, x.what = z := ⟨_, rfl⟩
        obtain ⟨nm, hnm⟩ : ∃ z, x.name = z := ⟨_, rfl⟩
        obtain ⟨ot, hot⟩ : ∃ z, x.other = z := ⟨_, rfl⟩
        obtain ⟨nu, hnu⟩ : ∃ z, x.num = z := ⟨_, rfl⟩
        obtain ⟨qu, hqu⟩ : ∃ z, x.quota = z := ⟨_, rfl⟩
        obtain ⟨fz, hfz⟩ : ∃ z, x.frozen = z := ⟨_, rfl⟩
        have Hnm : Hid (nm.size ≤ maxLen) := by rw [← hnm]; exact Lib.hid Hxo.out.n1
        have Hot : Hid (ot.size ≤ maxLen) := by rw [← hot]; exact Lib.hid Hxo.out.n2
        have Hqu : Hid (-9223372036854775808 ≤ qu ∧ qu ≤ 9223372036854775807) := by rw [← hqu]; exact Lib.hid Hxo.out.i2
        rw [hwh] at p0; rw [hnm] at p1; rw [hot] at p2; rw [hnu] at p3; rw [hqu] at p4; rw [hfz] at p5
        have HS4 := Lib.hid hS4
        clear hn1 hx1 hSa hVa hba hFL hwh hnm hot hnu hqu hfz hS4 hV4 hV1 hb4 hFa hrg
        go_upto_block 2 with fail
        go_cut [7] (fun s7 wx => ∃ (k' : Int) (L' : List Vol) (F' : Nat → Prop), s7 = .int .i64 k' ∧ SetL wx F' s L' ∧ Hid (∀ b, F' b → w.heap.size ≤ b) ∧ Hid (StepOk L L' k') ∧ VsAt wx (fun b => wa.heap.size ≤ b) A1 xs1 ∧ Below w.heap.size w wx)
        case first =>
          by_cases h0 : wh = 0
          · subst h0
            obtain ⟨L', o', b', k', hk'⟩ : ∃ L' o' b' k', putL L nm nu x.finger = (L', o', b', k') := ⟨_, _, _, _, rfl⟩
            have Hk := Lib.hid hk'
            clear hk'
            go_wp2_with (refine wpList_load_mid rfl _ _ rfl wr.heap.size 6 rfl FL _ p6 Try.underlying40 rfl HFi.out ?_)
            refine Calls.mono (put_any s nm Hnm.out nu w4 F L HS4.out x.finger Hxo.out.f32 FL HFL.out L' o' b' k' Hk.out (Lib.byteCells o') rfl) ?_
            rintro e w3 ⟨rfl, hS3, hO3⟩
            go_wp2_with fail
            go_meet
            exact Hmeet.out _ _ _ _ rfl hS3 hO3 (putL_ok Hrs.out Hk.out)
          · by_cases h1 : wh = 1
            · subst h1
              obtain ⟨L', o', b', k', hk'⟩ : ∃ L' o' b' k', dropL L nm nu = (L', o', b', k') := ⟨_, _, _, _, rfl⟩
              have Hk := Lib.hid hk'
              clear hk' h0
              go_wp2_with fail
              refine Calls.mono (drop_any s nm Hnm.out nu w4 F L HS4.out L' o' b' k' Hk.out (Lib.byteCells o') rfl) ?_
              rintro e w3 ⟨rfl, hS3, hO3⟩
              go_wp2_with fail
              go_meet
              exact Hmeet.out _ _ _ _ rfl hS3 hO3 (dropL_ok Hrs.out Hk.out)
            · by_cases h2 : wh = 2
              · subst h2
                obtain ⟨L', k', hk'⟩ : ∃ L' k', createL L nm qu = (L', k') := ⟨_, _, rfl⟩
                have Hk := Lib.hid hk'
                clear hk' h0 h1
                go_wp2_with fail
                refine Calls.mono (create_any s nm Hnm.out qu w4 F L HS4.out HL'.out L' k' Hk.out) ?_
                rintro e w3 ⟨rfl, hS3, hO3⟩
                go_wp2_with fail
                go_meet
                exact Hmeet.out _ _ _ _ rfl hS3 hO3 (createL_ok Hrs.out Hk.out)
              · by_cases h3 : wh = 3
                · subst h3
                  obtain ⟨L', k', hk'⟩ : ∃ L' k', copyL L nm ot qu fz = (L', k') := ⟨_, _, rfl⟩
                  have Hk := Lib.hid hk'
                  clear hk' h0 h1 h2
                  go_wp2_with fail
                  refine Calls.mono (copy_any s nm ot Hnm.out Hot.out qu Hqu.out.1 Hqu.out.2 fz w4 F L HS4.out HL'.out L' k' Hk.out) ?_
                  rintro e w3 ⟨rfl, hS3, hO3⟩
                  go_wp2_with fail
                  go_meet
                  exact Hmeet.out _ _ _ _ rfl hS3 hO3 (copyL_ok Hrs.out Hk.out)
                · have q0 : (wh == 0) = false := by simpa using h0
                  have q1 : (wh == 1) = false := by simpa using h1
                  have q2 : (wh == 2) = false := by simpa using h2
                  have q3 : (wh == 3) = false := by simpa using h3
                  obtain ⟨L', k', hk'⟩ : ∃ L' k', deleteL L nm = (L', k') := ⟨_, _, rfl⟩
                  have Hk := Lib.hid hk'
                  clear hk' h0 h1 h2 h3
                  go_wp2_with fail
                  refine Calls.mono (delete_any s nm Hnm.out w4 F L HS4.out L' k' Hk.out) ?_
                  rintro e w3 ⟨rfl, hS3, hO3⟩
                  go_wp2_with fail
                  go_meet
                  exact Hmeet.out _ _ _ _ rfl hS3 hO3 (deleteL_ok Hrs.out Hk.out)
        case rest =>
          obtain ⟨ke, L', F', rfl, hS5, HF5, Hst, hV5, hb5⟩ := hcut
          clear p0 p1 p2 p3 p4 p5 p6
          have hl5 : L'.length ≤ k + 1 := Nat.le_trans Hst.out.len (by have := HL.out; omega)
          have hl6 : L'.length ≤ 100000 := by have := Hn60.out.1; rw [Hn.out] at this; omega
          have HS5 := Lib.hid hS5
          have HV5 := Lib.hid hV5
          have Hok := Lib.hid hS5.ok
          have Hl5 := Lib.hid hl5
          clear hS5 hV5 hl5
          go_wp2_with fail
          refine Calls.mono (all_any s _ F' L' HS5.out hl6) ?_
          rintro e w6 ⟨A2, c2, xs2, rfl, h2c, h2m, hV2, hx2, hb6⟩
          obtain ⟨n2, hn2⟩ : ∃ z, xs2.length = z := ⟨_, rfl⟩
          rw [hn2] at h2c ⊢
          have Hn2 := Lib.hid hn2
          have Hx2 := Lib.hid hx2
          have HS6 := Lib.hid (HS5.out.below hb6)
          have HV6 := Lib.hid (HV5.out.below hb6)
          have HV2 := Lib.hid hV2
          have hb6w : Below w.heap.size w w6 := hb5.trans (hb6.mono hb5.size)
          have h1m' : c1 ≤ 9223372036854775807 := by unfold maxLen at h1m; omega
          have h2m' : c2 ≤ 9223372036854775807 := by unfold maxLen at h2m; omega
          have Hb6 := Lib.hid hb6w
          have hz6 := hb6w.size
          clear hn2 hx2 hV2 hb6 hb5 HS5 HV5 hb6w hl6 Hmeet HS4
          go_upto_region 22 with fail
          go_cut [86] (fun s86 wx => s86 = .bool false ∧ Below w6.heap.size w6 wx)
          case first =>
            by_cases hke : ke = 0
            · have q0 : (ke != 0) = false := by simp [hke]
              have q1 : (ke == 0) = true := by simp [hke]
              clear hke
              go_wp2_with fail
              go_meet
              exact ⟨rfl, Below.refl _ _⟩
            · have q0 : (ke != 0) = true := by simpa using hke
              have q1 : (ke == 0) = false := by simpa using hke
              have HLL : Hid (L' = L) := Hst.out.err hke
              clear hke
              go_wp2_with fail
              refine Calls.mono (same12_any A2 A1 n2 c2 n1 c1 xs2 xs1 w6 _ _ HV2.out HV6.out Hn2.out Hn1.out h2c h2m h1c h1m true (by rw [Hx1.out, Hx2.out, HLL.out]; simp)) ?_
              rintro e w7 ⟨rfl, nd7, rfl⟩
              go_wp2_with fail
              go_meet
              exact ⟨rfl, Below.dN (Below.refl _ _) nd7⟩
          case rest =>
            obtain ⟨rfl, hb7⟩ := hcut
            have HS7 := Lib.hid (HS6.out.below hb7)
            have HV7 := Lib.hid (HV6.out.below hb7)
            have HW7 := Lib.hid (HV2.out.below hb7)
            have Hb7 := Lib.hid (Hb6.out.trans (hb7.mono hz6))
            have hz7 := Hb7.out.size
            clear hb7 HS6 HV6 HV2 Hb6 hz6
            go_wp2_with fail
            go_loopw [89] (fun i wq => ∃ j : Nat, j ≤ n2 ∧ i = .int .i64 j ∧ Below wc.heap.size wc wq) (fun i _ => n2 - (Go.RowKit.intOf i).toNat)
            case atStart => exact ⟨0, Nat.zero_le _, rfl, Below.refl _ _⟩
            case round =>
              obtain ⟨j, hj, rfl, hbq⟩ := hrel
              by_cases hlt2 : j < n2
              · have hd2 : decide ((j : Int) < (n2 : Int)) = true := by simp; omega
                obtain ⟨y, hy⟩ : ∃ y, xs2[j]? = some y := ⟨xs2[j]'(by rw [Hn2.out]; exact hlt2), List.getElem?_eq_getElem _⟩
                have hWq := HW7.out.below hbq
                obtain ⟨b2, off2, rfl, hb2lt, hrow2⟩ := hWq.at4 hy
                have hyo := hWq.2 y (List.mem_of_getElem? hy)
                have hyv : y.v ∈ L' := by rw [← Hx2.out]; exact List.mem_map_of_mem (List.mem_of_getElem? hy)
                have hvok := Hok.out y.v hyv
                obtain ⟨YL, hYL⟩ : ∃ YL, YL = volC y := ⟨_, rfl⟩
                have hYl : YL.length = 4 := by rw [hYL]; rfl
                rw [← hYL] at hrow2
                have HYi := Lib.hid (show (Try.prog.info? 47).map (·.size) = some YL.length by rw [hYl]; exact vlSize)
                have HYj := Lib.hid (show (Try.prog.info? 47).map (·.size) = some YL.toArray.size by rw [List.size_toArray, hYl]; exact vlSize)
                have HY1 := Lib.hid (show YL.toArray.all (·.oneCell') = true by rw [hYL]; exact all_oneCell_toArray (volC_one y))
                have HYz := Lib.hid (show VZ.toArray.size = YL.toArray.size by rw [List.size_toArray, List.size_toArray, HVZl.out, hYl])
                obtain ⟨wz, hwz⟩ : ∃ W, W = (wr.alloc (.cells VZ.toArray 47)).setRow wr.heap.size YL.toArray := ⟨_, rfl⟩
                obtain ⟨hYa, hbqz⟩ := alloc_row wr 47 VZ.toArray YL
                rw [← hwz] at hYa hbqz
                have hbz : Below wc.heap.size wc wz := hbq.trans (hbqz.mono hbq.size)
                have HVz := Lib.hid (HV7.out.below hbz)
                have HYo := Lib.hid (hyo.keep hbqz.size (fun b _ hlt => hbqz.block b hlt) fun _ _ h => h)
                have Hwz := Lib.hid hwz
                have HYL := Lib.hid hYL
                have HYl := Lib.hid hYl
                have hy0 : wz.cell? ⟨wr.heap.size, 0, none⟩ = some (.string y.v.name) := by rw [hYa.cell, hYL]; rfl
                have hy1 : wz.cell? ⟨wr.heap.size, 1, none⟩ = some (.int .i64 (y.v.quota : Nat)) := by rw [hYa.cell, hYL]; rfl
                have hy2 : wz.cell? ⟨wr.heap.size, 2, none⟩ = some (.bool y.v.frozen) := by rw [hYa.cell, hYL]; rfl
                have hy3 : wz.cell? ⟨wr.heap.size, 3, none⟩ = some (.slice y.adr y.v.cells.length y.cap) := by rw [hYa.cell, hYL]; rfl
                have hname := namedB_size hvok.nm
                have hle := hvok.le
                have hq20 := hvok.q
                have Hyv := Lib.hid hyv
                obtain ⟨vn, hvn⟩ : ∃ z, y.v.name = z := ⟨_, rfl⟩
                obtain ⟨vq, hvq⟩ : ∃ z, y.v.quota = z := ⟨_, rfl⟩
                obtain ⟨vf, hvf⟩ : ∃ z, y.v.frozen = z := ⟨_, rfl⟩
                obtain ⟨vl, hvl⟩ : ∃ z, y.v.cells.length = z := ⟨_, rfl⟩
                obtain ⟨vA, hvA⟩ : ∃ z, y.adr = z := ⟨_, rfl⟩
                obtain ⟨vc, hvc⟩ : ∃ z, y.cap = z := ⟨_, rfl⟩
                rw [hvn] at hy0 hname; rw [hvq] at hy1 hle hq20; rw [hvf] at hy2; rw [hvl] at hy3 hle; rw [hvA, hvc] at hy3
                have hvlc : vl ≤ vc ∧ vc ≤ 9223372036854775807 := by rw [← hvl, ← hvc]; exact ⟨hyo.le, by have := hyo.lim; unfold maxLen at this; omega⟩
                have Hvn := Lib.hid hvn
                have Hvf := Lib.hid hvf
                have hname' : vn.size ≤ maxLen := by unfold maxLen; omega
                have HYa := Lib.hid hYa
                have HY3 : Hid (∀ w', Arr w' wr.heap.size 47 YL → w'.cell? ⟨wr.heap.size, 3, none⟩ = some (.slice vA vl vc) ∧ w'.cell? ⟨wr.heap.size, 1, none⟩ = some (.int .i64 (vq : Nat)) ∧ w'.cell? ⟨wr.heap.size, 2, none⟩ = some (.bool vf)) := fun w' h => by
                  rw [h.cell, h.cell, h.cell, hYL, ← hvA, ← hvl, ← hvc, ← hvq, ← hvf]
                  exact ⟨rfl, rfl, rfl⟩
                clear hwz hYL hYl hWq hyo hyv hvok hvn hvq hvf hvl hvA hvc hy hbqz hbq hYa
                go_upto_region 27 with (first
                  | (refine wpList_load_mid rfl _ _ rfl b2 (off2 + j * 4) rfl YL _ hrow2 Try.underlying47 rfl HYi.out ?_)
                  | (refine wpList_allocZ12 rfl 47 rfl VZ.toArray (HVZ.out _) ?_)
                  | (refine wpList_store_row rfl _ _ _ rfl wr.heap.size YL.toArray rfl rfl 47 VZ.toArray (heap_alloc_new wr _) HYj.out HYz.out HY1.out ?_; rw [← Hwz.out]))
                go_wp2_with fail
                refine Calls.mono (find12_any A1 n1 c1 xs1 vn hname' wz _ HVz.out Hn1.out h1c h1m) ?_
                rintro e w8 ⟨rfl, rfl⟩
                rw [Hx1.out]
                go_upto_region 28 with fail
                have g1 : decide ((vl : Int) > (vq : Int)) = false := by simp; omega
                have g2 : decide (vq < vl) = false := by simp; omega
                have hbzs := hbz.size
                cases vf with
                | false =>
                  go_quiet (fail)
                  go_wp2_with fail
                  go_roundw
                  case rel => exact ⟨j + 1, by omega, by go_num, Below.dN hbz _⟩
                  case measure => simp [Go.RowKit.intOf]; omega
                | true =>
                  rcases findI_cases L vn with he | ⟨i, u, he, hi, hu⟩
                  · rw [he]
                    clear he
                    go_quiet (fail)
                    go_wp2_with fail
                    go_roundw
                    case rel => exact ⟨j + 1, by omega, by go_num, Below.dN hbz _⟩
                    case measure => simp [Go.RowKit.intOf]; omega
                  · rw [he]
                    clear he
                    have huv : u = y.v := Hst.out.keeps y.v Hyv.out Hvf.out u (List.mem_of_getElem? hi) (by rw [hu, Hvn.out])
                    have hi1 : (xs1.map (·.v))[i]? = some u := by rw [Hx1.out]; exact hi
                    rw [List.getElem?_map, Option.map_eq_some_iff] at hi1
                    obtain ⟨y1, hy1', hy1v⟩ := hi1
                    have hi1n : i < n1 := by have := (List.getElem?_eq_some_iff.1 hy1').1; rw [Hn1.out] at this; exact this
                    obtain ⟨b1, off1, rfl, hb1lt, _⟩ := HVz.out.at4 hy1'
                    have Hsub := Lib.hid (HVz.out.sub hy1')
                    have Hsame := Lib.hid (show [y].map (·.v) = [y1].map (·.v) by simp [hy1v, huv])
                    have Hsl1 := Lib.hid (show 0 ≤ (i : Int) + 1 ∧ (i : Int) + 1 ≤ (c1 : Int) by omega)
                    have Hsl2 := Lib.hid (show ¬ c1 = i by omega)
                    have hi63 : (i : Int) + 1 ≤ 9223372036854775807 := by omega
                    have Hwrap := Lib.hid (show IntKind.i64.wrap ((i : Int) + 1) = (i : Int) + 1 from IntWalk.i64_in _ (by omega))
                    have hwlt2 : wr.heap.size < wz.heap.size := HYa.out.lt
                    clear huv hi hu hy1' hy1v hy0 hy1 hy2 hy3
                    refine wp_region_held_drew (S := fun w' => Arr w' wr.heap.size 47 YL) (by kernel_rfl) HYa.out (fun hHeld => ?_)
                    refine anyH_take (i := 0) (v := .pointer (some ⟨wr.heap.size, 3, none⟩)) (some 97) rfl rfl (by kernel_rfl) (by kernel_rfl) (by kernel_rfl) (fun _ _ _ h => h) (Or.inl ⟨by rfl, fun w' hw => by (go_simp)⟩) (by assumption) ?_
                    simp only [Act.put, List.setIfInBounds_toArray, List.set_cons_zero, List.set_cons_succ]
                    refine anyH_take (i := 1) (v := .slice vA vl vc) (some 98) rfl rfl (by kernel_rfl) (by kernel_rfl) (by kernel_rfl) (fun _ _ _ h => h) (Or.inl ⟨by rfl, fun w' hw => by (have hcc := HY3.out w' hw; go_simp)⟩) (by assumption) ?_
                    simp only [Act.put, List.setIfInBounds_toArray, List.set_cons_zero, List.set_cons_succ]
                    refine anyH_take (i := 2) (v := .int .i64 (vl : Nat)) (some 99) rfl rfl (by kernel_rfl) (by kernel_rfl) (by kernel_rfl) (fun _ _ _ h => h) (Or.inl ⟨by rfl, fun w' hw => by (go_simp)⟩) (by assumption) ?_
                    simp only [Act.put, List.setIfInBounds_toArray, List.set_cons_zero, List.set_cons_succ]
                    refine anyH_take (i := 3) (v := .pointer (some ⟨wr.heap.size, 1, none⟩)) (some 100) rfl rfl (by kernel_rfl) (by kernel_rfl) (by kernel_rfl) (fun _ _ _ h => h) (Or.inl ⟨by rfl, fun w' hw => by (go_simp)⟩) (by assumption) ?_
                    simp only [Act.put, List.setIfInBounds_toArray, List.set_cons_zero, List.set_cons_succ]
                    refine anyH_take (i := 4) (v := .int .i64 (vq : Nat)) (some 101) rfl rfl (by kernel_rfl) (by kernel_rfl) (by kernel_rfl) (fun _ _ _ h => h) (Or.inl ⟨by rfl, fun w' hw => by (have hcc := HY3.out w' hw; go_simp)⟩) (by assumption) ?_
                    simp only [Act.put, List.setIfInBounds_toArray, List.set_cons_zero, List.set_cons_succ]
                    refine anyH_take (i := 5) (v := .bool false) (some 102) rfl rfl (by kernel_rfl) (by kernel_rfl) (by kernel_rfl) (fun _ _ _ h => h) (Or.inl ⟨by rfl, fun w' hw => by (go_simp)⟩) (by assumption) ?_
                    simp only [Act.put, List.setIfInBounds_toArray, List.set_cons_zero, List.set_cons_succ]
                    refine anyH_take (i := 6) (v := .bool false) (some 103) rfl rfl (by kernel_rfl) (by kernel_rfl) (by kernel_rfl) (fun _ _ _ h => h) (Or.inl ⟨by rfl, fun w' hw => by (go_simp)⟩) (by assumption) ?_
                    simp only [Act.put, List.setIfInBounds_toArray, List.set_cons_zero, List.set_cons_succ]
                    refine anyH_take (i := 7) (v := .pointer (some ⟨wr.heap.size, 2, none⟩)) (some 104) rfl rfl (by kernel_rfl) (by kernel_rfl) (by kernel_rfl) (fun _ _ _ h => h) (Or.inl ⟨by rfl, fun w' hw => by (go_simp)⟩) (by assumption) ?_
                    simp only [Act.put, List.setIfInBounds_toArray, List.set_cons_zero, List.set_cons_succ]
                    refine anyH_take (i := 8) (v := .bool true) (some 105) rfl rfl (by kernel_rfl) (by kernel_rfl) (by kernel_rfl) (fun _ _ _ h => h) (Or.inl ⟨by rfl, fun w' hw => by (have hcc := HY3.out w' hw; go_simp)⟩) (by assumption) ?_
                    simp only [Act.put, List.setIfInBounds_toArray, List.set_cons_zero, List.set_cons_succ]
                    refine anyH_take (i := 9) (v := .bool true) (some 106) rfl rfl (by kernel_rfl) (by kernel_rfl) (by kernel_rfl) (fun _ _ _ h => h) (Or.inl ⟨by rfl, fun w' hw => by (go_simp)⟩) (by assumption) ?_
                    simp only [Act.put, List.setIfInBounds_toArray, List.set_cons_zero, List.set_cons_succ]
                    refine anyH_take (i := 10) (v := .int .i64 (i : Nat)) (some 107) rfl rfl (by kernel_rfl) (by kernel_rfl) (by kernel_rfl) (fun _ _ _ h => h) (Or.inl ⟨by rfl, fun w' hw => by (go_simp)⟩) (by assumption) ?_
                    simp only [Act.put, List.setIfInBounds_toArray, List.set_cons_zero, List.set_cons_succ]
                    refine anyH_take (i := 11) (v := .bool true) (some 108) rfl rfl (by kernel_rfl) (by kernel_rfl) (by kernel_rfl) (fun _ _ _ h => h) (Or.inl ⟨by rfl, fun w' hw => by (go_simp)⟩) (by assumption) ?_
                    simp only [Act.put, List.setIfInBounds_toArray, List.set_cons_zero, List.set_cons_succ]
                    refine anyH_take (i := 12) (v := .bool true) (some 109) rfl rfl (by kernel_rfl) (by kernel_rfl) (by kernel_rfl) (fun _ _ _ h => h) (Or.inl ⟨by rfl, fun w' hw => by (go_simp)⟩) (by assumption) ?_
                    simp only [Act.put, List.setIfInBounds_toArray, List.set_cons_zero, List.set_cons_succ]
                    refine anyH_take (i := 13) (v := .bool true) (some 110) rfl rfl (by kernel_rfl) (by kernel_rfl) (by kernel_rfl) (fun _ _ _ h => h) (Or.inl ⟨by rfl, fun w' hw => by (go_simp)⟩) (by assumption) ?_
                    simp only [Act.put, List.setIfInBounds_toArray, List.set_cons_zero, List.set_cons_succ]
                    refine anyH_take (i := 14) (some 111) rfl rfl (by kernel_rfl) (by kernel_rfl) (by kernel_rfl) (fun _ _ _ h => h) (yieldsIf_load_mid (by rfl) 47 (.tmp 10) rfl wr.heap.size 0 rfl YL _ (fun w' h => h.range) Try.underlying47 rfl HYi.out) (by assumption) ?_
                    simp only [Act.put, List.setIfInBounds_toArray, List.set_cons_zero, List.set_cons_succ]
                    refine anyH_take (i := 16) (v := .slice (some ⟨b1, off1, none⟩) n1 c1) (some 113) rfl rfl (by kernel_rfl) (by kernel_rfl) (by kernel_rfl) (fun _ _ _ h => h) (Or.inl ⟨by rfl, fun w' hw => by (go_simp)⟩) (by assumption) ?_
                    simp only [Act.put, List.setIfInBounds_toArray, List.set_cons_zero, List.set_cons_succ]
                    refine anyH_take (i := 17) (v := .int .i64 (i : Nat)) (some 114) rfl rfl (by kernel_rfl) (by kernel_rfl) (by kernel_rfl) (fun _ _ _ h => h) (Or.inl ⟨by rfl, fun w' hw => by (go_simp)⟩) (by assumption) ?_
                    simp only [Act.put, List.setIfInBounds_toArray, List.set_cons_zero, List.set_cons_succ]
                    refine anyH_take (i := 18) (v := .int .i64 (i : Nat)) (some 115) rfl rfl (by kernel_rfl) (by kernel_rfl) (by kernel_rfl) (fun _ _ _ h => h) (Or.inl ⟨by rfl, fun w' hw => by (go_simp)⟩) (by assumption) ?_
                    simp only [Act.put, List.setIfInBounds_toArray, List.set_cons_zero, List.set_cons_succ]
                    refine anyH_take (i := 19) (v := .int .i64 ((i : Int) + 1)) (some 116) rfl rfl (by kernel_rfl) (by kernel_rfl) (by kernel_rfl) (fun _ _ _ h => h) (Or.inl ⟨by rfl, fun w' hw => by (have hwp := Hwrap.out; go_simp)⟩) (by assumption) ?_
                    simp only [Act.put, List.setIfInBounds_toArray, List.set_cons_zero, List.set_cons_succ]
                    refine anyH_take (i := 20) (v := .slice (some ⟨b1, off1 + i * 4, none⟩) 1 (c1 - i)) (some 117) rfl rfl (by kernel_rfl) (by kernel_rfl) (by kernel_rfl) (fun _ _ _ h => h) (Or.inl ⟨by rfl, fun w' hw => by (go_simp; rw [if_pos Hsl1.out, if_neg Hsl2.out])⟩) (by assumption) ?_
                    simp only [Act.put, List.setIfInBounds_toArray, List.set_cons_zero, List.set_cons_succ]
                    refine wpAnyH_ready (rs := [15]) (by kernel_rfl) (by simp) ?_
                    refine AllReadyH.cons rfl (fun K hK => ?_) AllReadyH.nil
                    rw [if_pos (by rfl)]
                    refine wp_build_vl (some 112) rfl _ rfl YL HYl.out rfl ?_
                    simp only [Act.put, List.setIfInBounds_toArray, List.set_cons_zero, List.set_cons_succ]
                    have hbb : Below wz.heap.size wz ((wz.drewN 1).alloc (.cells YL.toArray 47)) := (Below.dN (Below.refl _ wz) 1).alloc (Nat.le_refl _) _
                    refine hK.out _ _ (HYa.out.up hbb) (fun hHeldy => ?_)
                    clear hK K
                    try simp only [Act.put, List.setIfInBounds_toArray, List.set_cons_zero, List.set_cons_succ]
                    have hA9 : Arr ((wz.drewN 1).alloc (.cells YL.toArray 47)) wz.heap.size 47 YL := Arr.new (wz.drewN 1) 47 YL
                    have Hone := Lib.hid (VsAt.one HYL.out hA9 (HYo.out.keep hbb.size (fun b _ hlt => hbb.block b hlt) fun _ _ h => h))
                    have Hsub9 := Lib.hid (Hsub.out.below hbb)
                    have hb9 : Below wc.heap.size wc ((wz.drewN 1).alloc (.cells YL.toArray 47)) := hbz.trans (hbb.mono hbzs)
                    have HYb := Lib.hid (HYa.out.up hbb)
                    obtain ⟨w9, hw9⟩ : ∃ x, x = (wz.drewN 1).alloc (.cells YL.toArray 47) := ⟨_, rfl⟩
                    change wpAnyH _ _ _ _ _ _ _ _ ((wz.drewN 1).alloc (.cells YL.toArray 47))
                    rw [← hw9] at Hone Hsub9 hb9 HYb ⊢
                    clear hw9 hA9 hbb
                    refine wpAnyH_ready (rs := [21]) (by kernel_rfl) (by simp) ?_
                    refine AllReadyH.cons rfl (fun K hK => ?_) AllReadyH.nil
                    go_simp
                    go_at_call 10
                    refine Calls.mono (same12_any _ _ 1 1 1 (c1 - i) [y] [y1] w9 _ _ Hone.out Hsub9.out rfl rfl (Nat.le_refl _) (by unfold maxLen; omega) (by omega) (by unfold maxLen; omega) true (by rw [Hsame.out]; simp)) ?_
                    rintro e w10 ⟨rfl, nd10, rfl⟩
                    go_wp2_with fail
                    refine hK.out _ _ (show Arr (w9.drewN nd10) _ _ _ from HYb.out) (fun hHeldx => ?_)
                    clear hK K
                    try simp only [Act.put, List.setIfInBounds_toArray, List.set_cons_zero, List.set_cons_succ]
                    refine anyH_take (i := 22) (v := .bool false) (some 119) rfl rfl (by kernel_rfl) (by kernel_rfl) (by kernel_rfl) (fun _ _ _ h => h) (Or.inl ⟨by rfl, fun w' hw => by (go_simp)⟩) (by assumption) ?_
                    simp only [Act.put, List.setIfInBounds_toArray, List.set_cons_zero, List.set_cons_succ]
                    refine anyH_take (i := 23) (v := .bool false) (some 120) rfl rfl (by kernel_rfl) (by kernel_rfl) (by kernel_rfl) (fun _ _ _ h => h) (Or.inl ⟨by rfl, fun w' hw => by (go_simp)⟩) (by assumption) ?_
                    simp only [Act.put, List.setIfInBounds_toArray, List.set_cons_zero, List.set_cons_succ]
                    refine anyH_take (i := 24) (v := .bool false) (some 121) rfl rfl (by kernel_rfl) (by kernel_rfl) (by kernel_rfl) (fun _ _ _ h => h) (Or.inl ⟨by rfl, fun w' hw => by (go_simp)⟩) (by assumption) ?_
                    simp only [Act.put, List.setIfInBounds_toArray, List.set_cons_zero, List.set_cons_succ]
                    refine wpAnyH_done (by kernel_rfl) ?_ _
                    go_wp2_with fail
                    go_roundw
                    case rel => exact ⟨j + 1, by omega, by go_num, Below.dN hb9 nd10⟩
                    case measure => simp [Go.RowKit.intOf]; omega
              · obtain rfl : j = n2 := by omega
                have hd2 : decide (j < j) = false := by simp
                have hb9 : Below w.heap.size w wr := Hb7.out.trans (hbq.mono hz7)
                have HS9 := Lib.hid (HS7.out.below hbq)
                have HF9 := HF5
                have Hl9 := Hl5
                clear hbq
                go_wp2_with fail
                go_roundw
                case rel => exact ⟨k + 1, by omega, by go_num, ⟨F', L', HS9.out, Lib.hid Hl9.out, HF9.out⟩, hb9⟩
                case measure => simp [Go.RowKit.intOf]; omega
      · obtain rfl : k = n := by omega
        have hd1 : decide (k < k) = false := by simp
        clear hS hF
        go_wp2_with fail
        go_ret
        exact ⟨rfl, hbr⟩

end Go.Proofs.Ytmfamhdjkladoaa

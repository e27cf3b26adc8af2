/-
  The document's Add on volumes.
-/
import Derived.Test.YtcajhndhjlfmaaaGreatVolRefA
import Derived.Sort.Walk0
namespace Go.Proofs.YtcajhndhjlfmaaaGreat
open Go.RowKit
set_option linter.unusedVariables false
set_option linter.unusedSimpArgs false

theorem bytesLess_before : ∀ (x y : List UInt8), Op.bytesLess x y = bytesBefore x y
  | [], [] => rfl
  | _ :: _, [] => rfl
  | [], _ :: _ => rfl
  | a :: x, b :: y => by simp only [Op.bytesLess, bytesBefore, bytesLess_before x y]
theorem ba_less (a b : ByteArray) : Op.bytesLess a.toList b.toList = bytesBefore a.data.toList b.data.toList := by
  rw [bytesLess_before, ba_toList, ba_toList]
theorem VsAt.tail {w : World} {G : Nat → Prop} {b off c k : Nat} {xs : List Vx} (h : VsAt w G (some ⟨b, off, none⟩) xs) (hc : xs.length ≤ c) : VsAt w G (if c = k then some ⟨b, off, none⟩ else some ⟨b, off + k * 4, none⟩) (xs.drop k) := by
  split
  · rename_i e
    have : xs.drop k = [] := List.drop_of_length_le (by omega)
    rw [this]
    exact ⟨fun h => by simp at h, by simp⟩
  · exact h.drop k

set_option maxHeartbeats 8000000 in
set_option maxRecDepth 100000 in
theorem add12_any (A : Option Addr) (n c : Nat) (L : List Vol) (y : Vx) (VL : List Value) (hVL : VL = volC y) (w : World) (G : Nat → Prop) (h : VSl w G A n c L) (hG : ∀ b, G b → b < w.heap.size) (hy : VxOk w G y) (hl : L.length ≤ 100000) (hno : ∀ v ∈ L, vkey v ≠ vkey y.v) :
    Calls Tryz.prog 50 #[.slice A n c, .agg VL.toArray] w fun e w' => ∃ A' n' c', e = .returned (.slice A' n' c') ∧ VSl w' (fun b => G b ∨ w.heap.size ≤ b) A' n' c' (insV y.v L) ∧ Below w.heap.size w w' := by
  obtain ⟨xs, rfl, hn, hc, hm, hV, hflat⟩ := h
  have hVl : VL.length = 4 := by rw [hVL]; rfl
  obtain ⟨w1, hw1⟩ : ∃ z, z = w.alloc (.cells VL.toArray 71) := ⟨_, rfl⟩
  have hb1 : Below w.heap.size w w1 := by rw [hw1]; exact (Below.refl _ _).alloc (Nat.le_refl _) _
  have hA1 : Arr w1 w.heap.size 71 VL := by rw [hw1]; exact Arr.new w _ VL
  have hV1 := hV.below hb1
  have hm' : c ≤ 9223372036854775807 := by unfold maxLen at hm; omega
  have HVi := Lib.hid (show (Tryz.prog.info? 71).map (·.size) = some VL.toArray.size by rw [List.size_toArray, hVl]; exact vlSize)
  have hnm : ∀ w', Arr w' w.heap.size 71 VL → w'.cell? ⟨w.heap.size, 0, none⟩ = some (.string y.v.name) := fun w' h => by rw [h.cell, hVL]; rfl
  obtain ⟨nm, hnme⟩ : ∃ z, y.v.name = z := ⟨_, rfl⟩
  rw [hnme] at hnm
  have Hnm := Lib.hid hnm
  have Hnme := Lib.hid hnme
  have Hn := Lib.hid hn
  have HV1 := Lib.hid hV1
  have HV := Lib.hid hV
  have HVL := Lib.hid hVL
  have HVl := Lib.hid hVl
  have HW1 := Lib.hid hw1
  have Hy := Lib.hid hy
  have Hno := Lib.hid hno
  have HG := Lib.hid hG
  have HA1 := Lib.hid hA1
  have Hb1 := Lib.hid hb1
  have hln : n ≤ 100000 := by rw [List.length_map, hn] at hl; exact hl
  have Hins := Lib.hid (fun (k : Nat) (hk : k ≤ n) (h1 : ∀ (j : Nat) (v : Vol), j < k → (xs.map (·.v))[j]? = some v → bytesBefore (vkey v) (vkey y.v) = true) (h2 : ∀ v, (xs.map (·.v))[k]? = some v → bytesBefore (vkey v) (vkey y.v) = false) => show (xs.take k ++ [y] ++ xs.drop k).map (·.v) = insV y.v (xs.map (·.v)) from by
    rw [insV_cut hno, aheadOf_is (by rw [List.length_map, hn]; exact hk) h1 h2]
    simp)
  have hz1 := hb1.size
  clear hn hV hV1 hVL hVl hw1 hy hno hG hA1 hb1 hnm hnme hl
  rcases hflat with ⟨rfl, rfl⟩ | ⟨b, off, rfl⟩
  · obtain rfl : n = 0 := by omega
    have hk : (0 : Nat) ≤ 0 := Nat.le_refl _
    have Hk : Hid (∀ (j : Nat) (v : Vol), j < 0 → (xs.map (·.v))[j]? = some v → bytesBefore (vkey v) (vkey y.v) = true) := fun j v hj => by omega
    have Hk2 : Hid (∀ v, (xs.map (·.v))[0]? = some v → bytesBefore (vkey v) (vkey y.v) = false) := fun v hv => by
      have := (List.getElem?_eq_some_iff.1 hv).1
      rw [List.length_map, Hn.out] at this
      omega
    go_enter Tryz.func50, Tryz.ntmps50
    go_upto_region 1 with fail
    change Code.wp _ _ _ _ (w.alloc (.cells VL.toArray 71))
    rw [← HW1.out]
    go_wp2_with fail
    go_loopw [5] (fun i wr => i = .int .i64 0 ∧ Drawn w1 wr) (fun _ _ => 0)
    case atStart => exact ⟨rfl, Drawn.refl w1⟩
    case round =>
      obtain ⟨rfl, hD⟩ := hrel
      have Hwr : Hid (VsAt wr G none xs ∧ Arr wr w.heap.size 71 VL ∧ Below w.heap.size w wr) := by
        obtain ⟨dn, rfl⟩ := hD
        exact ⟨HV1.out.drewN dn, HA1.out, Below.dN Hb1.out dn⟩
      clear hD
      go_upto_region 2 with fail
      go_quiet (fail)
      have Hwr : Hid (VsAt (wr.drewN nq) G none xs ∧ Arr (wr.drewN nq) w.heap.size 71 VL ∧ Below w.heap.size w (wr.drewN nq)) := ⟨Hwr.out.1.drewN nq, Hwr.out.2.1, Below.dN Hwr.out.2.2 nq⟩
      obtain ⟨wq, hwq⟩ : ∃ z, z = wr.drewN nq := ⟨_, rfl⟩
      rw [← hwq] at Hwr ⊢
      clear hwq
      have Hins2 := Lib.hid (Hins.out 0 hk Hk.out Hk2.out)
      have htk : (xs.take 0).length = 0 := by rw [List.length_take, Hn.out]; omega
      have hdk : (xs.drop 0).length = 0 := by rw [List.length_drop, Hn.out]
      have Htk := Lib.hid htk
      have Hdk := Lib.hid hdk
      obtain ⟨wb, hwb⟩ : ∃ z, z = wq.alloc (.cells #[] 71) := ⟨_, rfl⟩
      have hbb : Below wq.heap.size wq wb := by rw [hwb]; exact (Below.refl _ _).alloc (Nat.le_refl _) _
      have hR0 : VRow wb w.heap.size G (.slice (some ⟨wq.heap.size, 0, none⟩) 0 0) [] := by rw [hwb]; exact VRow.empty wq w.heap.size G Hwr.out.2.2.size
      have Hwb := Lib.hid hwb
      have hVb := (Hwr.out.1.below hbb).take 0
      have hbw : Below w.heap.size w wb := Hwr.out.2.2.trans (hbb.mono Hwr.out.2.2.size)
      have hbws := hbw.size
      have hwlt : w.heap.size < wb.heap.size := (Hwr.out.2.1.up hbb).lt
      have hAb := Hwr.out.2.1.up hbb
      clear hwb htk hdk
      go_upto_region 5 with (first
        | (at_builtin; (try change wpList _ _ _ _ _ (wq.alloc (.cells #[] 71))); (try rw [← Hwb.out]); refine wpList_append_vls rfl _ _ rfl hR0 hbws rfl _ _ _ rfl (xs.take 0) Htk.out hVb HG.out (by simp only [List.length_nil]; omega) ?_; intro v4 w4 hR4 hg4))
      rw [List.nil_append] at hR4
      have hb4 : Below w.heap.size w w4 := hbw.grown hg4 hbws fun g hg => (hR0.lt g hg).1
      have hg4' : Below wb.heap.size wb w4 ∨ True := .inr trivial
      have hA4 : Arr w4 w.heap.size 71 VL := (hg4.block _ hwlt (fun e => by have := (hR0.lt w.heap.size e.symm).1; rw [show (Value.slice (some ⟨wq.heap.size, 0, none⟩) 0 0).ownBlock = some wq.heap.size from rfl] at e; injection e with e; have := Hwr.out.2.1.lt; omega)).trans hAb
      have hV4 : VsAt w4 G none xs := (HV.out.below hb4)
      have hlt4 := hR4.lt
      have h4s := hb4.size
      have hw4lt : w.heap.size < w4.heap.size := hA4.lt
      clear hg4' hR0 hVb hAb hbw hg4 hbws hwlt
      obtain ⟨wc, hwc⟩ : ∃ z, z = w4.alloc (.cells VL.toArray 71) := ⟨_, rfl⟩
      have hbc : Below w4.heap.size w4 wc := by rw [hwc]; exact (Below.refl _ _).alloc (Nat.le_refl _) _
      have hAc : Arr wc w4.heap.size 71 VL := by rw [hwc]; exact Arr.new w4 _ VL
      have hRc := hR4.up hbc
      have hbcw : Below w.heap.size w wc := hb4.trans (hbc.mono hb4.size)
      have hyc : ∀ x ∈ [y], VxOk wc (fun b => G b ∧ v4.ownBlock ≠ some b) x := fun x hx => by
        rw [List.mem_singleton] at hx
        rw [hx]
        exact Hy.out.keep hbcw.size (fun b hg _ => hbcw.block b (HG.out b hg)) fun b _ hg => ⟨hg, fun e => by have := (hlt4 b e).1; have := HG.out b hg; omega⟩
      have hcs := hbcw.size
      have Hwc := Lib.hid hwc
      have Hone := Lib.hid (one_vl HVL.out hAc)
      have hlen4 : (xs.take 0).length + 1 ≤ 1000000 := by rw [Htk.out]; omega
      clear hwc
      go_upto_region 6 with (first
        | (refine wpList_load_row rfl _ _ rfl w.heap.size rfl 71 VL.toArray (0, 0) _ hA4 Tryz.underlying71 rfl HVi.out ?_)
        | (refine wpList_build_vl rfl _ rfl VL HVl.out rfl ?_; rw [← Hwc.out])
        | (at_builtin; refine wpList_append_vl rfl _ _ rfl hRc hcs rfl _ _ _ rfl [y] rfl hyc Hone.out hlen4 ?_; intro v5 w5 hR5 hg5))
      have hb5 : Below w.heap.size w w5 := hbcw.grown hg5 hcs fun g hg => (hlt4 g hg).1
      have hV5 : VsAt w5 G none xs := HV.out.below hb5
      have h5s := hb5.size
      have hlen5 : (xs.take 0 ++ [y]).length + (0) ≤ 1000000 := by rw [List.length_append, Htk.out]; simp only [List.length_cons, List.length_nil]; omega
      have hlt5 := hR5.lt
      clear hg5 hRc hyc hbcw hcs hA4 hAc hR4 hV4 hbc hlt4 hlen4
      have hV5t : VsAt w5 G none (xs.drop 0) := by rw [List.drop_of_length_le (by have := Hn.out; omega)]; exact ⟨fun h => by simp at h, by simp⟩
      go_wp2_with (first
        | (at_builtin; refine wpList_append_vls rfl _ _ rfl hR5 h5s rfl _ _ _ rfl (xs.drop 0) Hdk.out hV5t HG.out hlen5 ?_; intro v6 w6 hR6 hg6))
      have hb6 : Below w.heap.size w w6 := hb5.grown hg6 h5s fun g hg => (hlt5 g hg).1
      have HR6 := Lib.hid hR6
      have Hb6 := Lib.hid hb6
      clear hR5 hg6 hR6 hb6 hb5 hV5 hV5t h5s hlt5 hlen5
      go_wp2_with fail
      obtain ⟨A', c', hv6, hvs⟩ := HR6.out.vsl
      rw [Hins2.out] at hvs
      subst hv6
      go_ret
      exact ⟨_, _, _, rfl, hvs, Hb6.out⟩
  · go_enter Tryz.func50, Tryz.ntmps50
    go_upto_region 1 with fail
    change Code.wp _ _ _ _ (w.alloc (.cells VL.toArray 71))
    rw [← HW1.out]
    go_wp2_with fail
    go_loopw [5] (fun i wr => ∃ k : Nat, k ≤ n ∧ i = .int .i64 k ∧ Drawn w1 wr ∧ Hid (∀ (j : Nat) (v : Vol), j < k → (xs.map (·.v))[j]? = some v → bytesBefore (vkey v) (vkey y.v) = true)) (fun i _ => n - (Go.RowKit.intOf i).toNat)
    case atStart => exact ⟨0, Nat.zero_le _, rfl, Drawn.refl w1, fun j v hj => by omega⟩
    case round =>
      obtain ⟨k, hk, rfl, hD, Hk⟩ := hrel
      have HD := Lib.hid hD
      have Hwr : Hid (VsAt wr G (some ⟨b, off, none⟩) xs ∧ Arr wr w.heap.size 71 VL ∧ Below w.heap.size w wr) := by
        obtain ⟨dn, rfl⟩ := hD
        exact ⟨HV1.out.drewN dn, HA1.out, Below.dN Hb1.out dn⟩
      clear hD
      have hy0 := Hnm.out wr Hwr.out.2.1
      by_cases hlt : k < n
      · have hd1 : decide ((k : Int) < (n : Int)) = true := by simp; omega
        obtain ⟨x, hx⟩ : ∃ x, xs[k]? = some x := ⟨xs[k]'(by rw [Hn.out]; exact hlt), List.getElem?_eq_getElem _⟩
        obtain ⟨b', off', e', hblt, hGb, a0, a1, a2, a3⟩ := Hwr.out.1.at_ hx
        injection e' with e'
        injection e' with e1 e2
        subst e1 e2
        have hxv : (xs.map (·.v))[k]? = some x.v := by rw [List.getElem?_map, hx]; rfl
        have Hx := Lib.hid hxv
        obtain ⟨nx, hnx⟩ : ∃ z, x.v.name = z := ⟨_, rfl⟩
        rw [hnx] at a0
        have Hless := Lib.hid (show Op.bytesLess nx.toList nm.toList = bytesBefore (vkey x.v) (vkey y.v) by rw [ba_less, vkey, vkey, hnx, Hnme.out])
        clear hx hxv hnx a1 a2 a3
        go_upto_region 2 with fail
        cases hb : bytesBefore (vkey x.v) (vkey y.v) with
        | true =>
          have hq : Op.bytesLess nx.toList nm.toList = true := by rw [Hless.out, hb]
          have Hk2 : Hid (∀ (j : Nat) (v : Vol), j < k + 1 → (xs.map (·.v))[j]? = some v → bytesBefore (vkey v) (vkey y.v) = true) := fun j v hj hv => by
            by_cases e : j = k
            · subst e; rw [Hx.out] at hv; injection hv with hv; rw [← hv]; exact hb
            · exact Hk.out j v (by omega) hv
          clear hb
          go_quiet (fail)
          go_wp2_with fail
          go_roundw
          case rel => exact ⟨k + 1, by omega, by go_num, HD.out.drewN _, Hk2⟩
          case measure => simp [Go.RowKit.intOf]; omega
        | false =>
          have hq : Op.bytesLess nx.toList nm.toList = false := by rw [Hless.out, hb]
          have Hk2 : Hid (∀ v, (xs.map (·.v))[k]? = some v → bytesBefore (vkey v) (vkey y.v) = false) := fun v hv => by
            rw [Hx.out] at hv; injection hv with hv; rw [← hv]; exact hb
          clear hb
          go_quiet (fail)
          have Hwr : Hid (VsAt (wr.drewN nq) G (some ⟨b, off, none⟩) xs ∧ Arr (wr.drewN nq) w.heap.size 71 VL ∧ Below w.heap.size w (wr.drewN nq)) := ⟨Hwr.out.1.drewN nq, Hwr.out.2.1, Below.dN Hwr.out.2.2 nq⟩
          clear hq a0 hy0 HD hd1
          obtain ⟨wq, hwq⟩ : ∃ z, z = wr.drewN nq := ⟨_, rfl⟩
          rw [← hwq] at Hwr ⊢
          clear hwq
          have Hins2 := Lib.hid (Hins.out k hk Hk.out Hk2.out)
          have htk : (xs.take k).length = k := by rw [List.length_take, Hn.out]; omega
          have hdk : (xs.drop k).length = n - k := by rw [List.length_drop, Hn.out]
          have Htk := Lib.hid htk
          have Hdk := Lib.hid hdk
          obtain ⟨wb, hwb⟩ : ∃ z, z = wq.alloc (.cells #[] 71) := ⟨_, rfl⟩
          have hbb : Below wq.heap.size wq wb := by rw [hwb]; exact (Below.refl _ _).alloc (Nat.le_refl _) _
          have hR0 : VRow wb w.heap.size G (.slice (some ⟨wq.heap.size, 0, none⟩) 0 0) [] := by rw [hwb]; exact VRow.empty wq w.heap.size G Hwr.out.2.2.size
          have Hwb := Lib.hid hwb
          have hVb := (Hwr.out.1.below hbb).take k
          have hbw : Below w.heap.size w wb := Hwr.out.2.2.trans (hbb.mono Hwr.out.2.2.size)
          have hbws := hbw.size
          have hwlt : w.heap.size < wb.heap.size := (Hwr.out.2.1.up hbb).lt
          have hAb := Hwr.out.2.1.up hbb
          clear hwb htk hdk
          go_upto_region 5 with (first
            | (at_builtin; (try change wpList _ _ _ _ _ (wq.alloc (.cells #[] 71))); (try rw [← Hwb.out]); refine wpList_append_vls rfl _ _ rfl hR0 hbws rfl _ _ _ rfl (xs.take k) Htk.out hVb HG.out (by simp only [List.length_nil]; omega) ?_; intro v4 w4 hR4 hg4))
          rw [List.nil_append] at hR4
          have hb4 : Below w.heap.size w w4 := hbw.grown hg4 hbws fun g hg => (hR0.lt g hg).1
          have hg4' : Below wb.heap.size wb w4 ∨ True := .inr trivial
          have hA4 : Arr w4 w.heap.size 71 VL := (hg4.block _ hwlt (fun e => by have := (hR0.lt w.heap.size e.symm).1; rw [show (Value.slice (some ⟨wq.heap.size, 0, none⟩) 0 0).ownBlock = some wq.heap.size from rfl] at e; injection e with e; have := Hwr.out.2.1.lt; omega)).trans hAb
          have hV4 : VsAt w4 G (some ⟨b, off, none⟩) xs := (HV.out.below hb4)
          have hlt4 := hR4.lt
          have h4s := hb4.size
          have hw4lt : w.heap.size < w4.heap.size := hA4.lt
          clear hg4' hR0 hVb hAb hbw hg4 hbws hwlt
          obtain ⟨wc, hwc⟩ : ∃ z, z = w4.alloc (.cells VL.toArray 71) := ⟨_, rfl⟩
          have hbc : Below w4.heap.size w4 wc := by rw [hwc]; exact (Below.refl _ _).alloc (Nat.le_refl _) _
          have hAc : Arr wc w4.heap.size 71 VL := by rw [hwc]; exact Arr.new w4 _ VL
          have hRc := hR4.up hbc
          have hbcw : Below w.heap.size w wc := hb4.trans (hbc.mono hb4.size)
          have hyc : ∀ x ∈ [y], VxOk wc (fun b => G b ∧ v4.ownBlock ≠ some b) x := fun x hx => by
            rw [List.mem_singleton] at hx
            rw [hx]
            exact Hy.out.keep hbcw.size (fun b hg _ => hbcw.block b (HG.out b hg)) fun b _ hg => ⟨hg, fun e => by have := (hlt4 b e).1; have := HG.out b hg; omega⟩
          have hcs := hbcw.size
          have Hwc := Lib.hid hwc
          have Hone := Lib.hid (one_vl HVL.out hAc)
          have hlen4 : (xs.take k).length + 1 ≤ 1000000 := by rw [Htk.out]; omega
          clear hwc
          go_upto_region 6 with (first
            | (refine wpList_load_row rfl _ _ rfl w.heap.size rfl 71 VL.toArray (0, 0) _ hA4 Tryz.underlying71 rfl HVi.out ?_)
            | (refine wpList_build_vl rfl _ rfl VL HVl.out rfl ?_; rw [← Hwc.out])
            | (at_builtin; refine wpList_append_vl rfl _ _ rfl hRc hcs rfl _ _ _ rfl [y] rfl hyc Hone.out hlen4 ?_; intro v5 w5 hR5 hg5))
          have hb5 : Below w.heap.size w w5 := hbcw.grown hg5 hcs fun g hg => (hlt4 g hg).1
          have hV5 : VsAt w5 G (some ⟨b, off, none⟩) xs := HV.out.below hb5
          have h5s := hb5.size
          have hlen5 : (xs.take k ++ [y]).length + (n - k) ≤ 1000000 := by rw [List.length_append, Htk.out]; simp only [List.length_cons, List.length_nil]; omega
          have hlt5 := hR5.lt
          clear hg5 hRc hyc hbcw hcs hA4 hAc hR4 hV4 hbc hlt4 hlen4
          have hck : ¬ c = k := by omega
          have hV5t := hV5.drop k
          go_wp2_with (first
            | (at_builtin; refine wpList_append_vls rfl _ _ rfl hR5 h5s rfl _ _ _ rfl (xs.drop k) Hdk.out hV5t HG.out hlen5 ?_; intro v6 w6 hR6 hg6))
          have hb6 : Below w.heap.size w w6 := hb5.grown hg6 h5s fun g hg => (hlt5 g hg).1
          have HR6 := Lib.hid hR6
          have Hb6 := Lib.hid hb6
          clear hR5 hg6 hR6 hb6 hb5 hV5 hV5t h5s hlt5 hlen5
          go_wp2_with fail
          obtain ⟨A', c', hv6, hvs⟩ := HR6.out.vsl
          rw [Hins2.out] at hvs
          subst hv6
          go_ret
          exact ⟨_, _, _, rfl, hvs, Hb6.out⟩
      · obtain rfl : k = n := by omega
        have hd1 : decide ((k : Int) < (k : Int)) = false := by simp
        have hd2 : decide (k < k) = false := by simp
        have Hk2 : Hid (∀ v, (xs.map (·.v))[k]? = some v → bytesBefore (vkey v) (vkey y.v) = false) := fun v hv => by
          have := (List.getElem?_eq_some_iff.1 hv).1
          rw [List.length_map, Hn.out] at this
          omega
        clear hlt hy0
        go_upto_region 2 with fail
        go_quiet (fail)
        have Hwr : Hid (VsAt (wr.drewN nq) G (some ⟨b, off, none⟩) xs ∧ Arr (wr.drewN nq) w.heap.size 71 VL ∧ Below w.heap.size w (wr.drewN nq)) := ⟨Hwr.out.1.drewN nq, Hwr.out.2.1, Below.dN Hwr.out.2.2 nq⟩
        clear HD
        obtain ⟨wq, hwq⟩ : ∃ z, z = wr.drewN nq := ⟨_, rfl⟩
        rw [← hwq] at Hwr ⊢
        clear hwq hd1 hd2
        have Hins2 := Lib.hid (Hins.out k hk Hk.out Hk2.out)
        have htk : (xs.take k).length = k := by rw [List.length_take, Hn.out]; omega
        have hdk : (xs.drop k).length = 0 := by rw [List.length_drop, Hn.out]; omega
        have Htk := Lib.hid htk
        have Hdk := Lib.hid hdk
        obtain ⟨wb, hwb⟩ : ∃ z, z = wq.alloc (.cells #[] 71) := ⟨_, rfl⟩
        have hbb : Below wq.heap.size wq wb := by rw [hwb]; exact (Below.refl _ _).alloc (Nat.le_refl _) _
        have hR0 : VRow wb w.heap.size G (.slice (some ⟨wq.heap.size, 0, none⟩) 0 0) [] := by rw [hwb]; exact VRow.empty wq w.heap.size G Hwr.out.2.2.size
        have Hwb := Lib.hid hwb
        have hVb := (Hwr.out.1.below hbb).take k
        have hbw : Below w.heap.size w wb := Hwr.out.2.2.trans (hbb.mono Hwr.out.2.2.size)
        have hbws := hbw.size
        have hwlt : w.heap.size < wb.heap.size := (Hwr.out.2.1.up hbb).lt
        have hAb := Hwr.out.2.1.up hbb
        clear hwb htk hdk
        go_upto_region 5 with (first
          | (at_builtin; (try change wpList _ _ _ _ _ (wq.alloc (.cells #[] 71))); (try rw [← Hwb.out]); refine wpList_append_vls rfl _ _ rfl hR0 hbws rfl _ _ _ rfl (xs.take k) Htk.out hVb HG.out (by simp only [List.length_nil]; omega) ?_; intro v4 w4 hR4 hg4))
        rw [List.nil_append] at hR4
        have hb4 : Below w.heap.size w w4 := hbw.grown hg4 hbws fun g hg => (hR0.lt g hg).1
        have hg4' : Below wb.heap.size wb w4 ∨ True := .inr trivial
        have hA4 : Arr w4 w.heap.size 71 VL := (hg4.block _ hwlt (fun e => by have := (hR0.lt w.heap.size e.symm).1; rw [show (Value.slice (some ⟨wq.heap.size, 0, none⟩) 0 0).ownBlock = some wq.heap.size from rfl] at e; injection e with e; have := Hwr.out.2.1.lt; omega)).trans hAb
        have hV4 : VsAt w4 G (some ⟨b, off, none⟩) xs := (HV.out.below hb4)
        have hlt4 := hR4.lt
        have h4s := hb4.size
        have hw4lt : w.heap.size < w4.heap.size := hA4.lt
        clear hg4' hR0 hVb hAb hbw hg4 hbws hwlt
        obtain ⟨wc, hwc⟩ : ∃ z, z = w4.alloc (.cells VL.toArray 71) := ⟨_, rfl⟩
        have hbc : Below w4.heap.size w4 wc := by rw [hwc]; exact (Below.refl _ _).alloc (Nat.le_refl _) _
        have hAc : Arr wc w4.heap.size 71 VL := by rw [hwc]; exact Arr.new w4 _ VL
        have hRc := hR4.up hbc
        have hbcw : Below w.heap.size w wc := hb4.trans (hbc.mono hb4.size)
        have hyc : ∀ x ∈ [y], VxOk wc (fun b => G b ∧ v4.ownBlock ≠ some b) x := fun x hx => by
          rw [List.mem_singleton] at hx
          rw [hx]
          exact Hy.out.keep hbcw.size (fun b hg _ => hbcw.block b (HG.out b hg)) fun b _ hg => ⟨hg, fun e => by have := (hlt4 b e).1; have := HG.out b hg; omega⟩
        have hcs := hbcw.size
        have Hwc := Lib.hid hwc
        have Hone := Lib.hid (one_vl HVL.out hAc)
        have hlen4 : (xs.take k).length + 1 ≤ 1000000 := by rw [Htk.out]; omega
        clear hwc
        go_upto_region 6 with (first
          | (refine wpList_load_row rfl _ _ rfl w.heap.size rfl 71 VL.toArray (0, 0) _ hA4 Tryz.underlying71 rfl HVi.out ?_)
          | (refine wpList_build_vl rfl _ rfl VL HVl.out rfl ?_; rw [← Hwc.out])
          | (at_builtin; refine wpList_append_vl rfl _ _ rfl hRc hcs rfl _ _ _ rfl [y] rfl hyc Hone.out hlen4 ?_; intro v5 w5 hR5 hg5))
        have hb5 : Below w.heap.size w w5 := hbcw.grown hg5 hcs fun g hg => (hlt4 g hg).1
        have hV5 : VsAt w5 G (some ⟨b, off, none⟩) xs := HV.out.below hb5
        have h5s := hb5.size
        have hlen5 : (xs.take k ++ [y]).length + (0) ≤ 1000000 := by rw [List.length_append, Htk.out]; simp only [List.length_cons, List.length_nil]; omega
        have hlt5 := hR5.lt
        clear hg5 hRc hyc hbcw hcs hA4 hAc hR4 hV4 hbc hlt4 hlen4
        by_cases hck : c = k
        · obtain rfl : k = c := hck.symm
          have hV5t : VsAt w5 G (some ⟨b, off, none⟩) (xs.drop k) := by rw [List.drop_of_length_le (by have := Hn.out; omega)]; exact ⟨fun h => by simp at h, by simp⟩
          go_wp2_with (first
            | (at_builtin; refine wpList_append_vls rfl _ _ rfl hR5 h5s rfl _ _ _ rfl (xs.drop k) Hdk.out hV5t HG.out hlen5 ?_; intro v6 w6 hR6 hg6))
          have hb6 : Below w.heap.size w w6 := hb5.grown hg6 h5s fun g hg => (hlt5 g hg).1
          have HR6 := Lib.hid hR6
          have Hb6 := Lib.hid hb6
          clear hR5 hg6 hR6 hb6 hb5 hV5 hV5t h5s hlt5 hlen5
          go_wp2_with fail
          obtain ⟨A', c', hv6, hvs⟩ := HR6.out.vsl
          rw [Hins2.out] at hvs
          subst hv6
          go_ret
          exact ⟨_, _, _, rfl, hvs, Hb6.out⟩
        · have hV5t := hV5.drop k
          go_wp2_with (first
            | (at_builtin; refine wpList_append_vls rfl _ _ rfl hR5 h5s rfl _ _ _ rfl (xs.drop k) Hdk.out hV5t HG.out hlen5 ?_; intro v6 w6 hR6 hg6))
          have hb6 : Below w.heap.size w w6 := hb5.grown hg6 h5s fun g hg => (hlt5 g hg).1
          have HR6 := Lib.hid hR6
          have Hb6 := Lib.hid hb6
          clear hR5 hg6 hR6 hb6 hb5 hV5 hV5t h5s hlt5 hlen5
          go_wp2_with fail
          obtain ⟨A', c', hv6, hvs⟩ := HR6.out.vsl
          rw [Hins2.out] at hvs
          subst hv6
          go_ret
          exact ⟨_, _, _, rfl, hvs, Hb6.out⟩

end Go.Proofs.YtcajhndhjlfmaaaGreat

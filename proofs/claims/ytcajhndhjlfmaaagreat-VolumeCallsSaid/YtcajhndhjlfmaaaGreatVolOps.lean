/-
  New, Create, Delete, copied, Copy.
-/
import Derived.Test.YtcajhndhjlfmaaaGreatVolPure
import Derived.Shelf.SlMaps.Clone
import Derived.Shelf.SlGeneric
import Derived.Ground.SlmcProg
namespace Go.Proofs.YtcajhndhjlfmaaaGreat
open Go.RowKit
set_option linter.unusedVariables false
set_option linter.unusedSimpArgs false

shelf_lay_g SlLaysW.n5 Slmc 5 at Tryz 66 as Tryz.cloneA

theorem vnew_any (w : World) : Calls Tryz.prog 6 #[] w fun e w' => ∃ s, e = .returned (.pointer (some ⟨s, 0, none⟩)) ∧ w.heap.size ≤ s ∧ SetL w' (newF (fun _ => False) w w') s [] ∧ Below w.heap.size w w' := by
  have hmk := @run_makeMap Tryz.prog
  go_enter Tryz.func6, Tryz.ntmps6
  go_wp2
  go_ret
  have hb1 : Below w.heap.size w (w.alloc (.map #[] 0)) := (Below.refl _ _).alloc (Nat.le_refl _) _
  have hb2 : Below w.heap.size w ((w.alloc (.map #[] 0)).alloc (.cells #[.map (some w.heap.size)] 52)) := hb1.alloc (by simp) _
  refine ⟨_, rfl, by simp, ⟨[], ⟨w.heap.size, ?_⟩, rfl⟩, hb2⟩
  have hm := (World.ownsMap_made (H := Unit) w Tryz.prog 9 ptrR).alloc (.cells #[.map (some w.heap.size)] 52)
  exact { hs := by simpa using Arr.new (w.alloc (.map #[] 0)) 52 [.map (some w.heap.size)], hm := hm, vm := by simp, rs := List.Pairwise.nil, dj := List.Pairwise.nil, mne := by simp, Fs := .inr ⟨by simp, by simp⟩, Fm := .inr ⟨by omega, by simp; omega⟩, Fv := by simp, Flt := newF_lt (fun _ h => h.elim) hb2.size }

set_option maxHeartbeats 1000000 in
theorem create_any (s : Nat) (nm : ByteArray) (hsz : nm.size ≤ maxLen) (q : Int) (w : World) (F : Nat → Prop) (L : List Vol) (h : SetL w F s L) (hL : L.length ≤ 100000) (L' : List Vol) (k : Int) (hk : createL L nm q = (L', k)) :
    Calls Tryz.prog 18 #[.pointer (some ⟨s, 0, none⟩), .string nm, .int .i64 q] w fun e w' => e = .returned (.int .i64 k) ∧ SetL w' (newF F w w') s L' ∧ Only F w w' := by
  have hmk := @run_makeMap Tryz.prog
  unfold createL at hk
  cases hn : namedB nm.data.toList with
  | false =>
    rw [hn, Bool.false_and, if_pos rfl] at hk
    injection hk with h1 h2
    subst h1 h2
    have Hp := Lib.hid h
    clear h
    go_enter Tryz.func18, Tryz.ntmps18
    go_wp2_with fail
    refine Calls.mono (mayName_any nm hsz w false hn) ?_
    rintro e w' ⟨rfl, rfl⟩
    clear hn
    go_wp2
    go_ret
    exact ⟨rfl, Hp.out.same (Below.refl _ _), Only.refl _ _⟩
  | true =>
    cases hq : quotaB q with
    | false =>
      rw [hn, hq, Bool.true_and, if_pos rfl] at hk
      injection hk with h1 h2
      subst h1 h2
      have Hp := Lib.hid h
      clear h
      go_enter Tryz.func18, Tryz.ntmps18
      go_wp2_with fail
      refine Calls.mono (mayName_any nm hsz w true hn) ?_
      rintro e w' ⟨rfl, rfl⟩
      clear hn
      go_wp2_with fail
      refine Calls.mono (mayQuota_any q w false hq) ?_
      rintro e w' ⟨rfl, rfl⟩
      clear hq
      go_wp2
      go_ret
      exact ⟨rfl, Hp.out.same (Below.refl _ _), Only.refl _ _⟩
    | true =>
      rw [hn, hq, Bool.true_and, if_neg (by simp)] at hk
      cases hh : hasV L nm with
      | true =>
        rw [hh, if_pos rfl] at hk
        injection hk with h1 h2
        subst h1 h2
        obtain ⟨M, hM, rfl⟩ := h
        rw [vs_has] at hh
        have Hp : Hid (SetL w F s (vs M)) := ⟨M, hM, rfl⟩
        go_enter Tryz.func18, Tryz.ntmps18
        go_wp2_with fail
        refine Calls.mono (mayName_any nm hsz w true hn) ?_
        rintro e w' ⟨rfl, rfl⟩
        clear hn
        go_wp2_with fail
        refine Calls.mono (mayQuota_any q w true hq) ?_
        rintro e w' ⟨rfl, rfl⟩
        clear hq
        go_wp2_with fail
        refine Calls.mono (has_any s nm hsz w F M hM true hh) ?_
        rintro e w' ⟨rfl, rfl⟩
        clear hM hh
        go_wp2
        go_ret
        exact ⟨rfl, Hp.out.same (Below.refl _ _), Only.refl _ _⟩
      | false =>
        rw [hh, if_neg (by simp)] at hk
        injection hk with h1 h2
        subst h1 h2
        obtain ⟨M, hM, rfl⟩ := h
        rw [vs_has] at hh
        have hqy := quotaB_yes hq
        obtain ⟨qn, rfl⟩ := Int.eq_ofNat_of_zero_le hqy.1
        obtain ⟨mb, hQ⟩ := hM
        have hM : SetW w F s M := ⟨mb, hQ⟩
        have hc := hQ.hs.cell 0
        simp only [List.getElem?_cons_zero] at hc
        have hmlt := hQ.Flt mb hQ.Fm
        have hslt := hQ.Flt s hQ.Fs
        obtain ⟨w2, hw2⟩ : ∃ x, x = (w.alloc (.map #[] 0)).alloc (.cells #[.int .i64 (qn : Nat), .bool false, .map (some w.heap.size)] 68) := ⟨_, rfl⟩
        have hb1 : Below w.heap.size w (w.alloc (.map #[] 0)) := (Below.refl _ _).alloc (Nat.le_refl _) _
        have hb2 : Below w.heap.size w w2 := by rw [hw2]; exact hb1.alloc (by simp) _
        have hv2 : Arr w2 (w.heap.size + 1) 68 [.int .i64 (qn : Nat), .bool false, .map (some w.heap.size)] := by
          have := Arr.new (w.alloc (.map #[] 0)) 68 [.int .i64 (qn : Nat), .bool false, .map (some w.heap.size)]
          rw [hw2]
          simpa using this
        have hm2 : w2.ownsMap Tryz.prog 3 digR w.heap.size 0 (cellsD []) := by
          rw [hw2]
          exact (World.ownsMap_made (H := Unit) w Tryz.prog 3 digR).alloc _
        have hown : w2.ownsMap Tryz.prog 9 ptrR mb M.length (ptrD M) := World.ownsMap.at_ hQ.hm (hb2.block mb hmlt)
        have hroom : M.length < maxLen := by rw [vs_length] at hL; unfold maxLen; omega
        have hvk : VmOk w2 ⟨⟨nm, qn, false, []⟩, w.heap.size + 1, w.heap.size⟩ := ⟨hv2, hm2, ⟨by simp; omega, by simp, List.Pairwise.nil, by simp, hn⟩⟩
        have Hadd := Lib.hid (fun (w3 : World) (n : Nat) h1 h2 => SetQ.add (w2 := w3) (n := n) hQ hvk hb2 (Nat.le_succ _) (Nat.le_refl _) hh h1 h2)
        have Hpos := Lib.hid (fun (w3 : World) (hg : w2.grownBy w3 (some mb)) => show Only F w w3 from (Only.of_below hb2).trans ⟨hg.os, hg.tape, hg.output, hg.size, fun i hi hn => hg.block i hi fun e => hn (by injection e with e; rw [e]; exact hQ.Fm)⟩)
        have Hkey := Lib.hid (keyOf_name hsz)
        have Hw2 := Lib.hid hw2
        clear hw2 hv2 hm2 hvk hb1 hb2 hmk hQ
        have hmk := @run_makeMap Tryz.prog
        go_enter Tryz.func18, Tryz.ntmps18
        go_wp2_with fail
        refine Calls.mono (mayName_any nm hsz w true hn) ?_
        rintro e w' ⟨rfl, rfl⟩
        clear hn
        go_wp2_with fail
        refine Calls.mono (mayQuota_any qn w true hq) ?_
        rintro e w' ⟨rfl, rfl⟩
        clear hq
        go_wp2_with fail
        refine Calls.mono (has_any s nm hsz w F M hM false hh) ?_
        rintro e w' ⟨rfl, rfl⟩
        clear hM hh
        go_wp2_with (at_mapUpdate; rw [← Hw2.out]; refine wpList_mapUpdate_own _ rfl _ _ _ 50 rfl 9 62 strKeyed Tryz.underlying50 ptrR mb M.length (ptrD M) rfl hown hroom _ _ _ rfl rfl Hkey.out _ [] (ptrR_mk _) ?_)
        intro w3 hown3 hg3
        have hfin := Hadd.out w3 _ hown3 hg3
        have hO := Hpos.out w3 hg3
        clear hown3 hg3 hown
        go_wp2_with fail
        go_ret
        refine ⟨rfl, ⟨_, ⟨mb, hfin⟩, ?_⟩, hO⟩
        rw [vs_ins]
        rfl

theorem delete_any (s : Nat) (nm : ByteArray) (hsz : nm.size ≤ maxLen) (w : World) (F : Nat → Prop) (L : List Vol) (h : SetL w F s L) (L' : List Vol) (k : Int) (hk : deleteL L nm = (L', k)) :
    Calls Tryz.prog 26 #[.pointer (some ⟨s, 0, none⟩), .string nm] w fun e w' => e = .returned (.int .i64 k) ∧ SetL w' (newF F w w') s L' ∧ Only F w w' := by
  unfold deleteL at hk
  obtain ⟨M, ⟨mb, hQ⟩, rfl⟩ := h
  have hM : SetW w F s M := ⟨mb, hQ⟩
  rw [vs_has] at hk
  cases hh : hasM M nm with
  | false =>
    rw [hh, if_neg (by simp)] at hk
    injection hk with h1 h2
    subst h1 h2
    have Hp : Hid (SetL w F s (vs M)) := ⟨M, hM, rfl⟩
    clear hQ
    go_enter Tryz.func26, Tryz.ntmps26
    go_wp2_with fail
    refine Calls.mono (has_any s nm hsz w F M hM false hh) ?_
    rintro e w' ⟨rfl, rfl⟩
    clear hM hh
    go_wp2
    go_ret
    exact ⟨rfl, Hp.out.same (Below.refl _ _), Only.refl _ _⟩
  | true =>
    rw [hh, if_pos rfl] at hk
    injection hk with h1 h2
    subst h1 h2
    have hc := hQ.hs.cell 0
    simp only [List.getElem?_cons_zero] at hc
    have hown := hQ.hm
    have Hdel := Lib.hid (fun (w3 : World) (n : Nat) h1 h2 => SetQ.del (w2 := w3) (nm := nm) (n := n) hQ h1 h2)
    have Hpos := Lib.hid (fun (w3 : World) (hg : w.grownBy w3 (some mb)) => show Only F w w3 from ⟨hg.os, hg.tape, hg.output, hg.size, fun i hi hn => hg.block i hi fun e => hn (by injection e with e; rw [e]; exact hQ.Fm)⟩)
    have Hkey := Lib.hid (keyOf_name hsz)
    clear hQ
    go_enter Tryz.func26, Tryz.ntmps26
    go_wp2_with fail
    refine Calls.mono (has_any s nm hsz w F M hM true hh) ?_
    rintro e w' ⟨rfl, rfl⟩
    clear hM hh
    go_wp2_with (at_delete; refine wpList_delete_own _ rfl _ _ 50 9 rfl 62 strKeyed Tryz.underlying50 ptrR mb M.length (ptrD M) rfl hown _ _ rfl Hkey.out ?_)
    intro w3 hown3 ht3
    have hfin := Hdel.out w3 _ hown3 ht3.grown
    have hO := Hpos.out w3 ht3.grown
    clear hown3 ht3 hown
    go_wp2_with fail
    go_ret
    exact ⟨rfl, ⟨_, ⟨mb, hfin⟩, vs_del _ _⟩, hO⟩

theorem copied_any (m : Vm) (q : Nat) (fr : Bool) (w : World) (h : VmOk w m) (hq : m.v.cells.length ≤ q) (hq2 : q ≤ 1048576) (nm : ByteArray) (hn : namedB nm.data.toList = true) :
    Calls Tryz.prog 51 #[.pointer (some ⟨m.vb, 0, none⟩), .int .i64 (q : Nat), .bool fr] w fun e w' => ∃ x : Vm, e = .returned (.pointer (some ⟨x.vb, 0, none⟩)) ∧ VmOk w' x ∧ x.v = ⟨nm, q, fr, m.v.cells⟩ ∧ w.heap.size ≤ x.vb ∧ w.heap.size ≤ x.bb ∧ Below w.heap.size w w' := by
  have hc := h.hv.cell 2
  simp only [List.getElem?_cons_succ, List.getElem?_cons_zero] at hc
  have hcl := AnyW.maps_Clone_owns (H := Unit) Tryz.cloneA 3 digR m.bb m.v.cells.length (cellsD m.v.cells) w h.hc
  change Calls Tryz.prog 66 _ _ _ at hcl
  go_enter Tryz.func51, Tryz.ntmps51
  go_wp2_with (go_at_call 66; refine hcl.mono ?_; rintro e w1 ⟨rfl, hn1, _, hb1⟩)
  go_ret
  have hz1 := hb1.size
  have hlt := World.ownsMap.lt hn1
  have hb2 : Below w.heap.size w (w1.alloc (.cells #[.int .i64 (q : Nat), .bool fr, .map (some w.heap.size)] 68)) := hb1.alloc hz1 _
  exact ⟨⟨⟨nm, q, fr, m.v.cells⟩, w1.heap.size, w.heap.size⟩, rfl, ⟨Arr.new w1 _ [.int .i64 (q : Nat), .bool fr, .map (some w.heap.size)], hn1.alloc _, ⟨hq2, hq, h.ok.rs, h.ok.c, hn⟩⟩, rfl, hz1, Nat.le_refl _, hb2⟩

end Go.Proofs.YtcajhndhjlfmaaaGreat

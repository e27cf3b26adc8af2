/-
  create, remove, of.
-/
import Derived.Test.YtcajhndhjlfmaaaModOps
namespace Go.Proofs.Ytcajhndhjlfmaaa
open Go.RowKit
set_option linter.unusedVariables false
set_option linter.unusedSimpArgs false

theorem img_built (q : Int) (mo : Option Nat) : Try.prog.built 114 [(0, .int .i64 q), (2, .map mo)] = some #[.int .i64 q, .bool false, .map mo] := by kernel_rfl

set_option maxHeartbeats 1000000 in
set_option maxRecDepth 100000 in
theorem create_anyM (s : Nat) (nm : ByteArray) (hsz : nm.size ≤ maxLen) (q : Int) (w : World) (F : Nat → Prop) (L : List Vol) (h : MdL w F s L) (hL : L.length ≤ 100000) (L' : List Vol) (k : Int) (hk : createL L nm q = (L', k)) :
    Calls Try.prog 49 #[.pointer (some ⟨s, 0, none⟩), .string nm, .int .i64 q] w fun e w' => e = .returned (.int .i64 k) ∧ MdL w' (newF F w w') s L' ∧ Only F w w' := by
  have hmk := @run_makeMap Try.prog
  have Hh := Lib.hid h
  obtain ⟨M, mb, hQ, rfl⟩ := h
  rw [vs_length] at hL
  unfold createL at hk
  rw [vs_has] at hk
  cases hb : (namedB nm.data.toList && quotaB q) with
  | false =>
    rw [hb, if_pos rfl] at hk
    injection hk with h1 h2
    subst h1 h2
    clear hQ
    go_enter Try.func49, Try.ntmps49
    go_wp2_with fail
    refine Calls.mono (may_any nm hsz q w false hb) ?_
    rintro e w1 ⟨rfl, hb1⟩
    clear hb
    go_wp2
    go_ret
    exact ⟨rfl, Hh.out.same hb1, Only.of_below hb1⟩
  | true =>
    rw [hb, if_neg (by simp)] at hk
    cases hh : hasM M nm with
    | true =>
      rw [hh, if_pos rfl] at hk
      injection hk with h1 h2
      subst h1 h2
      have HQ := Lib.hid hQ
      clear hQ
      go_enter Try.func49, Try.ntmps49
      go_wp2_with fail
      refine Calls.mono (may_any nm hsz q w true hb) ?_
      rintro e w1 ⟨rfl, hb1⟩
      clear hb
      go_wp2_with fail
      refine Calls.mono (has_anyM s mb nm hsz w1 F M (HQ.out.below hb1) true hh) ?_
      rintro e w2 ⟨rfl, hb2⟩
      have hb3 := hb1.trans (hb2.mono hb1.size)
      clear hh hb1 hb2
      go_wp2
      go_ret
      exact ⟨rfl, Hh.out.same hb3, Only.of_below hb3⟩
    | false =>
      rw [hh, if_neg (by simp)] at hk
      injection hk with h1 h2
      subst h1 h2
      have hb' := hb
      simp only [Bool.and_eq_true] at hb'
      have hqy := quotaB_yes hb'.2
      obtain ⟨qn, rfl⟩ := Int.eq_ofNat_of_zero_le hqy.1
      have hnm := hb'.1
      have HQ := Lib.hid hQ
      have hroom : M.length < maxLen := by unfold maxLen; omega
      have Hqn := Lib.hid hqy
      have Hnm := Lib.hid hnm
      have Hhh := Lib.hid hh
      have Hkey := Lib.hid (keyOf_name hsz)
      clear hQ hqy hnm hb' hmk
      go_enter Try.func49, Try.ntmps49
      go_wp2_with fail
      refine Calls.mono (may_any nm hsz qn w true hb) ?_
      rintro e w1 ⟨rfl, hb1⟩
      clear hb
      go_wp2_with fail
      refine Calls.mono (has_anyM s mb nm hsz w1 F M (HQ.out.below hb1) false hh) ?_
      rintro e w2 ⟨rfl, hb2⟩
      have hb3 := hb1.trans (hb2.mono hb1.size)
      clear hh hb1 hb2
      have hQ2 := HQ.out.below hb3
      have hc := md_cell hQ2
      obtain ⟨w4, hw4⟩ : ∃ x, x = w2.alloc (.map #[] 0) := ⟨_, rfl⟩
      have hb4 : Below w.heap.size w w4 := by rw [hw4]; exact hb3.alloc hb3.size _
      have hm4 : w4.ownsMap Try.prog 3 blkR w2.heap.size 0 (cellsD []) := by
        rw [hw4]
        exact World.ownsMap_made (H := Unit) w2 Try.prog 3 blkR
      have hown : w4.ownsMap Try.prog 9 imgR mb M.length (imgD M) := World.ownsMap.at_ HQ.out.hm (hb4.block mb (HQ.out.Flt mb HQ.out.Fm))
      have him : ImOk w4 ⟨⟨nm, qn, false, []⟩, 0, w2.heap.size⟩ := ⟨hm4, ⟨by have := Hqn.out; show qn ≤ 1048576; omega, by simp, List.Pairwise.nil, by simp, Hnm.out⟩⟩
      have Hadd := Lib.hid (fun (w5 : World) (n : Nat) h1 h2 => MdQ.add (w2 := w5) (n := n) HQ.out him hb4 hb3.size Hhh.out h1 h2)
      have Hpos := Lib.hid (fun (w5 : World) (hg : w4.grownBy w5 (some mb)) => show Only F w w5 from (Only.of_below hb4).trans ⟨hg.os, hg.tape, hg.output, hg.size, fun i hi hn => hg.block i hi fun e => hn (by injection e with e; rw [e]; exact HQ.out.Fm)⟩)
      have Hw4 := Lib.hid hw4
      clear hw4 him hm4 hb4 hQ2 hb3
      have hmk := @run_makeMap Try.prog
      have hbt := img_built
      go_wp2_with (at_mapUpdate; rw [← Hw4.out]; refine wpList_mapUpdate_own _ rfl _ _ _ 98 rfl 9 114 strKeyed Try.underlying98 imgR mb M.length (imgD M) rfl hown hroom _ _ _ rfl rfl Hkey.out _ [] (imgR_mk ⟨qn, false, some w2.heap.size⟩) ?_)
      intro w5 hown5 hg5
      have hfin := Hadd.out w5 _ hown5 hg5
      have hO := Hpos.out w5 hg5
      clear hown5 hg5 hown hmk hbt
      go_wp2_with fail
      go_ret
      refine ⟨rfl, ⟨_, mb, hfin, ?_⟩, hO⟩
      rw [vs_ins]
      rfl

set_option maxHeartbeats 1000000 in
set_option maxRecDepth 100000 in
theorem remove_any (s : Nat) (nm : ByteArray) (hsz : nm.size ≤ maxLen) (w : World) (F : Nat → Prop) (L : List Vol) (h : MdL w F s L) (L' : List Vol) (k : Int) (hk : deleteL L nm = (L', k)) :
    Calls Try.prog 50 #[.pointer (some ⟨s, 0, none⟩), .string nm] w fun e w' => e = .returned (.int .i64 k) ∧ MdL w' (newF F w w') s L' ∧ Only F w w' := by
  have Hh := Lib.hid h
  obtain ⟨M, mb, hQ, rfl⟩ := h
  unfold deleteL at hk
  rw [vs_has] at hk
  have HQ := Lib.hid hQ
  clear hQ
  cases hh : hasM M nm with
  | false =>
    rw [hh, if_neg (by simp)] at hk
    injection hk with h1 h2
    subst h1 h2
    go_enter Try.func50, Try.ntmps50
    go_wp2_with fail
    refine Calls.mono (has_anyM s mb nm hsz w F M HQ.out false hh) ?_
    rintro e w1 ⟨rfl, hb1⟩
    clear hh
    go_wp2
    go_ret
    exact ⟨rfl, Hh.out.same hb1, Only.of_below hb1⟩
  | true =>
    rw [hh, if_pos rfl] at hk
    injection hk with h1 h2
    subst h1 h2
    have Hkey := Lib.hid (keyOf_name hsz)
    go_enter Try.func50, Try.ntmps50
    go_wp2_with fail
    refine Calls.mono (has_anyM s mb nm hsz w F M HQ.out true hh) ?_
    rintro e w1 ⟨rfl, hb1⟩
    clear hh
    have hQ1 := HQ.out.below hb1
    have hc := md_cell hQ1
    have hown := hQ1.hm
    have HQ1 := Lib.hid hQ1
    have Hb1 := Lib.hid hb1
    clear hQ1 hb1
    go_wp2_with (at_delete; refine wpList_delete_own _ rfl _ _ 98 9 rfl 114 strKeyed Try.underlying98 imgR mb M.length (imgD M) rfl hown _ _ rfl Hkey.out ?_)
    intro w3 hown3 ht3
    have hg := ht3.grown
    have hfin := MdQ.del (w := w1) (w2 := w3) (nm := nm) HQ1.out hown3 hg
    have hO : Only F w w3 := (Only.of_below Hb1.out).trans ⟨hg.os, hg.tape, hg.output, hg.size, fun i hi hn => hg.block i hi fun e => hn (by injection e with e; rw [e]; exact HQ.out.Fm)⟩
    have hs1 := Hb1.out.size
    have hs3 := hg.size
    clear hown3 ht3 hown hg
    go_wp2_with fail
    go_ret
    refine ⟨rfl, MdL.more (F := newF F w1 w3) ⟨_, mb, hfin, vs_del _ _⟩ (fun b hb => ?_) (newF_lt HQ.out.Flt hO.size), hO⟩
    rcases hb with hb | hb
    · exact .inl hb
    · exact .inr ⟨by omega, hb.2⟩

end Go.Proofs.Ytcajhndhjlfmaaa

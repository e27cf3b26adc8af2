/-
  copy.
-/
import Derived.Test.YtcajhndhjlfmaaaModAns
import Derived.Shelf.SlMaps.Clone
import Derived.Shelf.SlGeneric
import Derived.Ground.SlmcProg
namespace Go.Proofs.Ytcajhndhjlfmaaa
open Go.RowKit
set_option linter.unusedVariables false
set_option linter.unusedSimpArgs false

shelf_lay_g SlLaysW.n5 Slmc 5 at Try 78 as Try.cloneA

/-- 'm[k] = v' in a region that draws its order. -/
theorem wp_mapUpdate_to {H : Type} {P : Program} {o : Oper} {a : Act} {w : World} {K : Act → World → Prop} {Q : Exit → Act → World → Prop} (hd : o.dst = none) (m x v : Operand) (t : TypeId) (hop : o.op = Op.mapUpdate t m x v)
    (k e : TypeId) (KK : Go.Maps.Keyed P k) (ht : P.underlying t = some (.map k e)) (R : Value → Option (DataW H × List MemPlace)) (b n : Nat) (D : DataW H)
    (hm : a.eval m = .map (some b)) (hown : w.ownsMap P k R b n D) (hn : n < maxLen) (key val : Value) (kl : Lit) (hx : a.eval x = key) (hv : a.eval v = val) (hkey : keyOf P k key = some kl)
    (d : DataW H) (ps : List MemPlace) (hval : R val = some (d, ps))
    (hK : ∀ w', w'.ownsMap P k R b (n + 1) (D.put kl d) → w.grownBy w' (some b) → K a w') : o.wp P a w K Q := by
  obtain ⟨w', hrun, r1, r2⟩ := World.ownsMap.update hown KK ht hn hkey hval
  have he : a.put o.dst undef = a := by rw [hd]; rfl
  have hk : K (a.put o.dst undef) w' := by rw [he]; exact hK w' r1 r2
  unfold Oper.wp
  simp [execOp, hop, hm, hx, hv, hrun, Result.andThen]
  exact hk

/-- What a copy leaves: the map, the images, and the copied one. -/
def CpPost (w' : World) (F : Nat → Prop) (s mb : Nat) (M : List Vm) (nm : ByteArray) (L' : List Vol) : Prop := ∃ M', MdQ w' F s mb M' ∧ vs M' = L' ∧ findM M' nm = findM M nm
theorem CpPost.same {w w' : World} {F : Nat → Prop} {s mb : Nat} {M : List Vm} {nm : ByteArray} (h : MdQ w F s mb M) (hb : Below w.heap.size w w') : CpPost w' (newF F w w') s mb M nm (vs M) :=
  ⟨M, h.kept (fun b hF => hb.block b (h.Flt b hF)) (fun _ h => .inl h) (newF_lt h.Flt hb.size), rfl, rfl⟩
theorem img_built3 (q : Int) (fr : Bool) (mo : Option Nat) : Try.prog.built 114 [(0, .int .i64 q), (1, .bool fr), (2, .map mo)] = some #[.int .i64 q, .bool fr, .map mo] := by kernel_rfl

set_option maxHeartbeats 4000000 in
set_option maxRecDepth 100000 in
theorem mcopy_bad (s : Nat) (nm other : ByteArray) (hsz : nm.size ≤ maxLen) (hsz2 : other.size ≤ maxLen) (q : Int) (fr : Bool) (w : World) (F : Nat → Prop) (M : List Vm) (mb : Nat) (hQ : MdQ w F s mb M) (L' : List Vol) (k : Int) (hk : copyL (vs M) nm other q fr = (L', k)) (hk0 : k ≠ 0) :
    Calls Try.prog 54 #[.pointer (some ⟨s, 0, none⟩), .string nm, .string other, .int .i64 q, .bool fr] w fun e w' => e = .returned (.int .i64 k) ∧ CpPost w' (newF F w w') s mb M nm L' ∧ Only F w w' := by
  have Hh := Lib.hid (fun (w' : World) (hb : Below w.heap.size w w') => show CpPost w' (newF F w w') s mb M nm (vs M) from CpPost.same hQ hb)
  have hc := md_cell hQ
  have HQ := Lib.hid hQ
  have hslt := hQ.Flt s hQ.Fs
  unfold copyL at hk
  obtain ⟨X, hX⟩ : ∃ X, X = ixOf (findM M nm) := ⟨_, rfl⟩
  have hl : (Instr.lookup 98 (.map (some mb)) (.string nm) false).run Try.prog w = .ok (.agg #[.int .i64 X.q, .bool X.fr, .map X.mo]) w := by rw [hX]; exact hQ.look hsz
  have hf2 := img_f2
  obtain ⟨Xq, Xf, Xm⟩ := X
  dsimp only at hl
  have HX := Lib.hid hX
  clear hQ hX
  cases hb : (namedB other.data.toList && quotaB q) with
  | false =>
    rw [hb, if_pos rfl] at hk
    injection hk with h1 h2
    subst h1 h2
    go_enter Try.func54, Try.ntmps54
    go_wp2_with fail
    refine Calls.mono (may_any other hsz2 q w false hb) ?_
    rintro e w1 ⟨rfl, hb1⟩
    clear hb
    go_wp2_with fail
    go_ret
    exact ⟨rfl, Hh.out _ hb1, Only.of_below hb1⟩
  | true =>
    rw [hb, if_neg (by simp), vs_find, vs_has] at hk
    cases hf : findM M nm with
    | none =>
      rw [hf] at hk
      simp only [Option.map_none] at hk
      injection hk with h1 h2
      subst h1 h2
      have hh : hasM M nm = false := by rw [hasM_find, hf]; rfl
      clear hf
      go_enter Try.func54, Try.ntmps54
      go_wp2_with fail
      refine Calls.mono (may_any other hsz2 q w true hb) ?_
      rintro e w1 ⟨rfl, hb1⟩
      clear hb
      go_wp2_with fail
      refine Calls.mono (has_anyM s mb nm hsz w1 F M (HQ.out.below hb1) false hh) ?_
      rintro e w2 ⟨rfl, hb2⟩
      have hb3 := hb1.trans (hb2.mono hb1.size)
      clear hh hb1 hb2
      go_wp2_with fail
      go_ret
      exact ⟨rfl, Hh.out _ hb3, Only.of_below hb3⟩
    | some m =>
      rw [hf] at hk
      simp only [Option.map_some] at hk
      have hh : hasM M nm = true := by rw [hasM_find, hf]; rfl
      have hXe := HX.out
      rw [hf] at hXe
      unfold ixOf at hXe
      injection hXe with e1 e2 e3
      cases ho : hasM M other with
      | true =>
        rw [ho, if_pos rfl] at hk
        injection hk with h1 h2
        subst h1 h2
        clear hf e1 e2 e3
        go_enter Try.func54, Try.ntmps54
        go_wp2_with fail
        refine Calls.mono (may_any other hsz2 q w true hb) ?_
        rintro e w1 ⟨rfl, hb1⟩
        clear hb
        go_wp2_with fail
        refine Calls.mono (has_anyM s mb nm hsz w1 F M (HQ.out.below hb1) true hh) ?_
        rintro e w2 ⟨rfl, hb2⟩
        have hb3 := hb1.trans (hb2.mono hb1.size)
        clear hh hb1 hb2
        go_wp2_with fail
        refine Calls.mono (has_anyM s mb other hsz2 w2 F M (HQ.out.below hb3) true ho) ?_
        rintro e w4 ⟨rfl, hb4⟩
        have hb5 := hb3.trans (hb4.mono hb3.size)
        clear ho hb3 hb4
        go_wp2_with fail
        go_ret
        exact ⟨rfl, Hh.out _ hb5, Only.of_below hb5⟩
      | false =>
        rw [ho, if_neg (by simp)] at hk
        by_cases hlt : q < m.v.cells.length
        · rw [if_pos hlt] at hk
          injection hk with h1 h2
          subst h1 h2
          have hmm := (findM_mem hf).1
          have Hmm := Lib.hid hmm
          subst e3
          clear hf hmm e1 e2
          obtain ⟨c, hce⟩ : ∃ c, m.v.cells.length = c := ⟨_, rfl⟩
          obtain ⟨qn, hqn⟩ := Int.eq_ofNat_of_zero_le (quotaB_yes (by simp only [Bool.and_eq_true] at hb; exact hb.2)).1
          subst hqn
          rw [hce] at hlt
          have hd : decide (qn < c) = true := by simp; omega
          have hd2 : decide ((c : Int) > (qn : Int)) = true := by simp; omega
          go_enter Try.func54, Try.ntmps54
          go_wp2_with fail
          refine Calls.mono (may_any other hsz2 qn w true hb) ?_
          rintro e w1 ⟨rfl, hb1⟩
          clear hb
          go_wp2_with fail
          refine Calls.mono (has_anyM s mb nm hsz w1 F M (HQ.out.below hb1) true hh) ?_
          rintro e w2 ⟨rfl, hb2⟩
          have hb3 := hb1.trans (hb2.mono hb1.size)
          clear hh hb1 hb2
          go_wp2_with fail
          refine Calls.mono (has_anyM s mb other hsz2 w2 F M (HQ.out.below hb3) false ho) ?_
          rintro e w4 ⟨rfl, hb4⟩
          have hb5 := hb3.trans (hb4.mono hb3.size)
          have hlen := ((HQ.out.below hb5).vm m Hmm.out).len 3
          rw [hce] at hlen
          clear ho hb3 hb4 hce
          go_wp2_with fail
          go_ret
          exact ⟨rfl, Hh.out _ hb5, Only.of_below hb5⟩
        · rw [if_neg hlt] at hk
          injection hk with h1 h2
          exact absurd h2.symm hk0

set_option maxHeartbeats 4000000 in
set_option maxRecDepth 100000 in
theorem mcopy_good (s : Nat) (nm other : ByteArray) (hsz : nm.size ≤ maxLen) (hsz2 : other.size ≤ maxLen) (q : Nat) (hq0 : q ≤ 1048576) (fr : Bool) (w : World) (F : Nat → Prop) (M : List Vm) (mb : Nat) (hQ : MdQ w F s mb M) (hL : M.length ≤ 100000) (m : Vm) (hf : findM M nm = some m) (hn : namedB other.data.toList = true) (ho : hasM M other = false) (hlt : m.v.cells.length ≤ q) :
    Calls Try.prog 54 #[.pointer (some ⟨s, 0, none⟩), .string nm, .string other, .int .i64 (q : Nat), .bool fr] w fun e w' => e = .returned (.int .i64 0) ∧ CpPost w' (newF F w w') s mb M nm (insV ⟨other, q, fr, m.v.cells⟩ (vs M)) ∧ Only F w w' := by
  have hh : hasM M nm = true := by rw [hasM_find, hf]; rfl
  have hq : quotaB (q : Nat) = true := by unfold quotaB; simp; omega
  have hb : (namedB other.data.toList && quotaB (q : Nat)) = true := by rw [hn, hq]; rfl
  have hc := md_cell hQ
  have hl : (Instr.lookup 98 (.map (some mb)) (.string nm) false).run Try.prog w = .ok (.agg #[.int .i64 (m.v.quota : Nat), .bool m.v.frozen, .map (some m.bb)]) w := by
    have := hQ.look (nm := nm) hsz
    rw [hf] at this
    exact this
  have hf2 := img_f2
  have HQ := Lib.hid hQ
  have Hmm := Lib.hid (findM_mem hf).1
  have Hmn := Lib.hid (findM_mem hf).2
  have Hf := Lib.hid hf
  have Hn := Lib.hid hn
  have Hlt := Lib.hid hlt
  have Hno : Hid (hasM M other = false) := ho
  have hslt := hQ.Flt s hQ.Fs
  have hroom : M.length < maxLen := by unfold maxLen; omega
  have Hkey := Lib.hid (keyOf_name hsz2)
  obtain ⟨c, hce⟩ : ∃ c, m.v.cells.length = c := ⟨_, rfl⟩
  have Hce := Lib.hid hce
  rw [hce] at hlt
  have hd : decide (q < c) = false := by simp; omega
  have hd2 : decide ((c : Int) > (q : Int)) = false := by simp; omega
  clear hf hQ hn hq hce
  go_enter Try.func54, Try.ntmps54
  go_wp2_with fail
  refine Calls.mono (may_any other hsz2 q w true hb) ?_
  rintro e w1 ⟨rfl, hb1⟩
  clear hb
  go_wp2_with fail
  refine Calls.mono (has_anyM s mb nm hsz w1 F M (HQ.out.below hb1) true hh) ?_
  rintro e w2 ⟨rfl, hb2⟩
  have hb3 := hb1.trans (hb2.mono hb1.size)
  clear hh hb1 hb2
  go_wp2_with fail
  refine Calls.mono (has_anyM s mb other hsz2 w2 F M (HQ.out.below hb3) false ho) ?_
  rintro e w4 ⟨rfl, hb4⟩
  have hb5 := hb3.trans (hb4.mono hb3.size)
  have HQ4 := Lib.hid (HQ.out.below hb5)
  have him4 := HQ4.out.vm m Hmm.out
  have hlen := him4.len 3
  rw [Hce.out] at hlen
  have Hb5 := Lib.hid hb5
  have Him4 := Lib.hid him4
  clear ho hb3 hb4 hb5 hc hl him4
  go_upto_region 10 with fail
  clear hlen hd hd2 hf2
  have Hcl := Lib.hid (fun n => AnyW.maps_Clone_owns (H := Unit) Try.cloneA 3 blkR m.bb m.v.cells.length (cellsD m.v.cells) (w4.drewN n) (Him4.out.kept rfl).hc)
  refine wp_region_held_drew (S := fun w' => ∃ F1 M1, MdQ w' F1 s mb M1) (by kernel_rfl) ⟨F, M, HQ4.out.kept (fun _ _ => rfl) (fun _ h => h) HQ4.out.Flt⟩ (fun hHeld => ?_)
  refine anyH_take (i := 0) (v := .pointer (some ⟨s, 0, none⟩)) (some 38) rfl rfl (by kernel_rfl) (by kernel_rfl) (by kernel_rfl) (fun _ _ _ h => h) (Or.inl ⟨by rfl, fun w' hw => by rfl⟩) (by assumption) ?_
  simp only [Act.put, List.setIfInBounds_toArray, List.set_cons_zero, List.set_cons_succ]
  refine anyH_take (i := 1) (v := .pointer (some ⟨s, 0, none⟩)) (some 39) rfl rfl (by kernel_rfl) (by kernel_rfl) (by kernel_rfl) (fun _ _ _ h => h) (Or.inl ⟨by rfl, fun w' hw => by (go_simp)⟩) (by assumption) ?_
  simp only [Act.put, List.setIfInBounds_toArray, List.set_cons_zero, List.set_cons_succ]
  refine anyH_take (i := 2) (v := .pointer (some ⟨s, 0, none⟩)) (some 40) rfl rfl (by kernel_rfl) (by kernel_rfl) (by kernel_rfl) (fun _ _ _ h => h) (Or.inl ⟨by rfl, fun w' hw => by (go_simp)⟩) (by assumption) ?_
  simp only [Act.put, List.setIfInBounds_toArray, List.set_cons_zero, List.set_cons_succ]
  refine anyH_take (i := 3) (v := .map (some mb)) (some 41) rfl rfl (by kernel_rfl) (by kernel_rfl) (by kernel_rfl) (fun _ _ _ h => h) (Or.inl ⟨by rfl, fun w' hw => by (obtain ⟨F1, M1, hw1⟩ := hw; have hc0 := md_cell hw1; go_simp)⟩) (by assumption) ?_
  simp only [Act.put, List.setIfInBounds_toArray, List.set_cons_zero, List.set_cons_succ]
  refine anyH_take (i := 4) (v := .string other) (some 42) rfl rfl (by kernel_rfl) (by kernel_rfl) (by kernel_rfl) (fun _ _ _ h => h) (Or.inl ⟨by rfl, fun w' hw => by rfl⟩) (by assumption) ?_
  simp only [Act.put, List.setIfInBounds_toArray, List.set_cons_zero, List.set_cons_succ]
  refine anyH_take (i := 5) (v := .int .i64 (q : Nat)) (some 43) rfl rfl (by kernel_rfl) (by kernel_rfl) (by kernel_rfl) (fun _ _ _ h => h) (Or.inl ⟨by rfl, fun w' hw => by rfl⟩) (by assumption) ?_
  simp only [Act.put, List.setIfInBounds_toArray, List.set_cons_zero, List.set_cons_succ]
  refine anyH_take (i := 6) (v := .bool fr) (some 44) rfl rfl (by kernel_rfl) (by kernel_rfl) (by kernel_rfl) (fun _ _ _ h => h) (Or.inl ⟨by rfl, fun w' hw => by rfl⟩) (by assumption) ?_
  simp only [Act.put, List.setIfInBounds_toArray, List.set_cons_zero, List.set_cons_succ]
  refine anyH_take (i := 7) (v := .map (some m.bb)) (some 45) rfl rfl (by kernel_rfl) (by kernel_rfl) (by kernel_rfl) (fun _ _ _ h => h) (Or.inl ⟨by rfl, fun w' hw => by rfl⟩) (by assumption) ?_
  simp only [Act.put, List.setIfInBounds_toArray, List.set_cons_zero, List.set_cons_succ]
  refine wpAnyH_ready (rs := [8]) (by kernel_rfl) (by simp) ?_
  refine AllReadyH.cons rfl (fun K hK => ?_) AllReadyH.nil
  go_simp
  go_at_call 78
  refine Calls.mono (Hcl.out _) ?_
  rintro e w5 ⟨rfl, hn1, _, hb6⟩
  have hb6 : Below w4.heap.size w4 w5 := (Below.dN (Below.refl _ w4) 1).trans hb6
  have hn1 : w5.ownsMap Try.prog 3 blkR w4.heap.size m.v.cells.length (cellsD m.v.cells) := hn1
  go_simp
  refine hK.out _ _ ⟨F, M, HQ4.out.below hb6⟩ (fun hHeldx => ?_)
  clear hK K
  try simp only [Act.put, List.setIfInBounds_toArray, List.set_cons_zero, List.set_cons_succ]
  refine anyH_take (i := 9) (v := .agg #[.int .i64 (q : Nat), .bool fr, .map (some w4.heap.size)]) (some 47) rfl rfl (by kernel_rfl) (by kernel_rfl) (by kernel_rfl) (fun _ _ _ h => h) (Or.inl ⟨by rfl, fun w' hw => by (have hbt := img_built3; go_simp)⟩) (by assumption) ?_
  simp only [Act.put, List.setIfInBounds_toArray, List.set_cons_zero, List.set_cons_succ]
  have hown5 := (HQ4.out.below hb6).hm
  have him5 : ImOk w5 ⟨⟨other, q, fr, m.v.cells⟩, 0, w4.heap.size⟩ := ⟨hn1, ⟨hq0, by rw [Hce.out]; exact hlt, Him4.out.ok.rs, Him4.out.ok.c, Hn.out⟩⟩
  refine wpAnyH_ready (rs := [10]) (by kernel_rfl) (by simp) ?_
  refine AllReadyH.cons rfl (fun K hK => ?_) AllReadyH.nil
  refine wp_mapUpdate_to rfl _ _ _ 98 rfl 9 114 strKeyed Try.underlying98 imgR mb M.length (imgD M) rfl hown5 hroom _ _ _ rfl rfl Hkey.out _ [] (imgR_mk ⟨(q : Nat), fr, some w4.heap.size⟩) ?_
  intro w7 hown7 hg7
  have hfin := MdQ.add HQ4.out him5 hb6 (Nat.le_refl _) Hno.out hown7 hg7
  have hO : Only F w w7 := (Only.of_below (Hb5.out.trans (hb6.mono Hb5.out.size))).trans ⟨hg7.os, hg7.tape, hg7.output, hg7.size, fun i hi hn => hg7.block i hi fun e => hn (by injection e with e; rw [e]; exact HQ.out.Fm)⟩
  have Hfin := Lib.hid hfin
  refine hK.out _ _ ⟨_, _, hfin⟩ (fun hHeldy => ?_)
  clear hK K hown7 hg7 hHeldy hHeldx hHeld hfin hown5 him5 hn1
  refine wpAnyH_done (by kernel_rfl) ?_ _
  go_wp2_with fail
  go_ret
  refine ⟨rfl, ⟨_, MdQ.kept Hfin.out (fun _ _ => rfl) (fun b hb => ?_) (newF_lt HQ.out.Flt hO.size), by rw [vs_ins], ?_⟩, hO⟩
  · have hs4 := Hb5.out.size
    rcases hb with hb | hb
    · exact .inl hb
    · exact .inr ⟨by omega, hb.2⟩
  · rw [findM_of Hfin.out.rs (insM_mem.2 (.inr Hmm.out)) Hmn.out, Hf.out]

theorem mcopy_any (s : Nat) (nm other : ByteArray) (hsz : nm.size ≤ maxLen) (hsz2 : other.size ≤ maxLen) (q : Int) (fr : Bool) (w : World) (F : Nat → Prop) (M : List Vm) (mb : Nat) (hQ : MdQ w F s mb M) (hL : M.length ≤ 100000) (L' : List Vol) (k : Int) (hk : copyL (vs M) nm other q fr = (L', k)) :
    Calls Try.prog 54 #[.pointer (some ⟨s, 0, none⟩), .string nm, .string other, .int .i64 q, .bool fr] w fun e w' => e = .returned (.int .i64 k) ∧ CpPost w' (newF F w w') s mb M nm L' ∧ Only F w w' := by
  by_cases hk0 : k = 0
  · subst hk0
    unfold copyL at hk
    by_cases h1 : (namedB other.data.toList && quotaB q) = false
    · rw [if_pos h1] at hk; injection hk with _ h2; cases h2
    · rw [if_neg h1, vs_find, vs_has] at hk
      simp only [Bool.not_eq_false, Bool.and_eq_true] at h1
      cases hf : findM M nm with
      | none => rw [hf] at hk; simp only [Option.map_none] at hk; injection hk with _ h2; cases h2
      | some m =>
        rw [hf] at hk
        simp only [Option.map_some] at hk
        cases ho : hasM M other with
        | true => rw [ho, if_pos rfl] at hk; injection hk with _ h2; cases h2
        | false =>
          rw [ho, if_neg (by simp)] at hk
          by_cases hlt : q < m.v.cells.length
          · rw [if_pos hlt] at hk; injection hk with _ h2; cases h2
          · rw [if_neg hlt] at hk
            injection hk with h2 _
            subst h2
            have hq := quotaB_yes h1.2
            obtain ⟨qn, rfl⟩ := Int.eq_ofNat_of_zero_le hq.1
            exact mcopy_good s nm other hsz hsz2 qn (by omega) fr w F M mb hQ hL m hf h1.1 ho (by omega)
  · exact mcopy_bad s nm other hsz hsz2 q fr w F M mb hQ L' k hk hk0

end Go.Proofs.Ytcajhndhjlfmaaa

/-
  Copy.
-/
import Derived.Test.YtcajhndhjlfmaaaGreatVolOps
namespace Go.Proofs.YtcajhndhjlfmaaaGreat
open Go.RowKit
set_option linter.unusedVariables false
set_option linter.unusedSimpArgs false

/-- 'm[k] = v' in a region that draws its order. -/
theorem wp_mapUpdate_to {H : Type} {P : Program} {o : Oper} {a : Act} {w : World} {K : Act → World → Prop} {Q : Exit → Act → World → Prop} (hd : o.dst = none) (m x v : Operand) (t : TypeId) (hop : o.op = Op.mapUpdate t m x v)
    (k e : TypeId) (KK : Go.Maps.Keyed P k) (ht : P.underlying t = some (.map k e)) (R : Value → Option (DataW H × List MemPlace)) (b n : Nat) (D : DataW H)
    (hm : a.eval m = .map (some b)) (hown : w.ownsMap P k R b n D) (hn : n < maxLen) (key val : Value) (kl : Lit) (hx : a.eval x = key) (hv : a.eval v = val) (hkey : keyOf P k key = some kl)
    (d : DataW H) (ps : List MemPlace) (hval : R val = some (d, ps))
    (hK : ∀ w', w'.ownsMap P k R b (n + 1) (D.put kl d) → w.grownBy w' (some b) → K a w') : o.wp P a w K Q := by
  obtain ⟨w', hrun, r1, r2⟩ := World.ownsMap.update hown KK ht hn hkey hval
  have he : a.put o.dst undef = a := by rw [hd]; rfl
  have hk : K (a.put o.dst undef) w' := by rw [he]; exact hK w' r1 r2
  unfold Oper.wp
  simp [execOp, hop, hm, hx, hv, hrun, Result.andThen]
  exact hk

set_option maxHeartbeats 1000000 in
theorem copy_bad (s : Nat) (nm other : ByteArray) (hsz : nm.size ≤ maxLen) (hsz2 : other.size ≤ maxLen) (q : Int) (hq1 : -9223372036854775808 ≤ q) (hq2 : q ≤ 9223372036854775807) (fr : Bool) (w : World) (F : Nat → Prop) (L : List Vol) (h : SetL w F s L) (L' : List Vol) (k : Int) (hk : copyL L nm other q fr = (L', k)) (hk0 : k ≠ 0) :
    Calls Tryz.prog 24 #[.pointer (some ⟨s, 0, none⟩), .string nm, .string other, .int .i64 q, .bool fr] w fun e w' => e = .returned (.int .i64 k) ∧ SetL w' (newF F w w') s L' ∧ Only F w w' := by
  unfold copyL at hk
  obtain ⟨M, hM, rfl⟩ := h
  have Hp : Hid (SetL w F s (vs M)) := ⟨M, hM, rfl⟩
  cases hn : namedB other.data.toList with
  | false =>
    rw [hn, Bool.false_and, if_pos rfl] at hk
    injection hk with h1 h2
    subst h1 h2
    clear hM
    go_enter Tryz.func24, Tryz.ntmps24
    go_wp2_with fail
    refine Calls.mono (mayName_any other hsz2 w false hn) ?_
    rintro e w' ⟨rfl, rfl⟩
    clear hn
    go_wp2
    go_ret
    exact ⟨rfl, Hp.out.same (Below.refl _ _), Only.refl _ _⟩
  | true =>
    cases hq : quotaB q with
    | false =>
      rw [hn, hq, Bool.true_and, if_pos rfl] at hk
      injection hk with h1 h2
      subst h1 h2
      clear hM
      go_enter Tryz.func24, Tryz.ntmps24
      go_wp2_with fail
      refine Calls.mono (mayName_any other hsz2 w true hn) ?_
      rintro e w' ⟨rfl, rfl⟩
      clear hn
      go_wp2_with fail
      refine Calls.mono (mayQuota_any q w false hq) ?_
      rintro e w' ⟨rfl, rfl⟩
      clear hq
      go_wp2
      go_ret
      exact ⟨rfl, Hp.out.same (Below.refl _ _), Only.refl _ _⟩
    | true =>
      rw [hn, hq, Bool.true_and, if_neg (by simp), vs_find, vs_has] at hk
      cases hf : findM M nm with
      | none =>
        rw [hf] at hk
        simp only [Option.map_none] at hk
        injection hk with h1 h2
        subst h1 h2
        have hh : hasM M nm = false := by rw [hasM_find, hf]; rfl
        clear hf
        go_enter Tryz.func24, Tryz.ntmps24
        go_wp2_with fail
        refine Calls.mono (mayName_any other hsz2 w true hn) ?_
        rintro e w' ⟨rfl, rfl⟩
        clear hn
        go_wp2_with fail
        refine Calls.mono (mayQuota_any q w true hq) ?_
        rintro e w' ⟨rfl, rfl⟩
        clear hq
        go_wp2_with fail
        refine Calls.mono (has_any s nm hsz w F M hM false hh) ?_
        rintro e w' ⟨rfl, rfl⟩
        clear hM hh
        go_wp2
        go_ret
        exact ⟨rfl, Hp.out.same (Below.refl _ _), Only.refl _ _⟩
      | some m =>
        rw [hf] at hk
        simp only [Option.map_some] at hk
        have hh : hasM M nm = true := by rw [hasM_find, hf]; rfl
        cases ho : hasM M other with
        | true =>
          rw [ho, if_pos rfl] at hk
          injection hk with h1 h2
          subst h1 h2
          clear hf
          go_enter Tryz.func24, Tryz.ntmps24
          go_wp2_with fail
          refine Calls.mono (mayName_any other hsz2 w true hn) ?_
          rintro e w' ⟨rfl, rfl⟩
          clear hn
          go_wp2_with fail
          refine Calls.mono (mayQuota_any q w true hq) ?_
          rintro e w' ⟨rfl, rfl⟩
          clear hq
          go_wp2_with fail
          refine Calls.mono (has_any s nm hsz w F M hM true hh) ?_
          rintro e w' ⟨rfl, rfl⟩
          go_wp2_with fail
          refine Calls.mono (has_any s other hsz2 w F M hM true ho) ?_
          rintro e w' ⟨rfl, rfl⟩
          clear hM hh
          go_wp2
          go_ret
          exact ⟨rfl, Hp.out.same (Below.refl _ _), Only.refl _ _⟩
        | false =>
          rw [ho, if_neg (by simp)] at hk
          by_cases hlt : q < m.v.cells.length
          · rw [if_pos hlt] at hk
            injection hk with h1 h2
            subst h1 h2
            obtain ⟨mb, hQ⟩ := hM
            have hM : SetW w F s M := ⟨mb, hQ⟩
            have hc := hQ.hs.cell 0
            simp only [List.getElem?_cons_zero] at hc
            have hl := hQ.look_yes hsz hf
            have hvm := hQ.vm m (findM_mem hf).1
            have hc2 := hvm.hv.cell 2
            simp only [List.getElem?_cons_succ, List.getElem?_cons_zero] at hc2
            have hlen := hvm.len 3
            obtain ⟨c, hce⟩ : ∃ c, m.v.cells.length = c := ⟨_, rfl⟩
            rw [hce] at hlen hlt
            obtain ⟨qn, rfl⟩ := Int.eq_ofNat_of_zero_le (quotaB_yes hq).1
            have hd : decide (qn < c) = true := by simp; omega
            have hd2 : decide ((c : Int) > (qn : Int)) = true := by simp; omega
            clear hf hQ hvm hce
            go_enter Tryz.func24, Tryz.ntmps24
            go_wp2_with fail
            refine Calls.mono (mayName_any other hsz2 w true hn) ?_
            rintro e w' ⟨rfl, rfl⟩
            clear hn
            go_wp2_with fail
            refine Calls.mono (mayQuota_any qn w true hq) ?_
            rintro e w' ⟨rfl, rfl⟩
            clear hq
            go_wp2_with fail
            refine Calls.mono (has_any s nm hsz w F M hM true hh) ?_
            rintro e w' ⟨rfl, rfl⟩
            go_wp2_with fail
            refine Calls.mono (has_any s other hsz2 w F M hM false ho) ?_
            rintro e w' ⟨rfl, rfl⟩
            clear hM hh ho
            go_wp2
            go_ret
            exact ⟨rfl, Hp.out.same (Below.refl _ _), Only.refl _ _⟩
          · rw [if_neg hlt] at hk
            injection hk with h1 h2
            exact absurd h2.symm hk0

set_option maxHeartbeats 1000000 in
set_option maxRecDepth 100000 in
theorem copy_good (s : Nat) (nm other : ByteArray) (hsz : nm.size ≤ maxLen) (hsz2 : other.size ≤ maxLen) (q : Nat) (hq0 : q ≤ 1048576) (fr : Bool) (w : World) (F : Nat → Prop) (M : List Vm) (mb : Nat) (hQ : SetQ w F s mb M) (hL : M.length ≤ 100000) (m : Vm) (hf : findM M nm = some m) (hn : namedB other.data.toList = true) (ho : hasM M other = false) (hlt : m.v.cells.length ≤ q) :
    Calls Tryz.prog 24 #[.pointer (some ⟨s, 0, none⟩), .string nm, .string other, .int .i64 (q : Nat), .bool fr] w fun e w' => e = .returned (.int .i64 0) ∧ SetL w' (newF F w w') s (insV ⟨other, q, fr, m.v.cells⟩ (vs M)) ∧ Only F w w' := by
  have hM : SetW w F s M := ⟨mb, hQ⟩
  have hh : hasM M nm = true := by rw [hasM_find, hf]; rfl
  have hq : quotaB (q : Nat) = true := by unfold quotaB; simp; omega
  have hc := hQ.hs.cell 0
  simp only [List.getElem?_cons_zero] at hc
  have hl := hQ.look_yes hsz hf
  have hvm := hQ.vm m (findM_mem hf).1
  have hc2 := hvm.hv.cell 2
  simp only [List.getElem?_cons_succ, List.getElem?_cons_zero] at hc2
  have hlen := hvm.len 3
  have Hle := Lib.hid hlt
  obtain ⟨c, hce⟩ : ∃ c, m.v.cells.length = c := ⟨_, rfl⟩
  rw [hce] at hlen hlt
  have hd : decide (q < c) = false := by simp; omega
  have hd2 : decide ((c : Int) > (q : Int)) = false := by simp; omega
  have hslt := hQ.Flt s hQ.Fs
  have hmlt := hQ.Flt mb hQ.Fm
  have Hkey := Lib.hid (keyOf_name hsz2)
  have hroom : M.length < maxLen := by unfold maxLen; omega
  have Hcp := Lib.hid (fun n => copied_any m q fr (w.drewN n) (hvm.kept rfl rfl) Hle.out hq0 other hn)
  have Hadd := Lib.hid (fun (w1 w3 : World) (x : Vm) (n : Nat) (hx : VmOk w1 x) h0 h1 h2 h3 h4 h5 => SetQ.add (w1 := w1) (w2 := w3) (n := n) hQ hx h0 h1 h2 h3 h4 h5)
  have Hown := Lib.hid (fun (w1 : World) (h : Below w.heap.size w w1) => show w1.ownsMap Tryz.prog 9 ptrR mb M.length (ptrD M) from World.ownsMap.at_ hQ.hm (h.block mb hmlt))
  have Hpos := Lib.hid (fun (w2 w3 : World) (hb2 : Below w.heap.size w w2) (hg : w2.grownBy w3 (some mb)) => show Only F w w3 from (Only.of_below hb2).trans ⟨hg.os, hg.tape, hg.output, hg.size, fun i hi hn => hg.block i hi fun e => hn (by injection e with e; rw [e]; exact hQ.Fm)⟩)
  have Hno : Hid (hasM M other = false) := ho
  have HQ := Lib.hid hQ
  have Hf := Lib.hid hf
  clear hf hQ hvm hce
  go_enter Tryz.func24, Tryz.ntmps24
  go_wp2_with fail
  refine Calls.mono (mayName_any other hsz2 w true hn) ?_
  rintro e w' ⟨rfl, rfl⟩
  clear hn
  go_wp2_with fail
  refine Calls.mono (mayQuota_any q w true hq) ?_
  rintro e w' ⟨rfl, rfl⟩
  clear hq
  go_wp2_with fail
  refine Calls.mono (has_any s nm hsz w F M hM true hh) ?_
  rintro e w' ⟨rfl, rfl⟩
  go_wp2_with fail
  refine Calls.mono (has_any s other hsz2 w F M hM false ho) ?_
  rintro e w' ⟨rfl, rfl⟩
  clear hM hh ho
  go_upto_region 9 with fail
  refine wp_region_held_drew (S := fun w' => ∃ F1 M1, SetQ w' F1 s mb M1 ∧ findM M1 nm = some m) (by kernel_rfl) ⟨F, M, HQ.out.kept (fun _ _ => rfl) (fun _ h => h) HQ.out.Flt, Hf.out⟩ (fun hHeld => ?_)
  refine anyH_take (i := 0) (v := .pointer (some ⟨s, 0, none⟩)) (some 42) rfl rfl (by kernel_rfl) (by kernel_rfl) (by kernel_rfl) (fun _ _ _ h => h) (Or.inl ⟨by rfl, fun w' hw => by rfl⟩) (by assumption) ?_
  simp only [Act.put, List.setIfInBounds_toArray, List.set_cons_zero, List.set_cons_succ]
  refine anyH_take (i := 1) (v := .pointer (some ⟨s, 0, none⟩)) (some 43) rfl rfl (by kernel_rfl) (by kernel_rfl) (by kernel_rfl) (fun _ _ _ h => h) (Or.inl ⟨by rfl, fun w' hw => by (go_simp)⟩) (by assumption) ?_
  simp only [Act.put, List.setIfInBounds_toArray, List.set_cons_zero, List.set_cons_succ]
  refine anyH_take (i := 2) (v := .pointer (some ⟨s, 0, none⟩)) (some 44) rfl rfl (by kernel_rfl) (by kernel_rfl) (by kernel_rfl) (fun _ _ _ h => h) (Or.inl ⟨by rfl, fun w' hw => by (go_simp)⟩) (by assumption) ?_
  simp only [Act.put, List.setIfInBounds_toArray, List.set_cons_zero, List.set_cons_succ]
  refine anyH_take (i := 3) (v := .map (some mb)) (some 45) rfl rfl (by kernel_rfl) (by kernel_rfl) (by kernel_rfl) (fun _ _ _ h => h) (Or.inl ⟨by rfl, fun w' hw => by (obtain ⟨F1, M1, hw, _⟩ := hw; have hc0 := hw.hs.cell 0; simp only [List.getElem?_cons_zero] at hc0; go_simp)⟩) (by assumption) ?_
  simp only [Act.put, List.setIfInBounds_toArray, List.set_cons_zero, List.set_cons_succ]
  refine anyH_take (i := 4) (v := .string other) (some 46) rfl rfl (by kernel_rfl) (by kernel_rfl) (by kernel_rfl) (fun _ _ _ h => h) (Or.inl ⟨by rfl, fun w' hw => by rfl⟩) (by assumption) ?_
  simp only [Act.put, List.setIfInBounds_toArray, List.set_cons_zero, List.set_cons_succ]
  refine anyH_take (i := 5) (v := .pointer (some ⟨s, 0, none⟩)) (some 47) rfl rfl (by kernel_rfl) (by kernel_rfl) (by kernel_rfl) (fun _ _ _ h => h) (Or.inl ⟨by rfl, fun w' hw => by rfl⟩) (by assumption) ?_
  simp only [Act.put, List.setIfInBounds_toArray, List.set_cons_zero, List.set_cons_succ]
  refine anyH_take (i := 6) (v := .pointer (some ⟨s, 0, none⟩)) (some 48) rfl rfl (by kernel_rfl) (by kernel_rfl) (by kernel_rfl) (fun _ _ _ h => h) (Or.inl ⟨by rfl, fun w' hw => by (go_simp)⟩) (by assumption) ?_
  simp only [Act.put, List.setIfInBounds_toArray, List.set_cons_zero, List.set_cons_succ]
  refine anyH_take (i := 7) (v := .pointer (some ⟨s, 0, none⟩)) (some 49) rfl rfl (by kernel_rfl) (by kernel_rfl) (by kernel_rfl) (fun _ _ _ h => h) (Or.inl ⟨by rfl, fun w' hw => by (go_simp)⟩) (by assumption) ?_
  simp only [Act.put, List.setIfInBounds_toArray, List.set_cons_zero, List.set_cons_succ]
  refine anyH_take (i := 8) (v := .map (some mb)) (some 50) rfl rfl (by kernel_rfl) (by kernel_rfl) (by kernel_rfl) (fun _ _ _ h => h) (Or.inl ⟨by rfl, fun w' hw => by (obtain ⟨F1, M1, hw, _⟩ := hw; have hc0 := hw.hs.cell 0; simp only [List.getElem?_cons_zero] at hc0; go_simp)⟩) (by assumption) ?_
  simp only [Act.put, List.setIfInBounds_toArray, List.set_cons_zero, List.set_cons_succ]
  refine anyH_take (i := 9) (v := .string nm) (some 51) rfl rfl (by kernel_rfl) (by kernel_rfl) (by kernel_rfl) (fun _ _ _ h => h) (Or.inl ⟨by rfl, fun w' hw => by rfl⟩) (by assumption) ?_
  simp only [Act.put, List.setIfInBounds_toArray, List.set_cons_zero, List.set_cons_succ]
  refine anyH_take (i := 10) (v := .pointer (some ⟨m.vb, 0, none⟩)) (some 52) rfl rfl (by kernel_rfl) (by kernel_rfl) (by kernel_rfl) (fun _ _ _ h => h) (Or.inl ⟨by rfl, fun w' hw => by (obtain ⟨F1, M1, hw, hf1⟩ := hw; have hl0 := hw.look_yes hsz hf1; go_simp)⟩) (by assumption) ?_
  simp only [Act.put, List.setIfInBounds_toArray, List.set_cons_zero, List.set_cons_succ]
  refine anyH_take (i := 11) (v := .int .i64 (q : Nat)) (some 53) rfl rfl (by kernel_rfl) (by kernel_rfl) (by kernel_rfl) (fun _ _ _ h => h) (Or.inl ⟨by rfl, fun w' hw => by rfl⟩) (by assumption) ?_
  simp only [Act.put, List.setIfInBounds_toArray, List.set_cons_zero, List.set_cons_succ]
  refine anyH_take (i := 12) (v := .bool fr) (some 54) rfl rfl (by kernel_rfl) (by kernel_rfl) (by kernel_rfl) (fun _ _ _ h => h) (Or.inl ⟨by rfl, fun w' hw => by rfl⟩) (by assumption) ?_
  simp only [Act.put, List.setIfInBounds_toArray, List.set_cons_zero, List.set_cons_succ]
  refine wpAnyH_ready (rs := [13]) (by kernel_rfl) (by simp) ?_
  refine AllReadyH.cons rfl (fun K hK => ?_) AllReadyH.nil
  go_simp
  go_at_call 51
  refine Calls.mono (Hcp.out _) ?_
  rintro e w1 ⟨x, rfl, hx, hxv, h1, h2, hb1⟩
  have hb1 : Below w.heap.size w w1 := (Below.dN (Below.refl _ w) 1).trans hb1
  have h1 : w.heap.size ≤ x.vb := h1
  have h2 : w.heap.size ≤ x.bb := h2
  have hown1 := Hown.out w1 hb1
  go_wp2_with fail
  refine hK.out _ _ ⟨F, M, HQ.out.kept (fun b hF => hb1.block b (HQ.out.Flt b hF)) (fun _ h => h) fun b hF => Nat.lt_of_lt_of_le (HQ.out.Flt b hF) hb1.size, Hf.out⟩ (fun hHeldx => ?_)
  clear hK K
  try simp only [Act.put, List.setIfInBounds_toArray, List.set_cons_zero, List.set_cons_succ]
  refine wpAnyH_ready (rs := [14]) (by kernel_rfl) (by simp) ?_
  refine AllReadyH.cons rfl (fun K hK => ?_) AllReadyH.nil
  rw [if_pos (by rfl)]
  refine wp_mapUpdate_to rfl _ _ _ 50 rfl 9 62 strKeyed Tryz.underlying50 ptrR mb M.length (ptrD M) rfl hown1 hroom _ _ _ rfl rfl Hkey.out _ [] (ptrR_mk x.vb) ?_
  intro w3 hown3 hg3
  have hfin := Hadd.out w1 w3 x _ hx hb1 h1 h2 (by rw [hxv]; exact Hno.out) (by rw [hxv]; exact hown3) hg3
  have hO := Hpos.out w1 w3 hb1 hg3
  have hf3 : findM (insM x M) nm = some m := findM_of hfin.rs (insM_mem.2 (.inr (findM_mem Hf.out).1)) (findM_mem Hf.out).2
  have Hfin := Lib.hid hfin
  refine hK.out _ _ ⟨_, _, hfin, hf3⟩ (fun hHeldy => ?_)
  clear hK K hown3 hg3 hHeldy hHeldx hHeld hfin hown1 hf3
  refine wpAnyH_done (by kernel_rfl) ?_ _
  go_wp2_with fail
  go_ret
  refine ⟨rfl, ⟨_, ⟨mb, Hfin.out⟩, ?_⟩, hO⟩
  rw [vs_ins, hxv]

set_option maxHeartbeats 1000000 in
theorem copy_any (s : Nat) (nm other : ByteArray) (hsz : nm.size ≤ maxLen) (hsz2 : other.size ≤ maxLen) (q : Int) (hq1 : -9223372036854775808 ≤ q) (hq2 : q ≤ 9223372036854775807) (fr : Bool) (w : World) (F : Nat → Prop) (L : List Vol) (h : SetL w F s L) (hL : L.length ≤ 100000) (L' : List Vol) (k : Int) (hk : copyL L nm other q fr = (L', k)) :
    Calls Tryz.prog 24 #[.pointer (some ⟨s, 0, none⟩), .string nm, .string other, .int .i64 q, .bool fr] w fun e w' => e = .returned (.int .i64 k) ∧ SetL w' (newF F w w') s L' ∧ Only F w w' := by
  by_cases hk0 : k = 0
  · subst hk0
    obtain ⟨M, ⟨mb, hQ⟩, rfl⟩ := h
    unfold copyL at hk
    by_cases h1 : (namedB other.data.toList && quotaB q) = false
    · rw [if_pos h1] at hk; injection hk with _ h2; cases h2
    · rw [if_neg h1, vs_find, vs_has] at hk
      simp only [Bool.not_eq_false, Bool.and_eq_true] at h1
      cases hf : findM M nm with
      | none => rw [hf] at hk; simp only [Option.map_none] at hk; injection hk with _ h2; cases h2
      | some m =>
        rw [hf] at hk
        simp only [Option.map_some] at hk
        cases ho : hasM M other with
        | true => rw [ho, if_pos rfl] at hk; injection hk with _ h2; cases h2
        | false =>
          rw [ho, if_neg (by simp)] at hk
          by_cases hlt : q < m.v.cells.length
          · rw [if_pos hlt] at hk; injection hk with _ h2; cases h2
          · rw [if_neg hlt] at hk
            injection hk with h2 _
            subst h2
            have hq := quotaB_yes h1.2
            obtain ⟨qn, rfl⟩ := Int.eq_ofNat_of_zero_le hq.1
            rw [vs_length] at hL
            exact copy_good s nm other hsz hsz2 qn (by omega) fr w F M mb hQ hL m hf h1.1 ho (by omega)
  · exact copy_bad s nm other hsz hsz2 q hq1 hq2 fr w F L h L' k hk hk0

end Go.Proofs.YtcajhndhjlfmaaaGreat

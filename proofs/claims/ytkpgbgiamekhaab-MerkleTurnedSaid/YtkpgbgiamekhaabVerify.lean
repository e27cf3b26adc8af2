/-
  Verify, the program's and the document's.
-/
import Derived.Test.YtkpgbgiamekhaabLed
import Derived.Test.YtkpgbgiamekhaabRLead
namespace Go.Proofs.Ytkpgbgiamekhaab
open Go.RowKit
set_option linter.unusedVariables false
set_option linter.unusedSimpArgs false

/-- A whole array is read, under a guard that holds. -/
theorem wpList_load_row_if {P : Program} {ops : Array Oper} {rest : List Oper} {o : Oper} {a : Act} {w : World} {Q : Exit → Act → World → Prop} (hw : Region.wanted o (yielded ops a.tmps) = true) (ty : TypeId) (x : Operand) (ho : o.op = .load ty x) (g : Nat) (hx : a.eval x = .pointer (some ⟨g, 0, none⟩))
    (t : TypeId) (cs : Array Value) (d : TypeDesc) (hg : w.heap[g]? = some (.cells cs t (0, 0))) (hu : P.underlying ty = some d) (hd : (match d with | .struct _ | .array _ _ => true | _ => false) = true) (hi : (P.info? ty).map (·.size) = some cs.size)
    (h : wpList P ops Q rest (a.put o.dst (.agg cs)) w) : wpList P ops Q (o :: rest) a w :=
  wpList_step fun K hK => by
    rw [if_pos hw]
    unfold Oper.wp execOp
    simp only [ho, hx, Sem.run_bind, run_loadAt_row w g t ty cs d hg hu hd hi, Result.andThen_ok]
    exact hK _ _ h

/-- Does a proof show a row? -/
def verF (rt : List UInt8) (n a : Int) (row : List UInt8) (ds : List (List UInt8)) : Bool :=
  if a < 0 ∨ n ≤ a then false else (leadF n.toNat a.toNat row ds).2 && decide ((leadF n.toNat a.toNat row ds).1 = rt)
theorem verF_out {rt : List UInt8} {n a : Int} {row : List UInt8} {ds : List (List UInt8)} (h : a < 0 ∨ n ≤ a) : verF rt n a row ds = false := by unfold verF; rw [if_pos h]
theorem verF_in {rt : List UInt8} {n a : Nat} {row : List UInt8} {ds : List (List UInt8)} (h : a < n) : verF rt n a row ds = ((leadF n a row ds).2 && decide ((leadF n a row ds).1 = rt)) := by unfold verF; rw [if_neg (by omega)]; rfl

set_option maxHeartbeats 4000000 in
set_option maxRecDepth 100000 in
theorem verify_out (RtL : List Value) (n a : Int) (Ar : Option Addr) (lr cr : Nat) (Ap : Option Addr) (m cp : Nat) (w : World) (h : a < 0 ∨ n ≤ a) :
    Calls Try.prog 16 #[.agg RtL.toArray, .int .i64 n, .int .i64 a, .slice Ar lr cr, .slice Ap m cp] w fun e w' => e = .returned (.bool false) ∧ Below w.heap.size w w' := by
  have hd : decide (a < 0) = true ∨ (decide (a < 0) = false ∧ decide (n ≤ a) = true) := by
    simp only [decide_eq_true_eq, decide_eq_false_iff_not]
    omega
  have hb : Below w.heap.size w (w.alloc (.cells RtL.toArray 26)) := (Below.refl _ w).alloc (Nat.le_refl _) _
  clear h
  rcases hd with h1 | ⟨h1, h2⟩
  all_goals
    go_enter Try.func16, Try.ntmps16
    go_wp2_with fail
    go_ret
    exact ⟨rfl, hb⟩

set_option maxHeartbeats 4000000 in
set_option maxRecDepth 100000 in
theorem rverify_out (RtL : List Value) (n a : Int) (Ar : Option Addr) (lr cr : Nat) (Ap : Option Addr) (m cp : Nat) (w : World) (h : a < 0 ∨ n ≤ a) :
    Calls Try.prog 19 #[.agg RtL.toArray, .int .i64 n, .int .i64 a, .slice Ar lr cr, .slice Ap m cp] w fun e w' => e = .returned (.bool false) ∧ Below w.heap.size w w' := by
  have hd : decide (a < 0) = true ∨ (decide (a < 0) = false ∧ decide (n ≤ a) = true) := by
    simp only [decide_eq_true_eq, decide_eq_false_iff_not]
    omega
  have hb : Below w.heap.size w (w.alloc (.cells RtL.toArray 26)) := (Below.refl _ w).alloc (Nat.le_refl _) _
  clear h
  rcases hd with h1 | ⟨h1, h2⟩
  all_goals
    go_enter Try.func19, Try.ntmps19
    go_wp2_with fail
    go_ret
    exact ⟨rfl, hb⟩

/-- What a call to Verify is given. -/
structure VIn (w : World) (rt : List UInt8) (RtL : List Value) (row : List UInt8) (ds : List (List UInt8)) (Ar : Option Addr) (lr cr : Nat) (Ap : Option Addr) (m cp : Nat) : Prop where
  rt32 : rt.length = 32
  hRt : RtL = Lib.byteCells rt
  hrl : row.length = lr
  hr0 : lr ≤ 300
  hlc : lr ≤ cr
  hcm : cr ≤ maxLen
  hbs : Bs w w.heap.size Ar row
  hds : ds.length = m
  hmc : m ≤ cp
  hcp : cp ≤ 9223372036854775807
  hdg : DigsAt w Ap ds
theorem VIn.up {w w' : World} {rt : List UInt8} {RtL : List Value} {row : List UInt8} {ds : List (List UInt8)} {Ar : Option Addr} {lr cr : Nat} {Ap : Option Addr} {m cp : Nat} (h : VIn w rt RtL row ds Ar lr cr Ap m cp) (hb : Below w.heap.size w w') : VIn w' rt RtL row ds Ar lr cr Ap m cp :=
  ⟨h.rt32, h.hRt, h.hrl, h.hr0, h.hlc, h.hcm, (h.hbs.below hb (Nat.le_refl _)).more hb.size, h.hds, h.hmc, h.hcp, h.hdg.below hb⟩

set_option maxHeartbeats 4000000 in
set_option maxRecDepth 100000 in
theorem verify_short (n a : Nat) (han : a < n) (hn6 : n ≤ 9223372036854775807) (rt : List UInt8) (RtL : List Value) (row : List UInt8) (ds : List (List UInt8)) (Ar : Option Addr) (lr cr : Nat) (Ap : Option Addr) (m cp : Nat) (w : World) (h : VIn w rt RtL row ds Ar lr cr Ap m cp) (hmp : m ≠ plenF n a) :
    Calls Try.prog 16 #[.agg RtL.toArray, .int .i64 (n : Nat), .int .i64 (a : Nat), .slice Ar lr cr, .slice Ap m cp] w fun e w' => e = .returned (.bool false) ∧ Below w.heap.size w w' := by
  have hb : Below w.heap.size w (w.alloc (.cells RtL.toArray 26)) := (Below.refl _ w).alloc (Nat.le_refl _) _
  have h1 : decide ((a : Int) < 0) = false := by simp
  have h2 : decide (n ≤ a) = false := by simp; omega
  have hpl := Lib.hid (fun w => plen_any n a w (by omega) hn6 han)
  obtain ⟨P, hP⟩ : ∃ P, plenF n a = P := ⟨_, rfl⟩
  rw [hP] at hpl hmp
  have h3 : ((m : Int) == (P : Int)) = false := by rw [beq_eq_false_iff_ne]; omega
  have Hmc := Lib.hid h.hmc
  have Hcp := Lib.hid h.hcp
  clear hP hmp
  go_enter Try.func16, Try.ntmps16
  go_wp2_with fail
  refine Calls.mono (hpl.out _) ?_
  rintro e w1 ⟨rfl, rfl⟩
  go_wp2_with fail
  go_ret
  exact ⟨rfl, hb⟩

set_option maxHeartbeats 8000000 in
set_option maxRecDepth 100000 in
theorem verify_good (n a : Nat) (han : a < n) (hn6 : n ≤ 9223372036854775807) (rt : List UInt8) (RtL : List Value) (row : List UInt8) (ds : List (List UInt8)) (Ar : Option Addr) (lr cr : Nat) (Ap : Option Addr) (m cp : Nat) (B : Bool) (w : World) (h : VIn w rt RtL row ds Ar lr cr Ap m cp) (hmp : m = plenF n a) (hBe : decide ((leadF n a row ds).1 = rt) = B) :
    Calls Try.prog 16 #[.agg RtL.toArray, .int .i64 (n : Nat), .int .i64 (a : Nat), .slice Ar lr cr, .slice Ap m cp] w fun e w' => e = .returned (.bool B) ∧ Below w.heap.size w w' := by
  obtain ⟨hrt, hRt, hrl, hr0, hlc, hcm, hbs, hds, hmc, hcp, hdg⟩ := h
  obtain ⟨W, hW⟩ : ∃ W, W = w.alloc (.cells RtL.toArray 26) := ⟨_, rfl⟩
  have hRW : Arr W w.heap.size 26 RtL := by rw [hW]; exact Arr.new w _ _
  have hBw : Below w.heap.size w W := by rw [hW]; exact (Below.refl _ w).alloc (Nat.le_refl _) _
  have hbsW : Bs W W.heap.size Ar row := (hbs.below hBw (Nat.le_refl _)).more hBw.size
  have hdgW : DigsAt W Ap ds := hdg.below hBw
  have h1 : decide ((a : Int) < 0) = false := by simp
  have h2 : decide (n ≤ a) = false := by simp; omega
  have hpl := Lib.hid (fun w => plen_any n a w (by omega) hn6 han)
  have h3 : ((m : Int) == ((plenF n a : Nat) : Int)) = true := by rw [beq_iff_eq]; omega
  have Hmp := Lib.hid hmp
  obtain ⟨P, hP⟩ : ∃ P, plenF n a = P := ⟨_, rfl⟩
  rw [hP] at hpl h3
  have hgt := gt32
  obtain ⟨IL, hIL⟩ : ∃ V, V = Lib.byteCells ((leadF n a row ds).1) := ⟨_, rfl⟩
  have HILl := Lib.hid (show IL.length = 32 by rw [hIL, Lib.byteCells_length]; exact leadF_length _ _ _ _)
  have HILi := Lib.hid (show (Try.prog.info? 26).map (·.size) = some IL.toArray.size by rw [List.size_toArray, HILl.out]; exact digInfo)
  have HIL1 := Lib.hid (show IL.toArray.all (·.oneCell') = true by rw [hIL]; exact dig_one _)
  have HILs := Lib.hid (show (Lib.byteCells zeros).toArray.size = IL.toArray.size by rw [List.size_toArray, List.size_toArray, HILl.out]; rfl)
  have HIL := Lib.hid hIL
  clear hIL
  have heq := fun w => eqv_at Try.underlying26 (leadF n a row ds).1 rt (leadF_length _ _ _ _) hrt IL RtL HIL.out hRt w
  rw [hBe] at heq
  have HRi := Lib.hid (show (Try.prog.info? 26).map (·.size) = some RtL.length by rw [hRt, Lib.byteCells_length, hrt]; exact digInfo)
  have HL := Lib.hid (led_all n hn6 (by omega))
  have HW := Lib.hid hW
  have hds := Lib.hid hds
  have hrl := Lib.hid hrl
  clear hW hbs hdg hP hmp hBe hRt hrt
  go_enter Try.func16, Try.ntmps16
  go_wp2_with fail
  refine Calls.mono (hpl.out _) ?_
  rintro e w1 ⟨rfl, rfl⟩
  go_wp2_with fail
  rw [← HW.out]
  obtain ⟨g, hg⟩ : ∃ g, g = w.heap.size := ⟨_, rfl⟩
  rw [← hg] at hRW ⊢
  clear hg HW h3
  have hB0 : Below W.heap.size W W.drew := below_drew _ _
  refine wp_region_held_drew (S := fun w' => w'.rangeAt g 0 RtL) (by kernel_rfl) (hRW.drewN 1).range (fun hHeld => ?_)
  refine anyH_take (i := 0) (v := .int .i64 (n : Nat)) (some 26) rfl rfl (by kernel_rfl) (by kernel_rfl) (by kernel_rfl) (fun _ _ _ h => h) (Or.inl ⟨by rfl, fun _ _ => by rfl⟩) (by assumption) ?_
  simp only [Act.put, List.setIfInBounds_toArray, List.set_cons_zero, List.set_cons_succ]
  refine anyH_take (i := 1) (v := .int .i64 (a : Nat)) (some 27) rfl rfl (by kernel_rfl) (by kernel_rfl) (by kernel_rfl) (fun _ _ _ h => h) (Or.inl ⟨by rfl, fun _ _ => by rfl⟩) (by assumption) ?_
  simp only [Act.put, List.setIfInBounds_toArray, List.set_cons_zero, List.set_cons_succ]
  refine anyH_take (i := 2) (v := .slice Ar lr cr) (some 28) rfl rfl (by kernel_rfl) (by kernel_rfl) (by kernel_rfl) (fun _ _ _ h => h) (Or.inl ⟨by rfl, fun _ _ => by rfl⟩) (by assumption) ?_
  simp only [Act.put, List.setIfInBounds_toArray, List.set_cons_zero, List.set_cons_succ]
  refine anyH_take (i := 3) (v := .slice Ap m cp) (some 29) rfl rfl (by kernel_rfl) (by kernel_rfl) (by kernel_rfl) (fun _ _ _ h => h) (Or.inl ⟨by rfl, fun _ _ => by rfl⟩) (by assumption) ?_
  simp only [Act.put, List.setIfInBounds_toArray, List.set_cons_zero, List.set_cons_succ]
  refine anyH_take (i := 5) (some 31) rfl rfl (by kernel_rfl) (by kernel_rfl) (by kernel_rfl) (fun _ _ _ h => h) (yieldsIf_load_mid (by rfl) 26 (.tmp 5) rfl g 0 rfl RtL _ (fun _ h => h) Try.underlying26 rfl HRi.out) (by assumption) ?_
  simp only [Act.put, List.setIfInBounds_toArray, List.set_cons_zero, List.set_cons_succ]
  refine wpAnyH_ready (rs := [4]) (by kernel_rfl) (by simp) ?_
  refine AllReadyH.cons rfl (fun KC hKC => ?_) AllReadyH.nil
  go_simp
  go_at_call 33
  refine Calls.mono (HL.out a row ds IL Ar lr cr Ap m cp _ han hrl.out hr0 hlc hcm ((hbsW.below hB0 (Nat.le_refl _)).more hB0.size) hds.out hmc hcp (hdgW.below hB0) Hmp.out HIL.out) ?_
  rintro e w8 ⟨rfl, hb8⟩
  have hB8 := hB0.trans (hb8.mono hB0.size)
  go_wp2_with fail
  refine hKC.out _ _ (Arr.below hRW hB8 hRW.lt).range (fun hHeld8 => ?_)
  clear hKC KC
  try simp only [Act.put, List.setIfInBounds_toArray, List.set_cons_zero, List.set_cons_succ]
  refine anyH_take (i := 6) (v := .bool B) (some 32) rfl rfl (by kernel_rfl) (by kernel_rfl) (by kernel_rfl) (fun _ _ _ h => h) (Or.inl ⟨by rfl, fun _ _ => by go_simp⟩) (by assumption) ?_
  simp only [Act.put, List.setIfInBounds_toArray, List.set_cons_zero, List.set_cons_succ]
  refine anyH_take (i := 7) (v := .bool B) (some 10) rfl rfl (by kernel_rfl) (by kernel_rfl) (by kernel_rfl) (fun _ _ _ h => h) (Or.inl ⟨by rfl, fun _ _ => by rfl⟩) (by assumption) ?_
  simp only [Act.put, List.setIfInBounds_toArray, List.set_cons_zero, List.set_cons_succ]
  refine wpAnyH_done (by kernel_rfl) ?_ _
  have hfin := hBw.trans (hB8.mono hBw.size)
  clear hHeld
  go_wp2_with fail
  go_ret
  exact ⟨rfl, hfin⟩

set_option maxHeartbeats 8000000 in
set_option maxRecDepth 100000 in
theorem rverify_in (n a : Nat) (han : a < n) (hn6 : n ≤ 9223372036854775807) (rt : List UInt8) (RtL : List Value) (row : List UInt8) (ds : List (List UInt8)) (Ar : Option Addr) (lr cr : Nat) (Ap : Option Addr) (m cp : Nat) (B ok : Bool) (w : World) (h : VIn w rt RtL row ds Ar lr cr Ap m cp) (hok : ok = (leadF n a row ds).2) (hBe : decide ((leadF n a row ds).1 = rt) = B) :
    Calls Try.prog 19 #[.agg RtL.toArray, .int .i64 (n : Nat), .int .i64 (a : Nat), .slice Ar lr cr, .slice Ap m cp] w fun e w' => e = .returned (.bool (ok && B)) ∧ Below w.heap.size w w' := by
  obtain ⟨hrt, hRt, hrl, hr0, hlc, hcm, hbs, hds, hmc, hcp, hdg⟩ := h
  obtain ⟨W, hW⟩ : ∃ W, W = w.alloc (.cells RtL.toArray 26) := ⟨_, rfl⟩
  have hRW : Arr W w.heap.size 26 RtL := by rw [hW]; exact Arr.new w _ _
  have hBw : Below w.heap.size w W := by rw [hW]; exact (Below.refl _ w).alloc (Nat.le_refl _) _
  have hbsW : Bs W W.heap.size Ar row := (hbs.below hBw (Nat.le_refl _)).more hBw.size
  have hdgW : DigsAt W Ap ds := hdg.below hBw
  have h1 : decide ((a : Int) < 0) = false := by simp
  have h2 : decide (n ≤ a) = false := by simp; omega
  have hgt := gt32
  obtain ⟨IL, hIL⟩ : ∃ V, V = Lib.byteCells ((leadF n a row ds).1) := ⟨_, rfl⟩
  have HILl := Lib.hid (show IL.length = 32 by rw [hIL, Lib.byteCells_length]; exact leadF_length _ _ _ _)
  have HILi := Lib.hid (show (Try.prog.info? 26).map (·.size) = some IL.toArray.size by rw [List.size_toArray, HILl.out]; exact digInfo)
  have HIL1 := Lib.hid (show IL.toArray.all (·.oneCell') = true by rw [hIL]; exact dig_one _)
  have HILs := Lib.hid (show (Lib.byteCells zeros).toArray.size = IL.toArray.size by rw [List.size_toArray, List.size_toArray, HILl.out]; rfl)
  have HIL := Lib.hid hIL
  clear hIL
  have heq := fun w => eqv_at Try.underlying26 (leadF n a row ds).1 rt (leadF_length _ _ _ _) hrt IL RtL HIL.out hRt w
  rw [hBe] at heq
  have HRi := Lib.hid (show (Try.prog.info? 26).map (·.size) = some RtL.length by rw [hRt, Lib.byteCells_length, hrt]; exact digInfo)
  have HIi := Lib.hid (show (Try.prog.info? 26).map (·.size) = some IL.length by rw [HILl.out]; exact digInfo)
  have HL := Lib.hid (lead_all n hn6 (by omega))
  have HW := Lib.hid hW
  have Hok := Lib.hid hok
  have hds := Lib.hid hds
  have hrl := Lib.hid hrl
  clear hW hbs hdg hBe hRt hrt hok
  go_enter Try.func19, Try.ntmps19
  go_wp2_with fail
  rw [← HW.out]
  obtain ⟨g, hg⟩ : ∃ g, g = w.heap.size := ⟨_, rfl⟩
  rw [← hg] at hRW ⊢
  clear hg HW
  refine Calls.mono (HL.out a row ds IL ok Ar lr cr Ap m cp W han hrl.out hr0 hlc hcm hbsW hds.out hmc hcp hdgW HIL.out Hok.out) ?_
  rintro e w1 ⟨rfl, hb1⟩
  have hR1 := hRW.up hb1
  have hB1 := hBw.trans (hb1.mono hBw.size)
  clear hRW hBw hb1 hbsW hdgW
  cases ok
  · go_wp2_with (change wpList _ _ _ _ _ (w1.alloc (.cells (Lib.byteCells zeros).toArray 26)); refine wpList_store_row rfl _ _ _ rfl w1.heap.size IL.toArray rfl rfl 26 (Lib.byteCells zeros).toArray (heap_alloc_new w1 _) HILi.out HILs.out HIL1.out ?_; obtain ⟨w5, hw5⟩ : ∃ x, x = (w1.alloc (.cells (Lib.byteCells zeros).toArray 26)).setRow w1.heap.size IL.toArray := ⟨_, rfl⟩; rw [← hw5]; obtain ⟨hP5, hb5⟩ := alloc_row w1 26 (Lib.byteCells zeros).toArray IL; rw [← hw5] at hP5 hb5; clear hw5)
    go_ret
    exact ⟨rfl, hB1.trans (hb5.mono hB1.size)⟩
  · have Hi := Lib.hid (show True from trivial)
    go_wp2_with (first
      | (refine wpList_load_row_if (by rfl) _ _ rfl w1.heap.size rfl 26 IL.toArray _ hP5 Try.underlying26 rfl HILi.out ?_)
      | (refine wpList_load_row_if (by rfl) _ _ rfl g rfl 26 RtL.toArray _ hR5 Try.underlying26 rfl (by rw [List.size_toArray]; exact HRi.out) ?_)
      | (change wpList _ _ _ _ _ (w1.alloc (.cells (Lib.byteCells zeros).toArray 26)); refine wpList_store_row rfl _ _ _ rfl w1.heap.size IL.toArray rfl rfl 26 (Lib.byteCells zeros).toArray (heap_alloc_new w1 _) HILi.out HILs.out HIL1.out ?_; obtain ⟨w5, hw5⟩ : ∃ x, x = (w1.alloc (.cells (Lib.byteCells zeros).toArray 26)).setRow w1.heap.size IL.toArray := ⟨_, rfl⟩; rw [← hw5]; obtain ⟨hP5, hb5⟩ := alloc_row w1 26 (Lib.byteCells zeros).toArray IL; rw [← hw5] at hP5 hb5; clear hw5; have hR5 := hR1.up hb5))
    go_ret
    exact ⟨rfl, hB1.trans (hb5.mono hB1.size)⟩

theorem verify_at (n a : Int) (hn : n ≤ 9223372036854775807) (rt : List UInt8) (RtL : List Value) (row : List UInt8) (ds : List (List UInt8)) (Ar : Option Addr) (lr cr : Nat) (Ap : Option Addr) (m cp : Nat) (B : Bool) (w : World) (h : VIn w rt RtL row ds Ar lr cr Ap m cp) (hB : verF rt n a row ds = B) :
    Calls Try.prog 16 #[.agg RtL.toArray, .int .i64 n, .int .i64 a, .slice Ar lr cr, .slice Ap m cp] w fun e w' => e = .returned (.bool B) ∧ Below w.heap.size w w' := by
  subst hB
  by_cases ho : a < 0 ∨ n ≤ a
  · rw [verF_out ho]
    exact verify_out RtL n a Ar lr cr Ap m cp w ho
  · obtain ⟨k, rfl⟩ : ∃ k : Nat, n = (k : Nat) := ⟨n.toNat, by omega⟩
    obtain ⟨j, rfl⟩ : ∃ j : Nat, a = (j : Nat) := ⟨a.toNat, by omega⟩
    rw [verF_in (by omega), leadF_ok]
    by_cases hp : m = plenF k j
    · rw [h.hds, decide_eq_true hp, Bool.true_and]
      exact verify_good k j (by omega) (by omega) rt RtL row ds Ar lr cr Ap m cp _ w h hp rfl
    · rw [h.hds, decide_eq_false hp, Bool.false_and]
      exact verify_short k j (by omega) (by omega) rt RtL row ds Ar lr cr Ap m cp w h hp

theorem rverify_at (n a : Int) (hn : n ≤ 9223372036854775807) (rt : List UInt8) (RtL : List Value) (row : List UInt8) (ds : List (List UInt8)) (Ar : Option Addr) (lr cr : Nat) (Ap : Option Addr) (m cp : Nat) (B : Bool) (w : World) (h : VIn w rt RtL row ds Ar lr cr Ap m cp) (hB : verF rt n a row ds = B) :
    Calls Try.prog 19 #[.agg RtL.toArray, .int .i64 n, .int .i64 a, .slice Ar lr cr, .slice Ap m cp] w fun e w' => e = .returned (.bool B) ∧ Below w.heap.size w w' := by
  subst hB
  by_cases ho : a < 0 ∨ n ≤ a
  · rw [verF_out ho]
    exact rverify_out RtL n a Ar lr cr Ap m cp w ho
  · obtain ⟨k, rfl⟩ : ∃ k : Nat, n = (k : Nat) := ⟨n.toNat, by omega⟩
    obtain ⟨j, rfl⟩ : ∃ j : Nat, a = (j : Nat) := ⟨a.toNat, by omega⟩
    rw [verF_in (by omega)]
    exact rverify_in k j (by omega) (by omega) rt RtL row ds Ar lr cr Ap m cp _ _ w h rfl rfl

end Go.Proofs.Ytkpgbgiamekhaab

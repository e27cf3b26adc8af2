/-
  The document's Lead.
-/
import Derived.Test.YtkpgbgiamekhaabRRoot
import Derived.Test.YtkpgbgiamekhaabMerkArg
namespace Go.Proofs.Ytkpgbgiamekhaab
open Go.RowKit
set_option linter.unusedVariables false
set_option linter.unusedSimpArgs false

/-- A value put together, its parts said by the caller. -/
theorem wpList_built {P : Program} {ops : Array Oper} {rest : List Oper} {o : Oper} {a : Act} {w : World} {Q : Exit → Act → World → Prop} (hg : o.guard = none) (t : TypeId) (parts : Array (Nat × Operand)) (ho : o.op = .build t parts)
    (ps : List (Nat × Value)) (hp : parts.toList.map (fun x => (x.1, a.eval x.2)) = ps) (cells : Array Value) (hf : P.built t ps = some cells)
    (h : wpList P ops Q rest (a.put o.dst (.agg cells)) w) : wpList P ops Q (o :: rest) a w :=
  wpList_buildTo hg t parts ho _ rfl cells (by rw [← hf, ← hp]; simp) h

/-- Two results, the first an array in a cell. -/
theorem lead_results {w : World} {g : Nat} {J : Array Value} {ok : Bool} {a : Act} (hset : w.heap[g]? = some (.cells J 26 (0, 0))) (hi : (Try.prog.info? 26).map (·.size) = some J.size) (h8 : a.tmps.getD 8 undef = .pointer (some ⟨g, 0, none⟩)) (h9 : a.tmps.getD 9 undef = .bool ok) :
    (results Try.f20 a.tmps).run Try.prog w = .ok (.tuple #[.agg J, .bool ok]) w := by
  have r2 := run_loadVar_row (P := Try.prog) w g 26 26 J (0, 0) _ hset Try.underlying26 rfl hi
  have h8' : a.tmps[8]?.getD undef = .pointer (some ⟨g, 0, none⟩) := by simpa using h8
  have h9' : a.tmps[9]?.getD undef = .bool ok := by simpa using h9
  unfold results
  simp [r2, Try.results20, asAddr, h8', h9']

def LeadC (n : Nat) : Prop := ∀ (a : Nat) (row : List UInt8) (ds : List (List UInt8)) (JL : List Value) (ok : Bool) (Ar : Option Addr) (lr cr : Nat) (Ap : Option Addr) (m cp : Nat) (w : World), a < n → row.length = lr → lr ≤ 300 → lr ≤ cr → cr ≤ maxLen → Bs w w.heap.size Ar row → ds.length = m → m ≤ cp → cp ≤ 9223372036854775807 → DigsAt w Ap ds → JL = Lib.byteCells (leadF n a row ds).1 → ok = (leadF n a row ds).2 →
    Calls Try.prog 20 #[.int .i64 (n : Nat), .int .i64 (a : Nat), .slice Ar lr cr, .slice Ap m cp] w fun e w' => e = .returned (.tuple #[.agg JL.toArray, .bool ok]) ∧ Below w.heap.size w w'

set_option maxHeartbeats 4000000 in
set_option maxRecDepth 100000 in
theorem lead_one : LeadC 1 := by
  intro a row ds RL ok Ar lr cr Ap m cp w ha hrl hr0 hlc hcm hbs hds hmc hcp hdg hRL hok
  rw [leadF_one (Nat.le_refl 1)] at hRL hok
  have hokd : ok = ((m : Int) == 0) := by
    rw [hok, hds, Bool.eq_iff_iff]
    simp only [decide_eq_true_eq, beq_iff_eq]
    omega
  have hrl32 : RL.length = 32 := by rw [hRL, Lib.byteCells_length]; exact leafF_length _
  have HDi := Lib.hid (show (Try.prog.info? 26).map (·.size) = some RL.toArray.size by rw [List.size_toArray, hrl32]; exact digInfo)
  have HD1 := Lib.hid (show RL.toArray.all (·.oneCell') = true by rw [hRL]; exact dig_one _)
  have Hzs := Lib.hid (show (Lib.byteCells zeros).toArray.size = RL.toArray.size by rw [List.size_toArray, List.size_toArray, hrl32]; rfl)
  have HRL := Lib.hid hRL
  have Hl := Lib.hid hrl
  have hok' : ((m : Int) == 0) = ok := hokd.symm
  obtain ⟨W, hW⟩ : ∃ W, W = w.alloc (.cells (Lib.byteCells zeros).toArray 26) := ⟨_, rfl⟩
  have hR : Arr W w.heap.size 26 (Lib.byteCells zeros) := by rw [hW]; exact Arr.new w _ _
  have hB : Below w.heap.size w W := by rw [hW]; exact (Below.refl _ w).alloc (Nat.le_refl _) _
  have hbW : Bs W W.heap.size Ar row := (hbs.below hB (Nat.le_refl _)).more hB.size
  have HW := Lib.hid hW
  have hWs : W.heap.size = w.heap.size + 1 := by rw [hW]; simp
  have HWs := Lib.hid hWs
  clear hW hRL hrl32 hrl hbs hWs hds hok hokd
  go_enter Try.func20, Try.ntmps20
  go_wp2_with fail
  change Calls _ _ _ ((w.alloc (.cells (Lib.byteCells zeros).toArray 26)).alloc (.cells #[.slice Ar lr cr] 24)) _
  have hrow1 := rows_one (w := W) 24 Hl.out hlc hcm hbW (Nat.le_refl _)
  have hup : Below W.heap.size W (W.alloc (.cells #[.slice Ar lr cr] 24)) := (Below.refl _ W).alloc (Nat.le_refl _) _
  have hR4 := hR.up hup
  have hB4 := hB.trans (hup.mono hB.size)
  rw [HWs.out] at hrow1
  rw [← HW.out]
  refine Calls.mono (rtagd_at 0 0 [row] RL (some ⟨w.heap.size + 1, 0, none⟩) 1 1 _ rfl HRL.out rfl (by omega) (hrow1.more (by have := HWs.out; simp; omega)) (tag_one_le 0 (by rw [Hl.out]; exact hr0))) ?_
  rintro e w5 ⟨rfl, hb5⟩
  have hR5 := Lib.hid (hR4.up hb5)
  have hB5 := hB4.trans (hb5.mono hB4.size)
  clear hrow1 hup hR4 hB4
  go_wp2_with (refine wpList_store_row rfl _ _ _ rfl w.heap.size RL.toArray rfl rfl 26 _ hR5.out HDi.out Hzs.out HD1.out ?_)
  have hset : Hid ((w5.setRow w.heap.size RL.toArray).heap[w.heap.size]? = some (.cells RL.toArray 26 (0, 0))) := setRow_heap w5 w.heap.size _ RL.toArray _ _ hR5.out
  have hbf : Below w.heap.size w (w5.setRow w.heap.size RL.toArray) := hB5.trans (((Only.refl (fun k => k = w.heap.size) w5).setRow (.inl rfl) RL.toArray).below hB5.size (by rintro k rfl; omega))
  exact bodyPost_ret (v := .tuple #[.agg RL.toArray, .bool ok]) (lead_results hset.out HDi.out rfl rfl) rfl ⟨rfl, hbf⟩

set_option maxHeartbeats 4000000 in
set_option maxRecDepth 100000 in
theorem lead_nil (n : Nat) (h2 : 2 ≤ n) (hn6 : n ≤ 9223372036854775807) (a : Nat) (row : List UInt8) (ds : List (List UInt8)) (Ar : Option Addr) (lr cr : Nat) (Ap : Option Addr) (cp : Nat) (w : World) :
    Calls Try.prog 20 #[.int .i64 (n : Nat), .int .i64 (a : Nat), .slice Ar lr cr, .slice Ap 0 cp] w fun e w' => e = .returned (.tuple #[.agg (Lib.byteCells zeros).toArray, .bool false]) ∧ Below w.heap.size w w' := by
  have hd1 : ((n : Int) == 1) = false := by rw [beq_eq_false_iff_ne]; omega
  obtain ⟨Z, hZ⟩ : ∃ Z, Z = (Lib.byteCells zeros).toArray := ⟨_, rfl⟩
  have HZb := Lib.hid (show Try.prog.built 26 [] = some Z by rw [hZ]; kernel_rfl)
  have HZi := Lib.hid (show (Try.prog.info? 26).map (·.size) = some Z.size by rw [hZ]; exact digInfo)
  have HZ1 := Lib.hid (show Z.all (·.oneCell') = true by rw [hZ]; exact dig_one _)
  obtain ⟨W, hW⟩ : ∃ W, W = w.alloc (.cells Z 26) := ⟨_, rfl⟩
  have hR : Hid (W.heap[w.heap.size]? = some (.cells Z 26 (0, 0))) := by rw [hW]; exact heap_alloc_new w _
  have hB : Below w.heap.size w W := by rw [hW]; exact (Below.refl _ w).alloc (Nat.le_refl _) _
  have hset : Hid ((W.setRow w.heap.size Z).heap[w.heap.size]? = some (.cells Z 26 (0, 0))) := setRow_heap W w.heap.size _ Z _ _ hR.out
  have hbf : Below w.heap.size w (W.setRow w.heap.size Z) := hB.trans (((Only.refl (fun k => k = w.heap.size) W).setRow (.inl rfl) Z).below hB.size (by rintro k rfl; omega))
  have HW := Lib.hid hW
  have HZ := Lib.hid hZ
  rw [← hZ]
  clear hW hZ
  go_enter Try.func20, Try.ntmps20
  go_wp2_with (refine wpList_built rfl _ _ rfl [] rfl Z HZb.out ?_; change wpList _ _ _ _ _ (w.alloc (.cells (Lib.byteCells zeros).toArray 26)); rw [← HZ.out, ← HW.out]; refine wpList_store_row rfl _ _ _ rfl w.heap.size Z rfl rfl 26 _ hR.out HZi.out rfl HZ1.out ?_)
  exact bodyPost_ret (v := .tuple #[.agg Z, .bool false]) (lead_results hset.out HZi.out rfl rfl) rfl ⟨rfl, hbf⟩

set_option maxHeartbeats 16000000 in
set_option maxRecDepth 100000 in
theorem lead_two (n : Nat) (h2 : 2 ≤ n) (hn6 : n ≤ 9223372036854775807) (ih : ∀ m, m < n → 1 ≤ m → LeadC m) : LeadC n := by
  intro a row ds JL ok Ar lr cr Ap m cp w ha hrl hr0 hlc hcm hbs hds hmc hcp hdg hJL hok
  by_cases hm0 : m = 0
  · subst hm0
    rw [leadF_nil h2 hds] at hJL hok
    subst hJL hok
    exact lead_nil n h2 hn6 a row ds Ar lr cr Ap cp w
  have hsp := splitF_facts h2
  have hfirst := fun w => rsplit_any n h2 (by omega) w
  have hpos : 0 < m := by omega
  have hlo := fun h => leadF_lo (n := n) (a := a) (row := row) (ds := ds) h2 (by omega) h
  have hhi := fun h => leadF_hi (n := n) (a := a) (row := row) (ds := ds) h2 (by omega) h
  rw [hds] at hlo hhi
  obtain ⟨K, hK⟩ : ∃ K, splitF n = K := ⟨_, rfl⟩
  rw [hK] at hsp hfirst hlo hhi
  obtain ⟨hK0, hKn, _⟩ := hsp
  obtain ⟨q, hq⟩ : ∃ q, m - 1 = q := ⟨_, rfl⟩
  rw [hq] at hlo hhi
  have hqm : q < m := by omega
  have hqc : q ≤ cp := by omega
  have hqI : (m : Int) - 1 = (q : Int) := by omega
  have hm00 : ((m : Int) == 0) = false := by rw [beq_eq_false_iff_ne]; omega
  obtain ⟨b, off, rfl, hb, hdd⟩ := hdg (by omega)
  obtain ⟨hpl, hrg0⟩ := hdd q (by omega)
  clear hdd
  obtain ⟨pv, hpv⟩ : ∃ pv, ds.getD q [] = pv := ⟨_, rfl⟩
  rw [hpv] at hlo hhi hpl hrg0
  obtain ⟨PL, hPL⟩ : ∃ V, V = Lib.byteCells (pv) := ⟨_, rfl⟩
  have HPLl := Lib.hid (show PL.length = 32 by rw [hPL, Lib.byteCells_length]; exact hpl)
  have HPLi := Lib.hid (show (Try.prog.info? 26).map (·.size) = some PL.toArray.size by rw [List.size_toArray, HPLl.out]; exact digInfo)
  have HPL1 := Lib.hid (show PL.toArray.all (·.oneCell') = true by rw [hPL]; exact dig_one _)
  have HPLs := Lib.hid (show (Lib.byteCells zeros).toArray.size = PL.toArray.size by rw [List.size_toArray, List.size_toArray, HPLl.out]; rfl)
  have HPL := Lib.hid hPL
  clear hPL
  rw [← HPL.out] at hrg0
  have Htq := Lib.hid (show (ds.take q).length = q by rw [List.length_take]; omega)
  have Hrl := Lib.hid hrl
  obtain ⟨W, hW⟩ : ∃ W, W = w.alloc (.cells (Lib.byteCells zeros).toArray 26) := ⟨_, rfl⟩
  have hR : Arr W w.heap.size 26 (Lib.byteCells zeros) := by rw [hW]; exact Arr.new w _ _
  have hBw : Below w.heap.size w W := by rw [hW]; exact (Below.refl _ w).alloc (Nat.le_refl _) _
  have hbsW : Bs W W.heap.size Ar row := (hbs.below hBw (Nat.le_refl _)).more hBw.size
  have hdgW : DigsAt W (some ⟨b, off, none⟩) ds := hdg.below hBw
  have hrg : W.rangeAt b (off + q * 32) PL := fun j v hj => (hBw.cell (p := ⟨b, off + q * 32 + j, none⟩) hb).trans (hrg0 j v hj)
  have HW := Lib.hid hW
  have HF := Lib.hid hfirst
  have Hlo := Lib.hid hlo
  have Hhi := Lib.hid hhi
  have HJL0 := Lib.hid hJL
  have Hok0 := Lib.hid hok
  have Hds := Lib.hid hds
  have Hq := Lib.hid hq
  clear hW hbs hdg hrg0 hfirst hlo hhi hJL hok hds hrl hq hpv hK hm0
  have hd1 : ((n : Int) == 1) = false := by rw [beq_eq_false_iff_ne]; omega
  go_enter Try.func20, Try.ntmps20
  go_wp2_with fail
  change Calls _ _ _ (w.alloc (.cells (Lib.byteCells zeros).toArray 26)) _
  rw [← HW.out]
  refine Calls.mono (HF.out W) ?_
  rintro e w1 ⟨rfl, rfl⟩
  have hi32 : (Try.prog.info? 26).map (·.size) = some PL.length := by rw [← List.size_toArray]; exact HPLi.out
  have Hi32 := Lib.hid hi32
  clear hi32
  by_cases haK : a < K
  all_goals
    go_wp2_with (first
      | (refine wpList_load_mid rfl 26 _ rfl b (off + q * 32) rfl PL _ hrg Try.underlying26 rfl Hi32.out ?_)
      | (change wpList _ _ _ _ _ (w1.alloc (.cells (Lib.byteCells zeros).toArray 26)); refine wpList_store_row rfl _ _ _ rfl w1.heap.size PL.toArray rfl rfl 26 (Lib.byteCells zeros).toArray (heap_alloc_new w1 _) HPLi.out HPLs.out HPL1.out ?_; obtain ⟨w5, hw5⟩ : ∃ x, x = (w1.alloc (.cells (Lib.byteCells zeros).toArray 26)).setRow w1.heap.size PL.toArray := ⟨_, rfl⟩; rw [← hw5]; obtain ⟨hP5, hb5⟩ := alloc_row w1 26 (Lib.byteCells zeros).toArray PL; rw [← hw5] at hP5 hb5; clear hw5))
    obtain ⟨g, hg⟩ : ∃ g, g = w.heap.size := ⟨_, rfl⟩
    obtain ⟨g4, hg4⟩ : ∃ g, g = w1.heap.size := ⟨_, rfl⟩
    have hwg : w.heap.size ≤ g := by omega
    rw [← hg] at hR ⊢
    have hR5 := hR.up hb5
    have hBw5 := hBw.trans (hb5.mono hBw.size)
    have hbs5 : Bs w5 w5.heap.size Ar row := (hbsW.below hb5 (Nat.le_refl _)).more hb5.size
    have hdg5 : DigsAt w5 (some ⟨b, off, none⟩) ds := hdgW.below hb5
    rw [← hg4] at hP5 ⊢
    clear hg hg4 HW hR hBw hbsW hdgW hb5 hrg hqI hm00
  · have hl := Hlo.out haK
    have ihX := ih K hKn hK0
    have haX := haK
    have HIok := Lib.hid (show ok = (leadF K a row (ds.take q)).2 by rw [Hok0.out, hl])
    have hJL := HJL0.out
    rw [hl] at hJL
    have HJLl := Lib.hid (show JL.length = 32 by rw [hJL, Lib.byteCells_length]; exact joinF_length _ _)
    have HJLi := Lib.hid (show (Try.prog.info? 26).map (·.size) = some JL.toArray.size by rw [List.size_toArray, HJLl.out]; exact digInfo)
    have HJL := Lib.hid hJL
    obtain ⟨IL, hIL⟩ : ∃ V, V = Lib.byteCells ((leadF K a row (ds.take q)).1) := ⟨_, rfl⟩
    have HILl := Lib.hid (show IL.length = 32 by rw [hIL, Lib.byteCells_length]; exact leadF_length _ _ _ _)
    have HILi := Lib.hid (show (Try.prog.info? 26).map (·.size) = some IL.toArray.size by rw [List.size_toArray, HILl.out]; exact digInfo)
    have HIL1 := Lib.hid (show IL.toArray.all (·.oneCell') = true by rw [hIL]; exact dig_one _)
    have HILs := Lib.hid (show (Lib.byteCells zeros).toArray.size = IL.toArray.size by rw [List.size_toArray, List.size_toArray, HILl.out]; rfl)
    have HIL := Lib.hid hIL
    clear hIL
    clear hl hJL
    go_wp2_with fail
    refine Calls.mono (ihX a row (ds.take q) IL ok Ar lr cr (some ⟨b, off, none⟩) q cp w5 haX Hrl.out hr0 hlc hcm hbs5 Htq.out (by omega) hcp (hdg5.take q) HIL.out HIok.out) ?_
    rintro e w6 ⟨rfl, hb6⟩
    have hQ6 := hP5.up hb6
    have hR6 := hR5.up hb6
    have hBw6 := hBw5.trans (hb6.mono hBw5.size)
    clear hP5 hR5 hBw5 hb6 hbs5 hdg5
    go_wp2_with (change wpList _ _ _ _ _ (w6.alloc (.cells (Lib.byteCells zeros).toArray 26)); refine wpList_store_row rfl _ _ _ rfl w6.heap.size IL.toArray rfl rfl 26 (Lib.byteCells zeros).toArray (heap_alloc_new w6 _) HILi.out HILs.out HIL1.out ?_; obtain ⟨w7, hww7⟩ : ∃ x, x = (w6.alloc (.cells (Lib.byteCells zeros).toArray 26)).setRow w6.heap.size IL.toArray := ⟨_, rfl⟩; rw [← hww7]; obtain ⟨hP7, hb7⟩ := alloc_row w6 26 (Lib.byteCells zeros).toArray IL; rw [← hww7] at hP7 hb7; clear hww7)
    have hQ7 := hQ6.up hb7
    have hR7 := hR6.up hb7
    have hBw7 := hBw6.trans (hb7.mono hBw6.size)
    obtain ⟨g7, hg7⟩ : ∃ x, x = w6.heap.size := ⟨_, rfl⟩
    rw [← hg7] at hP7 ⊢
    clear hg7 hQ6 hR6 hBw6 hb7
    rw [HIL.out] at hP7
    rw [HPL.out] at hQ7
    have hr8 := rows_two (w := w7.drew) 24 (leadF_length _ _ _ _) hpl (Nat.le_refl 32) (by unfold maxLen; omega) (Nat.le_refl 32) (by unfold maxLen; omega) (Arr.drewN hP7 1).bs (Arr.drewN hQ7 1).bs (Nat.le_refl _)
    have hBb := (below_drew w7.heap.size w7).trans ((Below.refl _ w7.drew).alloc (Nat.le_refl _) (.cells #[.slice (some ⟨g7, 0, none⟩) 32 32, .slice (some ⟨g4, 0, none⟩) 32 32] 24))
    have hB0 : Below w7.heap.size w7 w7.drew := below_drew _ _
    refine wp_region_held_drew (S := fun _ => True) (by kernel_rfl) trivial (fun hHeld => ?_)
    refine anyH_take (i := 0) (v := .slice (some ⟨g7, 0, none⟩) 32 32) (some 51) rfl rfl (by kernel_rfl) (by kernel_rfl) (by kernel_rfl) (fun _ _ _ h => h) (Or.inl ⟨by rfl, fun _ _ => by go_simp⟩) (by assumption) ?_
    simp only [Act.put, List.setIfInBounds_toArray, List.set_cons_zero, List.set_cons_succ]
    refine anyH_take (i := 1) (v := .slice (some ⟨g4, 0, none⟩) 32 32) (some 52) rfl rfl (by kernel_rfl) (by kernel_rfl) (by kernel_rfl) (fun _ _ _ h => h) (Or.inl ⟨by rfl, fun _ _ => by go_simp⟩) (by assumption) ?_
    simp only [Act.put, List.setIfInBounds_toArray, List.set_cons_zero, List.set_cons_succ]
    refine anyH_take (i := 4) (v := .bool ok) (some 55) rfl rfl (by kernel_rfl) (by kernel_rfl) (by kernel_rfl) (fun _ _ _ h => h) (Or.inl ⟨by rfl, fun _ _ => by rfl⟩) (by assumption) ?_
    simp only [Act.put, List.setIfInBounds_toArray, List.set_cons_zero, List.set_cons_succ]
    refine wpAnyH_ready (rs := [2]) (by kernel_rfl) (by simp) ?_
    refine AllReadyH.cons rfl (fun KC hKC => ?_) AllReadyH.nil
    go_simp
    refine hKC.out _ _ trivial (fun hHeld8 => ?_)
    clear hKC KC
    try simp only [Act.put, List.setIfInBounds_toArray, List.set_cons_zero, List.set_cons_succ]
    refine wpAnyH_ready (rs := [3]) (by kernel_rfl) (by simp) ?_
    refine AllReadyH.cons rfl (fun KC hKC => ?_) AllReadyH.nil
    go_simp
    go_at_call 26
    refine Calls.mono (rtagd_at 1 1 [(leadF K a row (ds.take q)).1, pv] JL (some ⟨w7.heap.size, 0, none⟩) 2 2 _ rfl HJL.out rfl (by omega) (hr8.more (Nat.le_of_eq (by simp))) (tag_two_le 1 (leadF_length _ _ _ _) hpl)) ?_
    rintro e w9 ⟨rfl, hb9⟩
    have hB9 := hBb.trans (hb9.mono hBb.size)
    go_wp2_with fail
    refine hKC.out _ _ trivial (fun hHeld9 => ?_)
    clear hKC KC
    try simp only [Act.put, List.setIfInBounds_toArray, List.set_cons_zero, List.set_cons_succ]
    refine wpAnyH_ready (rs := [5]) (by kernel_rfl) (by simp) ?_
    refine AllReadyH.cons rfl (fun KC hKC => ?_) AllReadyH.nil
    rw [if_pos (by rfl)]
    obtain ⟨hth, hset10, hons10⟩ := put_arr (Arr.below hR7 hB9 (Arr.lt hR7)) (show (Lib.byteCells zeros).length = JL.length by rw [HJLl.out]; rfl)
    refine wp_store_mid 26 _ _ rfl g 0 JL.toArray rfl rfl (by rw [List.size_toArray]; exact hth) HJLi.out (all_oneCell_toArray (by rw [HJL.out]; exact byteCells_one _)) ?_
    refine hKC.out _ _ trivial (fun hHeld10 => ?_)
    clear hKC KC
    try simp only [Act.put, List.setIfInBounds_toArray, List.set_cons_zero, List.set_cons_succ]
    refine anyH_take (i := 6) (v := .bool ok) (some 9) rfl rfl (by kernel_rfl) (by kernel_rfl) (by kernel_rfl) (fun _ _ _ h => h) (Or.inl ⟨by rfl, fun _ _ => by rfl⟩) (by assumption) ?_
    simp only [Act.put, List.setIfInBounds_toArray, List.set_cons_zero, List.set_cons_succ]
    refine wpAnyH_done (by kernel_rfl) ?_ _
    have hfin := hBw7.trans ((hB9.mono (hBw7.size)).trans (hons10.below (Nat.le_trans hBw7.size hB9.size) (by rintro i rfl; exact hwg)))
    try rw [show JL.toArray.toList = JL from rfl]
    clear hHeld
    go_wp2_with fail
    exact bodyPost_ret (v := .tuple #[.agg JL.toArray, .bool ok]) (lead_results hset10 HJLi.out rfl rfl) rfl ⟨rfl, hfin⟩
  · have hl := Hhi.out (by omega)
    obtain ⟨nK, hnK⟩ : ∃ x, n - K = x := ⟨_, rfl⟩
    obtain ⟨aK, haKe⟩ : ∃ x, a - K = x := ⟨_, rfl⟩
    rw [hnK, haKe] at hl
    have ihX := ih nK (by omega) (by omega)
    have haX : aK < nK := by omega
    have hs1 : (n : Int) - (K : Int) = (nK : Int) := by omega
    have hs2 : (a : Int) - (K : Int) = (aK : Int) := by omega
    clear hnK haKe
    have HIok := Lib.hid (show ok = (leadF nK aK row (ds.take q)).2 by rw [Hok0.out, hl])
    have hJL := HJL0.out
    rw [hl] at hJL
    have HJLl := Lib.hid (show JL.length = 32 by rw [hJL, Lib.byteCells_length]; exact joinF_length _ _)
    have HJLi := Lib.hid (show (Try.prog.info? 26).map (·.size) = some JL.toArray.size by rw [List.size_toArray, HJLl.out]; exact digInfo)
    have HJL := Lib.hid hJL
    obtain ⟨IL, hIL⟩ : ∃ V, V = Lib.byteCells ((leadF nK aK row (ds.take q)).1) := ⟨_, rfl⟩
    have HILl := Lib.hid (show IL.length = 32 by rw [hIL, Lib.byteCells_length]; exact leadF_length _ _ _ _)
    have HILi := Lib.hid (show (Try.prog.info? 26).map (·.size) = some IL.toArray.size by rw [List.size_toArray, HILl.out]; exact digInfo)
    have HIL1 := Lib.hid (show IL.toArray.all (·.oneCell') = true by rw [hIL]; exact dig_one _)
    have HILs := Lib.hid (show (Lib.byteCells zeros).toArray.size = IL.toArray.size by rw [List.size_toArray, List.size_toArray, HILl.out]; rfl)
    have HIL := Lib.hid hIL
    clear hIL
    clear hl hJL
    go_wp2_with fail
    refine Calls.mono (ihX aK row (ds.take q) IL ok Ar lr cr (some ⟨b, off, none⟩) q cp w5 haX Hrl.out hr0 hlc hcm hbs5 Htq.out (by omega) hcp (hdg5.take q) HIL.out HIok.out) ?_
    rintro e w6 ⟨rfl, hb6⟩
    have hQ6 := hP5.up hb6
    have hR6 := hR5.up hb6
    have hBw6 := hBw5.trans (hb6.mono hBw5.size)
    clear hP5 hR5 hBw5 hb6 hbs5 hdg5
    go_wp2_with (change wpList _ _ _ _ _ (w6.alloc (.cells (Lib.byteCells zeros).toArray 26)); refine wpList_store_row rfl _ _ _ rfl w6.heap.size IL.toArray rfl rfl 26 (Lib.byteCells zeros).toArray (heap_alloc_new w6 _) HILi.out HILs.out HIL1.out ?_; obtain ⟨w7, hww7⟩ : ∃ x, x = (w6.alloc (.cells (Lib.byteCells zeros).toArray 26)).setRow w6.heap.size IL.toArray := ⟨_, rfl⟩; rw [← hww7]; obtain ⟨hP7, hb7⟩ := alloc_row w6 26 (Lib.byteCells zeros).toArray IL; rw [← hww7] at hP7 hb7; clear hww7)
    have hQ7 := hQ6.up hb7
    have hR7 := hR6.up hb7
    have hBw7 := hBw6.trans (hb7.mono hBw6.size)
    obtain ⟨g7, hg7⟩ : ∃ x, x = w6.heap.size := ⟨_, rfl⟩
    rw [← hg7] at hP7 ⊢
    clear hg7 hQ6 hR6 hBw6 hb7
    rw [HIL.out] at hP7
    rw [HPL.out] at hQ7
    have hr8 := rows_two (w := w7.drew) 24 hpl (leadF_length _ _ _ _) (Nat.le_refl 32) (by unfold maxLen; omega) (Nat.le_refl 32) (by unfold maxLen; omega) (Arr.drewN hQ7 1).bs (Arr.drewN hP7 1).bs (Nat.le_refl _)
    have hBb := (below_drew w7.heap.size w7).trans ((Below.refl _ w7.drew).alloc (Nat.le_refl _) (.cells #[.slice (some ⟨g4, 0, none⟩) 32 32, .slice (some ⟨g7, 0, none⟩) 32 32] 24))
    have hB0 : Below w7.heap.size w7 w7.drew := below_drew _ _
    refine wp_region_held_drew (S := fun _ => True) (by kernel_rfl) trivial (fun hHeld => ?_)
    refine anyH_take (i := 0) (v := .slice (some ⟨g4, 0, none⟩) 32 32) (some 70) rfl rfl (by kernel_rfl) (by kernel_rfl) (by kernel_rfl) (fun _ _ _ h => h) (Or.inl ⟨by rfl, fun _ _ => by go_simp⟩) (by assumption) ?_
    simp only [Act.put, List.setIfInBounds_toArray, List.set_cons_zero, List.set_cons_succ]
    refine anyH_take (i := 1) (v := .slice (some ⟨g7, 0, none⟩) 32 32) (some 71) rfl rfl (by kernel_rfl) (by kernel_rfl) (by kernel_rfl) (fun _ _ _ h => h) (Or.inl ⟨by rfl, fun _ _ => by go_simp⟩) (by assumption) ?_
    simp only [Act.put, List.setIfInBounds_toArray, List.set_cons_zero, List.set_cons_succ]
    refine anyH_take (i := 4) (v := .bool ok) (some 74) rfl rfl (by kernel_rfl) (by kernel_rfl) (by kernel_rfl) (fun _ _ _ h => h) (Or.inl ⟨by rfl, fun _ _ => by rfl⟩) (by assumption) ?_
    simp only [Act.put, List.setIfInBounds_toArray, List.set_cons_zero, List.set_cons_succ]
    refine wpAnyH_ready (rs := [2]) (by kernel_rfl) (by simp) ?_
    refine AllReadyH.cons rfl (fun KC hKC => ?_) AllReadyH.nil
    go_simp
    refine hKC.out _ _ trivial (fun hHeld8 => ?_)
    clear hKC KC
    try simp only [Act.put, List.setIfInBounds_toArray, List.set_cons_zero, List.set_cons_succ]
    refine wpAnyH_ready (rs := [3]) (by kernel_rfl) (by simp) ?_
    refine AllReadyH.cons rfl (fun KC hKC => ?_) AllReadyH.nil
    go_simp
    go_at_call 26
    refine Calls.mono (rtagd_at 1 1 [pv, (leadF nK aK row (ds.take q)).1] JL (some ⟨w7.heap.size, 0, none⟩) 2 2 _ rfl HJL.out rfl (by omega) (hr8.more (Nat.le_of_eq (by simp))) (tag_two_le 1 hpl (leadF_length _ _ _ _))) ?_
    rintro e w9 ⟨rfl, hb9⟩
    have hB9 := hBb.trans (hb9.mono hBb.size)
    go_wp2_with fail
    refine hKC.out _ _ trivial (fun hHeld9 => ?_)
    clear hKC KC
    try simp only [Act.put, List.setIfInBounds_toArray, List.set_cons_zero, List.set_cons_succ]
    refine wpAnyH_ready (rs := [5]) (by kernel_rfl) (by simp) ?_
    refine AllReadyH.cons rfl (fun KC hKC => ?_) AllReadyH.nil
    rw [if_pos (by rfl)]
    obtain ⟨hth, hset10, hons10⟩ := put_arr (Arr.below hR7 hB9 (Arr.lt hR7)) (show (Lib.byteCells zeros).length = JL.length by rw [HJLl.out]; rfl)
    refine wp_store_mid 26 _ _ rfl g 0 JL.toArray rfl rfl (by rw [List.size_toArray]; exact hth) HJLi.out (all_oneCell_toArray (by rw [HJL.out]; exact byteCells_one _)) ?_
    refine hKC.out _ _ trivial (fun hHeld10 => ?_)
    clear hKC KC
    try simp only [Act.put, List.setIfInBounds_toArray, List.set_cons_zero, List.set_cons_succ]
    refine anyH_take (i := 6) (v := .bool ok) (some 9) rfl rfl (by kernel_rfl) (by kernel_rfl) (by kernel_rfl) (fun _ _ _ h => h) (Or.inl ⟨by rfl, fun _ _ => by rfl⟩) (by assumption) ?_
    simp only [Act.put, List.setIfInBounds_toArray, List.set_cons_zero, List.set_cons_succ]
    refine wpAnyH_done (by kernel_rfl) ?_ _
    have hfin := hBw7.trans ((hB9.mono (hBw7.size)).trans (hons10.below (Nat.le_trans hBw7.size hB9.size) (by rintro i rfl; exact hwg)))
    try rw [show JL.toArray.toList = JL from rfl]
    clear hHeld
    go_wp2_with fail
    exact bodyPost_ret (v := .tuple #[.agg JL.toArray, .bool ok]) (lead_results hset10 HJLi.out rfl rfl) rfl ⟨rfl, hfin⟩

theorem lead_all : ∀ (n : Nat), n ≤ 9223372036854775807 → 1 ≤ n → LeadC n := by
  intro n
  induction n using Nat.strongRecOn with
  | ind n ih =>
    intro hn h1
    by_cases h2 : n = 1
    · subst h2; exact lead_one
    · exact lead_two n (by omega) hn fun m hm h => ih m hm (by omega) h

end Go.Proofs.Ytkpgbgiamekhaab

/-
  proofLength and ledTo of merkle.
-/
import Derived.Test.YtkpgbgiamekhaabRoot
import Derived.Test.YtkpgbgiamekhaabMerkArg
namespace Go.Proofs.Ytkpgbgiamekhaab
open Go.RowKit
set_option linter.unusedVariables false
set_option linter.unusedSimpArgs false

set_option maxHeartbeats 4000000 in
theorem plen_any (n a : Nat) (w : World) (h1 : 1 ≤ n) (hn : n ≤ 9223372036854775807) (ha : a < n) :
    Calls Try.prog 32 #[.int .i64 (n : Nat), .int .i64 (a : Nat)] w fun e w' => e = .returned (.int .i64 (plenF n a : Nat)) ∧ w' = w := by
  have hlt := plenF_lt n a h1
  obtain ⟨P, hP⟩ : ∃ P, plenF n a = P := ⟨_, rfl⟩
  rw [hP] at hlt ⊢
  go_enter Try.func32, Try.ntmps32
  go_wp2_with fail
  go_loop [0, 1, 5] (fun x y z => ∃ c b l : Nat, x = .int .i64 c ∧ y = .int .i64 b ∧ z = .int .i64 l ∧ 1 ≤ c ∧ c ≤ n ∧ b < c ∧ Hid (l + plenF c b = P)) (fun x _ _ => (intOf x).toNat)
  case atStart => exact ⟨n, a, 0, rfl, rfl, rfl, h1, Nat.le_refl _, ha, by show _ = _; omega⟩
  case round =>
    obtain ⟨c, b, l, rfl, rfl, rfl, hc1, hcn, hbc, HP⟩ := hrel
    have hlP : l ≤ P := by have := HP.out; omega
    by_cases hc : 2 ≤ c
    · have hd : decide ((1 : Int) < (c : Int)) = true := by simp; omega
      have hs := splitF_facts hc
      have hlo := plenF_lo (n := c) (a := b) hc
      have hhi := plenF_hi (n := c) (a := b) hc
      have hF := first_any c hc (by omega) w
      obtain ⟨K, hK⟩ : ∃ K, splitF c = K := ⟨_, rfl⟩
      rw [hK] at hs hlo hhi hF
      obtain ⟨hK0, hKc, _⟩ := hs
      have hl2 : (l : Int) + 1 ≤ 9223372036854775807 := by
        have := HP.out
        by_cases hb : b < K
        · have := hlo hb; omega
        · have := hhi (by omega); omega
      clear hK
      by_cases hb : b < K
      · have HL := Lib.hid (hlo hb)
        have hF := Lib.hid hF
        clear hlo hhi
        go_wp2_with fail
        refine Calls.mono hF.out ?_
        rintro e w1 ⟨rfl, rfl⟩
        go_wp2_with fail
        go_round
        case rel => exact ⟨K, b, l + 1, rfl, rfl, by go_num, by omega, by omega, hb, by show _ = _; have := HP.out; have := HL.out; omega⟩
        case measure => simp [intOf]; omega
      · have HL := Lib.hid (hhi (by omega))
        have hF := Lib.hid hF
        have hs1 : (c : Int) - (K : Int) = ((c - K : Nat) : Int) := by omega
        have hs2 : (b : Int) - (K : Int) = ((b - K : Nat) : Int) := by omega
        clear hlo hhi
        go_wp2_with fail
        refine Calls.mono hF.out ?_
        rintro e w1 ⟨rfl, rfl⟩
        go_wp2_with fail
        go_round
        case rel => exact ⟨c - K, b - K, l + 1, by go_num, by go_num, by go_num, by omega, by omega, by omega, by show _ = _; have := HP.out; have := HL.out; omega⟩
        case measure => simp [intOf]; omega
    · have hd : decide ((1 : Int) < (c : Int)) = false := by simp; omega
      have h0 := plenF_one (n := c) (a := b) (by omega)
      have hlP : l = P := by have := HP.out; omega
      subst hlP
      clear h0
      go_wp2_with fail
      go_ret
      exact ⟨rfl, rfl⟩

def LedC (n : Nat) : Prop := ∀ (a : Nat) (row : List UInt8) (ds : List (List UInt8)) (JL : List Value) (Ar : Option Addr) (lr cr : Nat) (Ap : Option Addr) (m cp : Nat) (w : World), a < n → row.length = lr → lr ≤ 300 → lr ≤ cr → cr ≤ maxLen → Bs w w.heap.size Ar row → ds.length = m → m ≤ cp → cp ≤ 9223372036854775807 → DigsAt w Ap ds → m = plenF n a → JL = Lib.byteCells (leadF n a row ds).1 →
    Calls Try.prog 33 #[.int .i64 (n : Nat), .int .i64 (a : Nat), .slice Ar lr cr, .slice Ap m cp] w fun e w' => e = .returned (.agg JL.toArray) ∧ Below w.heap.size w w'

set_option maxHeartbeats 4000000 in
set_option maxRecDepth 100000 in
theorem led_one : LedC 1 := by
  intro a row ds RL Ar lr cr Ap m cp w ha hrl hr0 hlc hcm hbs hds hmc hcp hdg hmp hRL
  rw [leadF_one (Nat.le_refl 1)] at hRL
  have hrl32 : RL.length = 32 := by rw [hRL, Lib.byteCells_length]; exact leafF_length _
  have HDi := Lib.hid (show (Try.prog.info? 26).map (·.size) = some RL.toArray.size by rw [List.size_toArray, hrl32]; exact digInfo)
  have HD1 := Lib.hid (show RL.toArray.all (·.oneCell') = true by rw [hRL]; exact dig_one _)
  have Hzs := Lib.hid (show (Lib.byteCells zeros).toArray.size = RL.toArray.size by rw [List.size_toArray, List.size_toArray, hrl32]; rfl)
  have HRL := Lib.hid hRL
  have Hl := Lib.hid hrl
  obtain ⟨W, hW⟩ : ∃ W, W = w.alloc (.cells (Lib.byteCells zeros).toArray 26) := ⟨_, rfl⟩
  have hR : Arr W w.heap.size 26 (Lib.byteCells zeros) := by rw [hW]; exact Arr.new w _ _
  have hB : Below w.heap.size w W := by rw [hW]; exact (Below.refl _ w).alloc (Nat.le_refl _) _
  have hbW : Bs W W.heap.size Ar row := (hbs.below hB (Nat.le_refl _)).more hB.size
  have HW := Lib.hid hW
  have hWs : W.heap.size = w.heap.size + 1 := by rw [hW]; simp
  have HWs := Lib.hid hWs
  clear hW hRL hrl32 hrl hbs hWs hmp hds
  go_enter Try.func33, Try.ntmps33
  go_wp2_with fail
  change Calls _ _ _ ((w.alloc (.cells (Lib.byteCells zeros).toArray 26)).alloc (.cells #[.slice Ar lr cr] 24)) _
  have hrow1 := rows_one (w := W) 24 Hl.out hlc hcm hbW (Nat.le_refl _)
  have hup : Below W.heap.size W (W.alloc (.cells #[.slice Ar lr cr] 24)) := (Below.refl _ W).alloc (Nat.le_refl _) _
  have hR4 := hR.up hup
  have hB4 := hB.trans (hup.mono hB.size)
  rw [HWs.out] at hrow1
  rw [← HW.out]
  refine Calls.mono (tagged_at 0 0 [row] RL (some ⟨w.heap.size + 1, 0, none⟩) 1 1 _ rfl HRL.out rfl (by omega) (hrow1.more (by have := HWs.out; simp; omega)) (tag_one_le 0 (by rw [Hl.out]; exact hr0))) ?_
  rintro e w5 ⟨rfl, hb5⟩
  have hR5 := Lib.hid (hR4.up hb5)
  have hB5 := hB4.trans (hb5.mono hB4.size)
  clear hrow1 hup hR4 hB4
  go_wp2_with (refine wpList_store_row rfl _ _ _ rfl w.heap.size RL.toArray rfl rfl 26 _ hR5.out HDi.out Hzs.out HD1.out ?_)
  have hset : Hid ((w5.setRow w.heap.size RL.toArray).heap[w.heap.size]? = some (.cells RL.toArray 26 (0, 0))) := setRow_heap w5 w.heap.size _ RL.toArray _ _ hR5.out
  have hbf : Below w.heap.size w (w5.setRow w.heap.size RL.toArray) := hB5.trans (((Only.refl (fun k => k = w.heap.size) w5).setRow (.inl rfl) RL.toArray).below hB5.size (by rintro k rfl; omega))
  exact bodyPost_ret (v := .agg RL.toArray) (results_cell_row (by rfl) _ _ w.heap.size 26 RL.toArray (0, 0) _ (by rfl) hset.out Try.underlying26 rfl HDi.out) rfl ⟨rfl, hbf⟩

set_option maxHeartbeats 16000000 in
set_option maxRecDepth 100000 in
theorem led_two (n : Nat) (h2 : 2 ≤ n) (hn6 : n ≤ 9223372036854775807) (ih : ∀ m, m < n → 1 ≤ m → LedC m) : LedC n := by
  intro a row ds JL Ar lr cr Ap m cp w ha hrl hr0 hlc hcm hbs hds hmc hcp hdg hmp hJL
  have hsp := splitF_facts h2
  have hfirst := fun w => first_any n h2 (by omega) w
  have hpos : 0 < m := by
    by_cases hb : a < splitF n
    · have := plenF_lo h2 hb; omega
    · have := plenF_hi h2 (show splitF n ≤ a by omega); omega
  have hlo := fun h => leadF_lo (n := n) (a := a) (row := row) (ds := ds) h2 (by omega) h
  have hhi := fun h => leadF_hi (n := n) (a := a) (row := row) (ds := ds) h2 (by omega) h
  have plo := fun h => plenF_lo (n := n) (a := a) h2 h
  have phi := fun h => plenF_hi (n := n) (a := a) h2 h
  rw [hds] at hlo hhi
  obtain ⟨K, hK⟩ : ∃ K, splitF n = K := ⟨_, rfl⟩
  rw [hK] at hsp hfirst hlo hhi plo phi
  obtain ⟨hK0, hKn, _⟩ := hsp
  obtain ⟨q, hq⟩ : ∃ q, m - 1 = q := ⟨_, rfl⟩
  rw [hq] at hlo hhi
  have hqm : q < m := by omega
  have hqc : q ≤ cp := by omega
  have hqI : IntKind.i64.wrap ((m : Int) - 1) = (q : Int) := by rw [IntWalk.i64_in _ (by omega)]; omega
  obtain ⟨b, off, rfl, hb, hdd⟩ := hdg (by omega)
  obtain ⟨hpl, hrg0⟩ := hdd q (by omega)
  clear hdd
  obtain ⟨pv, hpv⟩ : ∃ pv, ds.getD q [] = pv := ⟨_, rfl⟩
  rw [hpv] at hlo hhi hpl hrg0
  obtain ⟨PL, hPL⟩ : ∃ V, V = Lib.byteCells (pv) := ⟨_, rfl⟩
  have HPLl := Lib.hid (show PL.length = 32 by rw [hPL, Lib.byteCells_length]; exact hpl)
  have HPLi := Lib.hid (show (Try.prog.info? 26).map (·.size) = some PL.toArray.size by rw [List.size_toArray, HPLl.out]; exact digInfo)
  have HPL1 := Lib.hid (show PL.toArray.all (·.oneCell') = true by rw [hPL]; exact dig_one _)
  have HPLs := Lib.hid (show (Lib.byteCells zeros).toArray.size = PL.toArray.size by rw [List.size_toArray, List.size_toArray, HPLl.out]; rfl)
  have HPL := Lib.hid hPL
  clear hPL
  rw [← HPL.out] at hrg0
  have Htq := Lib.hid (show (ds.take q).length = q by rw [List.length_take]; omega)
  have Hrl := Lib.hid hrl
  obtain ⟨W, hW⟩ : ∃ W, W = w.alloc (.cells (Lib.byteCells zeros).toArray 26) := ⟨_, rfl⟩
  have hR : Arr W w.heap.size 26 (Lib.byteCells zeros) := by rw [hW]; exact Arr.new w _ _
  have hBw : Below w.heap.size w W := by rw [hW]; exact (Below.refl _ w).alloc (Nat.le_refl _) _
  have hbsW : Bs W W.heap.size Ar row := (hbs.below hBw (Nat.le_refl _)).more hBw.size
  have hdgW : DigsAt W (some ⟨b, off, none⟩) ds := hdg.below hBw
  have hrg : W.rangeAt b (off + q * 32) PL := fun j v hj => (hBw.cell (p := ⟨b, off + q * 32 + j, none⟩) hb).trans (hrg0 j v hj)
  have hbB : b < W.heap.size := Nat.lt_of_lt_of_le hb hBw.size
  have HW := Lib.hid hW
  have HF := Lib.hid hfirst
  have Hlo := Lib.hid hlo
  have Hhi := Lib.hid hhi
  have Plo := Lib.hid plo
  have Phi := Lib.hid phi
  have HJL0 := Lib.hid hJL
  have Hmp := Lib.hid hmp
  have Hds := Lib.hid hds
  have Hq := Lib.hid hq
  have Hdg := Lib.hid hdg
  clear hW hbs hdg hrg0 hfirst hlo hhi plo phi hJL hmp hds hrl hq hpv hK
  have hd1 : ((n : Int) == 1) = false := by rw [beq_eq_false_iff_ne]; omega
  go_enter Try.func33, Try.ntmps33
  go_wp2_with fail
  change Calls _ _ _ (w.alloc (.cells (Lib.byteCells zeros).toArray 26)) _
  rw [← HW.out]
  refine Calls.mono (HF.out W) ?_
  rintro e w1 ⟨rfl, rfl⟩
  go_wp2_with fail
  obtain ⟨g, hg⟩ : ∃ g, g = w.heap.size := ⟨_, rfl⟩
  rw [← hg] at hR ⊢
  have hwg : w.heap.size ≤ g := by omega
  have hg1 := hR.lt
  clear hg HW
  have hB0 : Below w1.heap.size w1 w1.drew := below_drew _ _
  refine wp_region_held_drew (S := fun w' => w'.rangeAt b (off + q * 32) PL) (by kernel_rfl) hrg (fun hHeld => ?_)
  refine anyH_take (i := 0) (v := .slice (some ⟨b, off, none⟩) m cp) (some 19) rfl rfl (by kernel_rfl) (by kernel_rfl) (by kernel_rfl) (fun _ _ _ h => h) (Or.inl ⟨by rfl, fun _ _ => by rfl⟩) (by assumption) ?_
  simp only [Act.put, List.setIfInBounds_toArray, List.set_cons_zero, List.set_cons_succ]
  refine anyH_take (i := 1) (v := .slice (some ⟨b, off, none⟩) m cp) (some 20) rfl rfl (by kernel_rfl) (by kernel_rfl) (by kernel_rfl) (fun _ _ _ h => h) (Or.inl ⟨by rfl, fun _ _ => by rfl⟩) (by assumption) ?_
  simp only [Act.put, List.setIfInBounds_toArray, List.set_cons_zero, List.set_cons_succ]
  refine anyH_take (i := 2) (v := .int .i64 (m : Nat)) (some 21) rfl rfl (by kernel_rfl) (by kernel_rfl) (by kernel_rfl) (fun _ _ _ h => h) (Or.inl ⟨by rfl, fun _ _ => by go_simp⟩) (by assumption) ?_
  simp only [Act.put, List.setIfInBounds_toArray, List.set_cons_zero, List.set_cons_succ]
  refine anyH_take (i := 3) (v := .int .i64 (q : Nat)) (some 22) rfl rfl (by kernel_rfl) (by kernel_rfl) (by kernel_rfl) (fun _ _ _ h => h) (Or.inl ⟨by rfl, fun _ _ => by go_simp⟩) (by assumption) ?_
  simp only [Act.put, List.setIfInBounds_toArray, List.set_cons_zero, List.set_cons_succ]
  refine anyH_take (i := 4) (v := .slice (some ⟨b, off, none⟩) q cp) (some 23) rfl rfl (by kernel_rfl) (by kernel_rfl) (by kernel_rfl) (fun _ _ _ h => h) (Or.inl ⟨by rfl, fun _ _ => by go_simp⟩) (by assumption) ?_
  simp only [Act.put, List.setIfInBounds_toArray, List.set_cons_zero, List.set_cons_succ]
  refine anyH_take (i := 5) (v := .slice (some ⟨b, off, none⟩) m cp) (some 24) rfl rfl (by kernel_rfl) (by kernel_rfl) (by kernel_rfl) (fun _ _ _ h => h) (Or.inl ⟨by rfl, fun _ _ => by rfl⟩) (by assumption) ?_
  simp only [Act.put, List.setIfInBounds_toArray, List.set_cons_zero, List.set_cons_succ]
  refine anyH_take (i := 6) (v := .slice (some ⟨b, off, none⟩) m cp) (some 25) rfl rfl (by kernel_rfl) (by kernel_rfl) (by kernel_rfl) (fun _ _ _ h => h) (Or.inl ⟨by rfl, fun _ _ => by rfl⟩) (by assumption) ?_
  simp only [Act.put, List.setIfInBounds_toArray, List.set_cons_zero, List.set_cons_succ]
  refine anyH_take (i := 7) (v := .int .i64 (m : Nat)) (some 26) rfl rfl (by kernel_rfl) (by kernel_rfl) (by kernel_rfl) (fun _ _ _ h => h) (Or.inl ⟨by rfl, fun _ _ => by go_simp⟩) (by assumption) ?_
  simp only [Act.put, List.setIfInBounds_toArray, List.set_cons_zero, List.set_cons_succ]
  refine anyH_take (i := 8) (v := .int .i64 (q : Nat)) (some 27) rfl rfl (by kernel_rfl) (by kernel_rfl) (by kernel_rfl) (fun _ _ _ h => h) (Or.inl ⟨by rfl, fun _ _ => by go_simp⟩) (by assumption) ?_
  simp only [Act.put, List.setIfInBounds_toArray, List.set_cons_zero, List.set_cons_succ]
  refine anyH_take (i := 9) (v := .pointer (some ⟨b, off + q * 32, none⟩)) (some 28) rfl rfl (by kernel_rfl) (by kernel_rfl) (by kernel_rfl) (fun _ _ _ h => h) (Or.inl ⟨by rfl, fun _ _ => by go_simp⟩) (by assumption) ?_
  simp only [Act.put, List.setIfInBounds_toArray, List.set_cons_zero, List.set_cons_succ]
  refine anyH_take (i := 10) (some 29) rfl rfl (by kernel_rfl) (by kernel_rfl) (by kernel_rfl) (fun _ _ _ h => h) (yieldsIf_load_mid (by rfl) 26 (.tmp 28) rfl b (off + q * 32) rfl PL _ (fun _ h => h) Try.underlying26 rfl (by rw [← List.size_toArray]; exact HPLi.out)) (by assumption) ?_
  simp only [Act.put, List.setIfInBounds_toArray, List.set_cons_zero, List.set_cons_succ]
  refine wpAnyH_ready (rs := [11]) (by kernel_rfl) (by simp) ?_
  refine AllReadyH.cons rfl (fun KC hKC => ?_) AllReadyH.nil
  have hrg3 : (w1.drew.alloc (.cells (Lib.byteCells zeros).toArray 26)).rangeAt b (off + q * 32) PL := fun j v hj => (((below_drew w1.heap.size w1).alloc (Nat.le_refl _) _).cell (p := ⟨b, off + q * 32 + j, none⟩) hbB).trans (hrg j v hj)
  go_simp
  refine hKC.out _ _ hrg3 (fun hHeld8 => ?_)
  clear hKC KC
  try simp only [Act.put, List.setIfInBounds_toArray, List.set_cons_zero, List.set_cons_succ]
  change wpAnyH _ _ _ _ _ _ _ _ (w1.drew.alloc (.cells (Lib.byteCells zeros).toArray 26))
  obtain ⟨g4, hg4⟩ : ∃ x, x = w1.drew.heap.size := ⟨_, rfl⟩
  have hN3 := Arr.new w1.drew 26 (Lib.byteCells zeros)
  have hB3 : Below w1.heap.size w1 (w1.drew.alloc (.cells (Lib.byteCells zeros).toArray 26)) := (below_drew w1.heap.size w1).alloc (Nat.le_refl _) _
  obtain ⟨w3, hw3⟩ : ∃ x, x = w1.drew.alloc (.cells (Lib.byteCells zeros).toArray 26) := ⟨_, rfl⟩
  have hg4w : w1.heap.size ≤ g4 := Nat.le_of_eq (by rw [hg4]; rfl)
  rw [← hw3] at hN3 hB3 hrg3 ⊢
  change Arr w3 w1.drew.heap.size _ _ at hN3
  try change wpAnyH _ _ _ _ _ _ _ (Act.put _ _ (.pointer (some ⟨w1.drew.heap.size, 0, none⟩))) _
  rw [← hg4] at hN3
  rw [show w1.heap.size = g4 from hg4.symm]
  clear hw3 hg4
  refine anyH_take (i := 12) (v := .slice (some ⟨b, off, none⟩) q cp) (some 10) rfl rfl (by kernel_rfl) (by kernel_rfl) (by kernel_rfl) (fun _ _ _ h => h) (Or.inl ⟨by rfl, fun _ _ => by rfl⟩) (by assumption) ?_
  simp only [Act.put, List.setIfInBounds_toArray, List.set_cons_zero, List.set_cons_succ]
  refine wpAnyH_ready (rs := [13]) (by kernel_rfl) (by simp) ?_
  refine AllReadyH.cons rfl (fun KC hKC => ?_) AllReadyH.nil
  rw [if_pos (by rfl)]
  obtain ⟨hth, hP4, hons4⟩ := put_arr hN3 (show (Lib.byteCells zeros).length = PL.length by rw [HPLl.out]; rfl)
  refine wp_store_mid 26 _ _ rfl g4 0 PL.toArray rfl rfl (by rw [List.size_toArray]; exact hth) HPLi.out HPL1.out ?_
  have hB4 := hB3.trans (hons4.below hB3.size (by rintro i rfl; exact hg4w))
  have hrg4 : (w3.setCells g4 0 PL).rangeAt b (off + q * 32) PL := fun j v hj => (hB4.cell (p := ⟨b, off + q * 32 + j, none⟩) hbB).trans (hrg j v hj)
  refine hKC.out _ _ hrg4 (fun hHeld9 => ?_)
  clear hKC KC
  try simp only [Act.put, List.setIfInBounds_toArray, List.set_cons_zero, List.set_cons_succ]
  refine wpAnyH_done (by kernel_rfl) ?_ _
  clear hrg hrg3 hrg4 hHeld hqI
  try rw [show PL.toArray.toList = PL from rfl]
  obtain ⟨w5, hw5⟩ : ∃ x, x = w3.setCells g4 0 PL := ⟨_, rfl⟩
  rw [← hw5] at hP4 hB4 ⊢
  clear hw5 hons4 hB3 hN3 hth hB0
  have hP5 := hP4
  have hR5 := hR.below hB4 hR.lt
  have hBw5 := hBw.trans (hB4.mono hBw.size)
  have hbs5 : Bs w5 w5.heap.size Ar row := (hbsW.below hB4 (Nat.le_refl _)).more hB4.size
  have hdg5 : DigsAt w5 (some ⟨b, off, none⟩) ds := hdgW.below hB4
  have hgg : g < g4 := by omega
  have hB50 : Below w5.heap.size w5 w5.drew := below_drew _ _
  clear hP4 hR hbsW hdgW hBw hB4
  by_cases haK : a < K
  · have hl := Hlo.out haK
    have hp := Plo.out haK
    have ihX := ih K hKn hK0
    have haX := haK
    have HqX := Lib.hid (show q = plenF K a by have := Hmp.out; have := Hq.out; omega)
    obtain ⟨IL, hIL⟩ : ∃ V, V = Lib.byteCells (leadF K a row (ds.take q)).1 := ⟨_, rfl⟩
    have HIL := Lib.hid hIL
    have hJL := HJL0.out
    rw [hl] at hJL
    have HJLl := Lib.hid (show JL.length = 32 by rw [hJL, Lib.byteCells_length]; exact joinF_length _ _)
    have HJLi := Lib.hid (show (Try.prog.info? 26).map (·.size) = some JL.toArray.size by rw [List.size_toArray, HJLl.out]; exact digInfo)
    have HJL := Lib.hid hJL
    clear hl hp hIL hJL
    go_wp2_with fail
    refine wp_region_held_drew (S := fun w' => w'.rangeAt g4 0 PL) (by kernel_rfl) (hP5.drewN 1).range (fun hHeld => ?_)
    refine anyH_take (i := 0) (v := .int .i64 (K : Nat)) (some 33) rfl rfl (by kernel_rfl) (by kernel_rfl) (by kernel_rfl) (fun _ _ _ h => h) (Or.inl ⟨by rfl, fun _ _ => by rfl⟩) (by assumption) ?_
    simp only [Act.put, List.setIfInBounds_toArray, List.set_cons_zero, List.set_cons_succ]
    refine anyH_take (i := 1) (v := .int .i64 (a : Nat)) (some 34) rfl rfl (by kernel_rfl) (by kernel_rfl) (by kernel_rfl) (fun _ _ _ h => h) (Or.inl ⟨by rfl, fun _ _ => by rfl⟩) (by assumption) ?_
    simp only [Act.put, List.setIfInBounds_toArray, List.set_cons_zero, List.set_cons_succ]
    refine anyH_take (i := 2) (v := .slice Ar lr cr) (some 35) rfl rfl (by kernel_rfl) (by kernel_rfl) (by kernel_rfl) (fun _ _ _ h => h) (Or.inl ⟨by rfl, fun _ _ => by rfl⟩) (by assumption) ?_
    simp only [Act.put, List.setIfInBounds_toArray, List.set_cons_zero, List.set_cons_succ]
    refine anyH_take (i := 3) (v := .slice (some ⟨b, off, none⟩) q cp) (some 36) rfl rfl (by kernel_rfl) (by kernel_rfl) (by kernel_rfl) (fun _ _ _ h => h) (Or.inl ⟨by rfl, fun _ _ => by rfl⟩) (by assumption) ?_
    simp only [Act.put, List.setIfInBounds_toArray, List.set_cons_zero, List.set_cons_succ]
    refine anyH_take (i := 5) (some 38) rfl rfl (by kernel_rfl) (by kernel_rfl) (by kernel_rfl) (fun _ _ _ h => h) (yieldsIf_load_mid (by rfl) 26 (.tmp 11) rfl g4 0 rfl PL _ (fun _ h => h) Try.underlying26 rfl (by rw [← List.size_toArray]; exact HPLi.out)) (by assumption) ?_
    simp only [Act.put, List.setIfInBounds_toArray, List.set_cons_zero, List.set_cons_succ]
    refine wpAnyH_ready (rs := [4]) (by kernel_rfl) (by simp) ?_
    refine AllReadyH.cons rfl (fun KC hKC => ?_) AllReadyH.nil
    go_simp
    go_at_call 33
    refine Calls.mono (ihX a row (ds.take q) IL Ar lr cr (some ⟨b, off, none⟩) q cp _ haX Hrl.out hr0 hlc hcm ((hbs5.below hB50 (Nat.le_refl _)).more hB50.size) Htq.out (by omega) hcp ((hdg5.below hB50).take q) HqX.out HIL.out) ?_
    rintro e w8 ⟨rfl, hb8⟩
    have hB8 := hB50.trans (hb8.mono hB50.size)
    go_wp2_with fail
    refine hKC.out _ _ (Arr.below hP5 hB8 hP5.lt).range (fun hHeld8 => ?_)
    clear hKC KC
    try simp only [Act.put, List.setIfInBounds_toArray, List.set_cons_zero, List.set_cons_succ]
    refine wpAnyH_ready (rs := [6]) (by kernel_rfl) (by simp) ?_
    refine AllReadyH.cons rfl (fun KC hKC => ?_) AllReadyH.nil
    go_simp
    go_at_call 29
    refine Calls.mono (joined_any _ _ IL PL JL _ (leadF_length _ _ _ _) hpl HIL.out HPL.out HJL.out) ?_
    rintro e w9 ⟨rfl, hb9⟩
    have hB9 := hB8.trans (hb9.mono hB8.size)
    go_wp2_with fail
    refine hKC.out _ _ (Arr.below hP5 hB9 hP5.lt).range (fun hHeld9 => ?_)
    clear hKC KC
    try simp only [Act.put, List.setIfInBounds_toArray, List.set_cons_zero, List.set_cons_succ]
    refine wpAnyH_ready (rs := [7]) (by kernel_rfl) (by simp) ?_
    refine AllReadyH.cons rfl (fun KC hKC => ?_) AllReadyH.nil
    rw [if_pos (by rfl)]
    obtain ⟨hth, hset10, hons10⟩ := put_arr (Arr.below hR5 hB9 hR5.lt) (show (Lib.byteCells zeros).length = JL.length by rw [HJLl.out]; rfl)
    refine wp_store_mid 26 _ _ rfl g 0 JL.toArray rfl rfl (by rw [List.size_toArray]; exact hth) HJLi.out (all_oneCell_toArray (by rw [HJL.out]; exact byteCells_one _)) ?_
    have hBf := hBw5.trans ((hB9.mono (hBw5.size)).trans (hons10.below (Nat.le_trans hBw5.size hB9.size) (by rintro i rfl; exact hwg)))
    refine hKC.out _ _ (Arr.only (Arr.below hP5 hB9 hP5.lt) hons10 (show ¬ g4 = g by omega)).range (fun hHeld10 => ?_)
    clear hKC KC
    try simp only [Act.put, List.setIfInBounds_toArray, List.set_cons_zero, List.set_cons_succ]
    refine wpAnyH_done (by kernel_rfl) ?_ _
    try rw [show JL.toArray.toList = JL from rfl]
    clear hHeld
    go_wp2_with fail
    exact bodyPost_ret (v := .agg JL.toArray) (results_cell_row (by rfl) _ _ g 26 JL.toArray (0, 0) _ (by rfl) hset10 Try.underlying26 rfl HJLi.out) rfl ⟨rfl, hBf⟩
  · have hl := Hhi.out (by omega)
    have hp := Phi.out (by omega)
    obtain ⟨nK, hnK⟩ : ∃ x, n - K = x := ⟨_, rfl⟩
    obtain ⟨aK, haKe⟩ : ∃ x, a - K = x := ⟨_, rfl⟩
    rw [hnK, haKe] at hl hp
    have ihX := ih nK (by omega) (by omega)
    have haX : aK < nK := by omega
    have hs1 : IntKind.i64.wrap ((n : Int) - (K : Int)) = (nK : Int) := by rw [IntWalk.i64_in _ (by omega)]; omega
    have hs2 : IntKind.i64.wrap ((a : Int) - (K : Int)) = (aK : Int) := by rw [IntWalk.i64_in _ (by omega)]; omega
    have HqX := Lib.hid (show q = plenF nK aK by have := Hmp.out; have := Hq.out; omega)
    obtain ⟨IL, hIL⟩ : ∃ V, V = Lib.byteCells (leadF nK aK row (ds.take q)).1 := ⟨_, rfl⟩
    have HIL := Lib.hid hIL
    have hJL := HJL0.out
    rw [hl] at hJL
    have HJLl := Lib.hid (show JL.length = 32 by rw [hJL, Lib.byteCells_length]; exact joinF_length _ _)
    have HJLi := Lib.hid (show (Try.prog.info? 26).map (·.size) = some JL.toArray.size by rw [List.size_toArray, HJLl.out]; exact digInfo)
    have HJL := Lib.hid hJL
    clear hl hp hIL hJL hnK haKe
    go_wp2_with fail
    refine wp_region_held_drew (S := fun w' => w'.rangeAt g4 0 PL) (by kernel_rfl) (hP5.drewN 1).range (fun hHeld => ?_)
    refine anyH_take (i := 0) (some 40) rfl rfl (by kernel_rfl) (by kernel_rfl) (by kernel_rfl) (fun _ _ _ h => h) (yieldsIf_load_mid (by rfl) 26 (.tmp 11) rfl g4 0 rfl PL _ (fun _ h => h) Try.underlying26 rfl (by rw [← List.size_toArray]; exact HPLi.out)) (by assumption) ?_
    simp only [Act.put, List.setIfInBounds_toArray, List.set_cons_zero, List.set_cons_succ]
    refine anyH_take (i := 1) (v := .int .i64 (n : Nat)) (some 41) rfl rfl (by kernel_rfl) (by kernel_rfl) (by kernel_rfl) (fun _ _ _ h => h) (Or.inl ⟨by rfl, fun _ _ => by rfl⟩) (by assumption) ?_
    simp only [Act.put, List.setIfInBounds_toArray, List.set_cons_zero, List.set_cons_succ]
    refine anyH_take (i := 2) (v := .int .i64 (K : Nat)) (some 42) rfl rfl (by kernel_rfl) (by kernel_rfl) (by kernel_rfl) (fun _ _ _ h => h) (Or.inl ⟨by rfl, fun _ _ => by rfl⟩) (by assumption) ?_
    simp only [Act.put, List.setIfInBounds_toArray, List.set_cons_zero, List.set_cons_succ]
    refine anyH_take (i := 3) (v := .int .i64 (nK : Nat)) (some 43) rfl rfl (by kernel_rfl) (by kernel_rfl) (by kernel_rfl) (fun _ _ _ h => h) (Or.inl ⟨by rfl, fun _ _ => by go_simp⟩) (by assumption) ?_
    simp only [Act.put, List.setIfInBounds_toArray, List.set_cons_zero, List.set_cons_succ]
    refine anyH_take (i := 4) (v := .int .i64 (a : Nat)) (some 44) rfl rfl (by kernel_rfl) (by kernel_rfl) (by kernel_rfl) (fun _ _ _ h => h) (Or.inl ⟨by rfl, fun _ _ => by rfl⟩) (by assumption) ?_
    simp only [Act.put, List.setIfInBounds_toArray, List.set_cons_zero, List.set_cons_succ]
    refine anyH_take (i := 5) (v := .int .i64 (K : Nat)) (some 45) rfl rfl (by kernel_rfl) (by kernel_rfl) (by kernel_rfl) (fun _ _ _ h => h) (Or.inl ⟨by rfl, fun _ _ => by rfl⟩) (by assumption) ?_
    simp only [Act.put, List.setIfInBounds_toArray, List.set_cons_zero, List.set_cons_succ]
    refine anyH_take (i := 6) (v := .int .i64 (aK : Nat)) (some 46) rfl rfl (by kernel_rfl) (by kernel_rfl) (by kernel_rfl) (fun _ _ _ h => h) (Or.inl ⟨by rfl, fun _ _ => by go_simp⟩) (by assumption) ?_
    simp only [Act.put, List.setIfInBounds_toArray, List.set_cons_zero, List.set_cons_succ]
    refine anyH_take (i := 7) (v := .slice Ar lr cr) (some 47) rfl rfl (by kernel_rfl) (by kernel_rfl) (by kernel_rfl) (fun _ _ _ h => h) (Or.inl ⟨by rfl, fun _ _ => by rfl⟩) (by assumption) ?_
    simp only [Act.put, List.setIfInBounds_toArray, List.set_cons_zero, List.set_cons_succ]
    refine anyH_take (i := 8) (v := .slice (some ⟨b, off, none⟩) q cp) (some 48) rfl rfl (by kernel_rfl) (by kernel_rfl) (by kernel_rfl) (fun _ _ _ h => h) (Or.inl ⟨by rfl, fun _ _ => by rfl⟩) (by assumption) ?_
    simp only [Act.put, List.setIfInBounds_toArray, List.set_cons_zero, List.set_cons_succ]
    refine wpAnyH_ready (rs := [9]) (by kernel_rfl) (by simp) ?_
    refine AllReadyH.cons rfl (fun KC hKC => ?_) AllReadyH.nil
    go_simp
    go_at_call 33
    refine Calls.mono (ihX aK row (ds.take q) IL Ar lr cr (some ⟨b, off, none⟩) q cp _ haX Hrl.out hr0 hlc hcm ((hbs5.below hB50 (Nat.le_refl _)).more hB50.size) Htq.out (by omega) hcp ((hdg5.below hB50).take q) HqX.out HIL.out) ?_
    rintro e w8 ⟨rfl, hb8⟩
    have hB8 := hB50.trans (hb8.mono hB50.size)
    go_wp2_with fail
    refine hKC.out _ _ (Arr.below hP5 hB8 hP5.lt).range (fun hHeld8 => ?_)
    clear hKC KC
    try simp only [Act.put, List.setIfInBounds_toArray, List.set_cons_zero, List.set_cons_succ]
    refine wpAnyH_ready (rs := [10]) (by kernel_rfl) (by simp) ?_
    refine AllReadyH.cons rfl (fun KC hKC => ?_) AllReadyH.nil
    go_simp
    go_at_call 29
    refine Calls.mono (joined_any _ _ PL IL JL _ hpl (leadF_length _ _ _ _) HPL.out HIL.out HJL.out) ?_
    rintro e w9 ⟨rfl, hb9⟩
    have hB9 := hB8.trans (hb9.mono hB8.size)
    go_wp2_with fail
    refine hKC.out _ _ (Arr.below hP5 hB9 hP5.lt).range (fun hHeld9 => ?_)
    clear hKC KC
    try simp only [Act.put, List.setIfInBounds_toArray, List.set_cons_zero, List.set_cons_succ]
    refine wpAnyH_ready (rs := [11]) (by kernel_rfl) (by simp) ?_
    refine AllReadyH.cons rfl (fun KC hKC => ?_) AllReadyH.nil
    rw [if_pos (by rfl)]
    obtain ⟨hth, hset10, hons10⟩ := put_arr (Arr.below hR5 hB9 hR5.lt) (show (Lib.byteCells zeros).length = JL.length by rw [HJLl.out]; rfl)
    refine wp_store_mid 26 _ _ rfl g 0 JL.toArray rfl rfl (by rw [List.size_toArray]; exact hth) HJLi.out (all_oneCell_toArray (by rw [HJL.out]; exact byteCells_one _)) ?_
    have hBf := hBw5.trans ((hB9.mono (hBw5.size)).trans (hons10.below (Nat.le_trans hBw5.size hB9.size) (by rintro i rfl; exact hwg)))
    refine hKC.out _ _ (Arr.only (Arr.below hP5 hB9 hP5.lt) hons10 (show ¬ g4 = g by omega)).range (fun hHeld10 => ?_)
    clear hKC KC
    try simp only [Act.put, List.setIfInBounds_toArray, List.set_cons_zero, List.set_cons_succ]
    refine wpAnyH_done (by kernel_rfl) ?_ _
    try rw [show JL.toArray.toList = JL from rfl]
    clear hHeld
    go_wp2_with fail
    exact bodyPost_ret (v := .agg JL.toArray) (results_cell_row (by rfl) _ _ g 26 JL.toArray (0, 0) _ (by rfl) hset10 Try.underlying26 rfl HJLi.out) rfl ⟨rfl, hBf⟩

theorem led_all : ∀ (n : Nat), n ≤ 9223372036854775807 → 1 ≤ n → LedC n := by
  intro n
  induction n using Nat.strongRecOn with
  | ind n ih =>
    intro hn h1
    by_cases h2 : n = 1
    · subst h2; exact led_one
    · exact led_two n (by omega) hn fun m hm h => ih m hm (by omega) h

end Go.Proofs.Ytkpgbgiamekhaab

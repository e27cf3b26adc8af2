/-
  TriePut TrieWith TrieOnce TrieNew TrieBytes TrieBranch: texts on the way to the laws, as one.
-/
import Derived.Test.YtblgmnjegkfoaaaGreatK08
import Derived.Tactics
import Derived.Tactics2
import Derived.Defers
import Derived.Laws.Pointers
import Derived.Laws.LoneSync
import Derived.RegionTactic
import Derived.RegionCalls
import Derived.ChangeAlike
import Derived.Laws.NewBlocks
import Derived.Lib.EndianBits
set_option maxRecDepth 100000
namespace Go.Proofs.YtblgmnjegkfoaaaGreat
open Go.RowKit
set_option linter.unusedVariables false
set_option linter.unusedSimpArgs false

theorem kids_size : (Tryz.prog.info? 132).map (·.size) = some 16 := by kernel_rfl
theorem kidsC_length (ps : List (Option Addr)) : (kidsC ps).length = ps.length := by simp [kidsC]
theorem kidsC_one (ps : List (Option Addr)) : ∀ v ∈ kidsC ps, v.oneCell' = true := by
  intro v hv
  obtain ⟨p, _, rfl⟩ := List.mem_map.1 hv
  rfl
theorem kidsC_set (ps : List (Option Addr)) (i : Nat) (q : Option Addr) : (kidsC ps).set i (.pointer q) = kidsC (ps.set i q) := by simp [kidsC, List.map_set]

set_option maxHeartbeats 8000000 in
set_option maxRecDepth 100000 in
theorem put_alone (key : List UInt8) (KL : List Value) (hKL : KL = Lib.byteCells key) (hk : key.length = 32) (g gn : Nat) (f t : Int) (vv : Value) (d m s : Int) (dig : List UInt8) (NL : List Value) (hNL : NL = nodeC key f t vv (.pointer (some ⟨gn, 0, none⟩)) d m s dig)
    (ps : List (Option Addr)) (hps : ps.length = 16) (PL : List Value) (hPL : PL = kidsC ps) (i : Nat) (hi16 : i < 16) (q : Option Addr) (w : World) (hN : Arr w g 87 NL) (hP : Arr w gn 132 PL) (gk : Nat) (hr : aloneF (ps.set i q) none = some ⟨gk, 0, none⟩) (key' : List UInt8) (KL' : List Value) (hKL' : KL' = Lib.byteCells key') (hk' : key'.length = 32) (f' t' : Int) (A : Option Addr) (n c : Nat) (np : Option Addr) (d' m' s' : Int) (dig' : List UInt8) (OL : List Value) (hOL : OL = nodeC key' f' t' (.slice A n c) (.pointer np) d' m' s' dig') (ML : List Value) (hML : ML = nodeC key' f t' (.slice A n c) (.pointer np) 0 0 0 z32) (hO : Arr w gk 87 OL) :
    Calls Tryz.prog 59 #[.pointer (some ⟨g, 0, none⟩), .int .u8 (i : Nat), .pointer q] w fun x w' => ∃ g2, w.heap.size ≤ g2 ∧ x = .returned (.pointer (some ⟨g2, 0, none⟩)) ∧ Arr w' g2 87 ML ∧ Below w.heap.size w w' := by
  have Hkey : Hid (∀ w' : World, Arr w' g 87 NL → w'.rangeAt g 0 KL) := fun w' h => node_key hNL hKL h
  have Hat : Hid (∀ w' : World, Arr w' g 87 NL → w'.cell? ⟨g, 32, none⟩ = some (.int .i64 f) ∧ w'.cell? ⟨g, 33, none⟩ = some (.int .i64 t) ∧ w'.cell? ⟨g, 35, none⟩ = some (.pointer (some ⟨gn, 0, none⟩))) := fun w' h => ⟨(node_at hNL hk h).1, (node_at hNL hk h).2.1, (node_at hNL hk h).2.2.2.1⟩
  have Hki := Lib.hid (show (Tryz.prog.info? 24).map (·.size) = some KL.length by rw [hKL, Lib.byteCells_length, hk]; kernel_rfl)
  have hpl : PL.length = 16 := by rw [hPL, kidsC_length, hps]
  have Hpi := Lib.hid (show (Tryz.prog.info? 132).map (·.size) = some PL.toArray.size by rw [List.size_toArray, hpl]; exact kids_size)
  have Hps := Lib.hid (show (kidsC noKids).toArray.size = PL.toArray.size by rw [List.size_toArray, List.size_toArray, hpl]; rfl)
  have Hp1 := Lib.hid (show PL.toArray.all (·.oneCell') = true from all_oneCell_toArray (by rw [hPL]; exact kidsC_one _))
  have hnn := (Hat.out w hN).2.2
  have hgw := hN.lt
  have hA1 := (alloc_row w 132 (kidsC noKids).toArray PL).1
  have hb1 := (alloc_row w 132 (kidsC noKids).toArray PL).2
  have HKL := Lib.hid hKL
  have HPL := Lib.hid hPL
  have HP := Lib.hid hP
  have Hr := Lib.hid hr
  have HOL := Lib.hid hOL
  have HML := Lib.hid hML
  have HKL' := Lib.hid hKL'
  have hgk := hO.lt
  have hgk' : gk ≠ w.heap.size := Nat.ne_of_lt hgk
  clear hOL hML hKL'
  clear hKL hNL hPL hpl hP hr
  go_enter Tryz.func59, Tryz.ntmps59
  go_wp2_with (first
    | (refine wpList_load_row rfl _ _ rfl gn rfl 132 PL.toArray (0, 0) _ HP.out Tryz.underlying132 rfl Hpi.out ?_)
    | (change wpList _ _ _ _ _ (w.alloc (.cells (kidsC noKids).toArray 132)); refine wpList_store_row rfl _ _ _ rfl w.heap.size PL.toArray rfl rfl 132 (kidsC noKids).toArray (heap_alloc_new w _) Hpi.out Hps.out Hp1.out ?_; obtain ⟨w1, hw1⟩ : ∃ x, x = (w.alloc (.cells (kidsC noKids).toArray 132)).setRow w.heap.size PL.toArray := ⟨_, rfl⟩; rw [← hw1] at hA1 hb1 ⊢; clear hw1; have hN1 := hN.up hb1; have hcA : ∃ v, w1.cell? ⟨w.heap.size, i, none⟩ = some v := ⟨_, by rw [hA1.cell, HPL.out]; unfold kidsC; rw [List.getElem?_map, List.getElem?_eq_getElem (by omega)]; rfl⟩; obtain ⟨v0, hcA⟩ := hcA; have hfA := hA1.frozen i))
  have hB2 : Below w.heap.size w (w1.setCell ⟨w.heap.size, i, none⟩ (.pointer q)) := hb1.trans (((Only.refl (fun k => k = w.heap.size) w1).setCell (p := ⟨w.heap.size, i, none⟩) (.inl rfl) _).below hb1.size (by rintro k rfl; exact Nat.le_refl _))
  have hN2 : Arr (w1.setCell ⟨w.heap.size, i, none⟩ (.pointer q)) g 87 NL := hN1.setOther (p := ⟨w.heap.size, i, none⟩) (Nat.ne_of_lt hgw) _
  have hA2 : Arr (w1.setCell ⟨w.heap.size, i, none⟩ (.pointer q)) w.heap.size 132 (kidsC (ps.set i q)) := by
    have h := hA1.set i (.pointer q)
    rw [HPL.out, kidsC_set] at h; exact h
  have hO2 : Arr (w1.setCell ⟨w.heap.size, i, none⟩ (.pointer q)) gk 87 OL := (hO.up hb1).setOther (p := ⟨w.heap.size, i, none⟩) hgk' _
  obtain ⟨w2, hw2⟩ : ∃ x, x = w1.setCell ⟨w.heap.size, i, none⟩ (.pointer q) := ⟨_, rfl⟩
  rw [← hw2] at hB2 hN2 hA2 hO2 ⊢
  clear hw2 hcA hfA hA1 hN1 hb1 hnn hO
  refine Calls.mono (alone_run (ps.set i q) (by rw [List.length_set]; exact hps) _ rfl (some ⟨gk, 0, none⟩) Hr.out w.heap.size w2 hA2) ?_
  rintro x w3 ⟨rfl, hb3⟩
  have hN3 := hN2.up hb3
  have hA3 := hA2.up hb3
  have hB3 := hB2.trans (hb3.mono hB2.size)
  have hO3 := hO2.up hb3
  have hf3 := (Hat.out w3 hN3).1
  clear hB2 hN2 hA2 hO2 hb3
  go_wp2_with fail
  go_at_call 77
  refine Calls.mono (begun_run key' KL' HKL'.out hk' gk f' t' A n c np d' m' s' dig' OL HOL.out f ML HML.out w3 hO3) ?_
  rintro x w4 ⟨rfl, hM4, hb4⟩
  have hB4 := hB3.trans (hb4.mono hB3.size)
  have hge := hB3.size
  clear hb4 hO3 hN3 hA3 hf3
  go_wp2_with fail
  go_ret
  exact ⟨w3.heap.size, hge, rfl, hM4, hB4⟩

set_option maxHeartbeats 8000000 in
set_option maxRecDepth 100000 in
theorem put_branch (key : List UInt8) (KL : List Value) (hKL : KL = Lib.byteCells key) (hk : key.length = 32) (g gn : Nat) (f t : Int) (vv : Value) (d m s : Int) (dig : List UInt8) (NL : List Value) (hNL : NL = nodeC key f t vv (.pointer (some ⟨gn, 0, none⟩)) d m s dig)
    (ps : List (Option Addr)) (hps : ps.length = 16) (PL : List Value) (hPL : PL = kidsC ps) (i : Nat) (hi16 : i < 16) (q : Option Addr) (w : World) (hN : Arr w g 87 NL) (hP : Arr w gn 132 PL) (hr : aloneF (ps.set i q) none = none) :
    Calls Tryz.prog 59 #[.pointer (some ⟨g, 0, none⟩), .int .u8 (i : Nat), .pointer q] w fun x w' => ∃ g2 gA, w.heap.size ≤ g2 ∧ w.heap.size ≤ gA ∧ x = .returned (.pointer (some ⟨g2, 0, none⟩)) ∧ Arr w' g2 87 (nodeC key f t (.slice none 0 0) (.pointer (some ⟨gA, 0, none⟩)) 0 0 0 z32) ∧ Arr w' gA 132 (kidsC (ps.set i q)) ∧ Below w.heap.size w w' := by
  have Hkey : Hid (∀ w' : World, Arr w' g 87 NL → w'.rangeAt g 0 KL) := fun w' h => node_key hNL hKL h
  have Hat : Hid (∀ w' : World, Arr w' g 87 NL → w'.cell? ⟨g, 32, none⟩ = some (.int .i64 f) ∧ w'.cell? ⟨g, 33, none⟩ = some (.int .i64 t) ∧ w'.cell? ⟨g, 35, none⟩ = some (.pointer (some ⟨gn, 0, none⟩))) := fun w' h => ⟨(node_at hNL hk h).1, (node_at hNL hk h).2.1, (node_at hNL hk h).2.2.2.1⟩
  have Hki := Lib.hid (show (Tryz.prog.info? 24).map (·.size) = some KL.length by rw [hKL, Lib.byteCells_length, hk]; kernel_rfl)
  have hpl : PL.length = 16 := by rw [hPL, kidsC_length, hps]
  have Hpi := Lib.hid (show (Tryz.prog.info? 132).map (·.size) = some PL.toArray.size by rw [List.size_toArray, hpl]; exact kids_size)
  have Hps := Lib.hid (show (kidsC noKids).toArray.size = PL.toArray.size by rw [List.size_toArray, List.size_toArray, hpl]; rfl)
  have Hp1 := Lib.hid (show PL.toArray.all (·.oneCell') = true from all_oneCell_toArray (by rw [hPL]; exact kidsC_one _))
  have hnn := (Hat.out w hN).2.2
  have hgw := hN.lt
  have hA1 := (alloc_row w 132 (kidsC noKids).toArray PL).1
  have hb1 := (alloc_row w 132 (kidsC noKids).toArray PL).2
  have HKL := Lib.hid hKL
  have HPL := Lib.hid hPL
  have HP := Lib.hid hP
  have Hr := Lib.hid hr
  clear hKL hNL hPL hpl hP hr
  go_enter Tryz.func59, Tryz.ntmps59
  go_wp2_with (first
    | (refine wpList_load_row rfl _ _ rfl gn rfl 132 PL.toArray (0, 0) _ HP.out Tryz.underlying132 rfl Hpi.out ?_)
    | (change wpList _ _ _ _ _ (w.alloc (.cells (kidsC noKids).toArray 132)); refine wpList_store_row rfl _ _ _ rfl w.heap.size PL.toArray rfl rfl 132 (kidsC noKids).toArray (heap_alloc_new w _) Hpi.out Hps.out Hp1.out ?_; obtain ⟨w1, hw1⟩ : ∃ x, x = (w.alloc (.cells (kidsC noKids).toArray 132)).setRow w.heap.size PL.toArray := ⟨_, rfl⟩; rw [← hw1] at hA1 hb1 ⊢; clear hw1; have hN1 := hN.up hb1; have hcA : ∃ v, w1.cell? ⟨w.heap.size, i, none⟩ = some v := ⟨_, by rw [hA1.cell, HPL.out]; unfold kidsC; rw [List.getElem?_map, List.getElem?_eq_getElem (by omega)]; rfl⟩; obtain ⟨v0, hcA⟩ := hcA; have hfA := hA1.frozen i))
  have hB2 : Below w.heap.size w (w1.setCell ⟨w.heap.size, i, none⟩ (.pointer q)) := hb1.trans (((Only.refl (fun k => k = w.heap.size) w1).setCell (p := ⟨w.heap.size, i, none⟩) (.inl rfl) _).below hb1.size (by rintro k rfl; exact Nat.le_refl _))
  have hN2 : Arr (w1.setCell ⟨w.heap.size, i, none⟩ (.pointer q)) g 87 NL := hN1.setOther (p := ⟨w.heap.size, i, none⟩) (Nat.ne_of_lt hgw) _
  have hA2 : Arr (w1.setCell ⟨w.heap.size, i, none⟩ (.pointer q)) w.heap.size 132 (kidsC (ps.set i q)) := by
    have h := hA1.set i (.pointer q)
    rw [HPL.out, kidsC_set] at h; exact h
  obtain ⟨w2, hw2⟩ : ∃ x, x = w1.setCell ⟨w.heap.size, i, none⟩ (.pointer q) := ⟨_, rfl⟩
  rw [← hw2] at hB2 hN2 hA2 ⊢
  clear hw2 hcA hfA hA1 hN1 hb1 hnn
  refine Calls.mono (alone_run (ps.set i q) (by rw [List.length_set]; exact hps) _ rfl (none) Hr.out w.heap.size w2 hA2) ?_
  rintro x w3 ⟨rfl, hb3⟩
  have hN3 := hN2.up hb3
  have hA3 := hA2.up hb3
  have hB3 := hB2.trans (hb3.mono hB2.size)
  clear hB2 hN2 hA2
  obtain ⟨CL, hCL⟩ : ∃ CL, CL = nodeC key f t (.slice none 0 0) (.pointer (some ⟨w.heap.size, 0, none⟩)) 0 0 0 z32 := ⟨_, rfl⟩
  have Hb := Lib.hid (show Tryz.prog.built 87 [(0, .agg KL.toArray), (1, .int .i64 f), (2, .int .i64 t), (4, .pointer (some ⟨w.heap.size, 0, none⟩))] = some CL.toArray by rw [hCL]; exact node_built_branch key KL HKL.out hk f _ _ rfl)
  have hO5 : Below w3.heap.size w3 ((w3.drewN 1).alloc (.cells CL.toArray 87)) := (Below.dN (Below.refl _ w3) 1).alloc (Nat.le_refl _) _
  have hC5 : Arr ((w3.drewN 1).alloc (.cells CL.toArray 87)) w3.heap.size 87 CL := Arr.new (w3.drewN 1) _ _
  have hA5 := hA3.up hO5
  have hB5 := hB3.trans (hO5.mono hB3.size)
  have hge := hB3.size
  have HCL := Lib.hid hCL
  clear hCL hO5 hb3
  go_wp2_with fail
  refine wp_region_held_drew (S := fun w' => Arr w' g 87 NL) (by kernel_rfl) (hN3.drewN 1) (fun hHeld => ?_)
  refine anyH_take (i := 0) (v := .pointer (some ⟨g, 0, none⟩)) (some 27) rfl rfl (by kernel_rfl) (by kernel_rfl) (by kernel_rfl) (fun _ _ _ h => h) (Or.inl ⟨by rfl, fun w' hw => by rfl⟩) (by assumption) ?_
  simp only [Act.put, List.setIfInBounds_toArray, List.set_cons_zero, List.set_cons_succ]
  refine anyH_take (i := 1) (v := .pointer (some ⟨g, 0, none⟩)) (some 28) rfl rfl (by kernel_rfl) (by kernel_rfl) (by kernel_rfl) (fun _ _ _ h => h) (Or.inl ⟨by rfl, fun w' hw => by go_simp⟩) (by assumption) ?_
  simp only [Act.put, List.setIfInBounds_toArray, List.set_cons_zero, List.set_cons_succ]
  refine anyH_take (i := 2) (v := .pointer (some ⟨g, 0, none⟩)) (some 29) rfl rfl (by kernel_rfl) (by kernel_rfl) (by kernel_rfl) (fun _ _ _ h => h) (Or.inl ⟨by rfl, fun w' hw => by go_simp⟩) (by assumption) ?_
  simp only [Act.put, List.setIfInBounds_toArray, List.set_cons_zero, List.set_cons_succ]
  refine anyH_take (i := 3) (some 30) rfl rfl (by kernel_rfl) (by kernel_rfl) (by kernel_rfl) (fun _ _ _ h => h) (yieldsIf_load_mid (by rfl) 24 (.tmp 29) rfl g 0 rfl KL _ (fun w' h => Hkey.out w' h) Tryz.underlying24 rfl Hki.out) (by assumption) ?_
  simp only [Act.put, List.setIfInBounds_toArray, List.set_cons_zero, List.set_cons_succ]
  refine anyH_take (i := 4) (v := .pointer (some ⟨g, 0, none⟩)) (some 31) rfl rfl (by kernel_rfl) (by kernel_rfl) (by kernel_rfl) (fun _ _ _ h => h) (Or.inl ⟨by rfl, fun w' hw => by rfl⟩) (by assumption) ?_
  simp only [Act.put, List.setIfInBounds_toArray, List.set_cons_zero, List.set_cons_succ]
  refine anyH_take (i := 5) (v := .pointer (some ⟨g, 0, none⟩)) (some 32) rfl rfl (by kernel_rfl) (by kernel_rfl) (by kernel_rfl) (fun _ _ _ h => h) (Or.inl ⟨by rfl, fun w' hw => by go_simp⟩) (by assumption) ?_
  simp only [Act.put, List.setIfInBounds_toArray, List.set_cons_zero, List.set_cons_succ]
  refine anyH_take (i := 6) (v := .pointer (some ⟨g, 32, none⟩)) (some 33) rfl rfl (by kernel_rfl) (by kernel_rfl) (by kernel_rfl) (fun _ _ _ h => h) (Or.inl ⟨by rfl, fun w' hw => by go_simp⟩) (by assumption) ?_
  simp only [Act.put, List.setIfInBounds_toArray, List.set_cons_zero, List.set_cons_succ]
  refine anyH_take (i := 7) (v := .int .i64 f) (some 34) rfl rfl (by kernel_rfl) (by kernel_rfl) (by kernel_rfl) (fun _ _ _ h => h) (Or.inl ⟨by rfl, fun w' hw => by (have hc := (Hat.out w' hw).1; go_simp)⟩) (by assumption) ?_
  simp only [Act.put, List.setIfInBounds_toArray, List.set_cons_zero, List.set_cons_succ]
  refine anyH_take (i := 8) (v := .pointer (some ⟨g, 0, none⟩)) (some 35) rfl rfl (by kernel_rfl) (by kernel_rfl) (by kernel_rfl) (fun _ _ _ h => h) (Or.inl ⟨by rfl, fun w' hw => by rfl⟩) (by assumption) ?_
  simp only [Act.put, List.setIfInBounds_toArray, List.set_cons_zero, List.set_cons_succ]
  refine anyH_take (i := 9) (v := .pointer (some ⟨g, 0, none⟩)) (some 36) rfl rfl (by kernel_rfl) (by kernel_rfl) (by kernel_rfl) (fun _ _ _ h => h) (Or.inl ⟨by rfl, fun w' hw => by go_simp⟩) (by assumption) ?_
  simp only [Act.put, List.setIfInBounds_toArray, List.set_cons_zero, List.set_cons_succ]
  refine anyH_take (i := 10) (v := .pointer (some ⟨g, 33, none⟩)) (some 37) rfl rfl (by kernel_rfl) (by kernel_rfl) (by kernel_rfl) (fun _ _ _ h => h) (Or.inl ⟨by rfl, fun w' hw => by go_simp⟩) (by assumption) ?_
  simp only [Act.put, List.setIfInBounds_toArray, List.set_cons_zero, List.set_cons_succ]
  refine anyH_take (i := 11) (v := .int .i64 t) (some 38) rfl rfl (by kernel_rfl) (by kernel_rfl) (by kernel_rfl) (fun _ _ _ h => h) (Or.inl ⟨by rfl, fun w' hw => by (have hc := (Hat.out w' hw).2.1; go_simp)⟩) (by assumption) ?_
  simp only [Act.put, List.setIfInBounds_toArray, List.set_cons_zero, List.set_cons_succ]
  refine anyH_take (i := 12) (some 39) rfl rfl (by kernel_rfl) (by kernel_rfl) (by kernel_rfl) (fun _ _ _ h => h) (nd_yieldsIf_build (by rfl) _ _ rfl _ rfl CL.toArray Hb.out) (by assumption) ?_
  simp only [Act.put, List.setIfInBounds_toArray, List.set_cons_zero, List.set_cons_succ]
  refine wpAnyH_ready (rs := [13]) (by kernel_rfl) (by simp) ?_
  refine AllReadyH.cons rfl (fun K hK => ?_) AllReadyH.nil
  go_simp
  refine hK.out _ _ ((hN3.drewN 1).alloc _) (fun hHeld2 => ?_)
  clear hK K hHeld
  try simp only [Act.put, List.setIfInBounds_toArray, List.set_cons_zero, List.set_cons_succ]
  refine anyH_take (i := 14) (v := .pointer (some ⟨w3.heap.size, 0, none⟩)) (some 6) rfl rfl (by kernel_rfl) (by kernel_rfl) (by kernel_rfl) (fun _ _ _ h => h) (Or.inl ⟨by rfl, fun w' hw => by go_simp⟩) (by assumption) ?_
  simp only [Act.put, List.setIfInBounds_toArray, List.set_cons_zero, List.set_cons_succ]
  refine wpAnyH_done (by kernel_rfl) ?_ _
  clear hHeld2
  go_wp2
  go_ret
  exact ⟨w3.heap.size, w.heap.size, hge, Nat.le_refl _, rfl, by rw [← HCL.out]; exact hC5, hA5, hB5⟩

end Go.Proofs.YtblgmnjegkfoaaaGreat

namespace Go.Proofs.YtblgmnjegkfoaaaGreat
open Go.RowKit
set_option linter.unusedVariables false
set_option linter.unusedSimpArgs false

theorem aloneF_one : ∀ (l : List (Option Addr)) (j : Nat) (b o : Addr), l[j]? = some (some b) → aloneF l (some o) = none
  | [], j, b, o, h => by simp at h
  | none :: r, 0, b, o, h => by simp at h
  | none :: r, j + 1, b, o, h => by unfold aloneF; exact aloneF_one r j b o (by simpa using h)
  | some _ :: r, _, b, o, h => rfl
theorem aloneF_two : ∀ (l : List (Option Addr)) (i j : Nat) (a b : Addr), i < j → l[i]? = some (some a) → l[j]? = some (some b) → aloneF l none = none
  | [], i, j, a, b, hij, h, h' => by simp at h
  | none :: r, 0, j, a, b, hij, h, h' => by simp at h
  | none :: r, i + 1, 0, a, b, hij, h, h' => by omega
  | none :: r, i + 1, j + 1, a, b, hij, h, h' => by unfold aloneF; exact aloneF_two r i j a b (by omega) (by simpa using h) (by simpa using h')
  | some p :: r, i, 0, a, b, hij, h, h' => by omega
  | some p :: r, i, j + 1, a, b, hij, h, h' => by unfold aloneF; exact aloneF_one r j b p (by simpa using h')
theorem aloneF_pair (i j : Nat) (a b : Addr) (hij : i ≠ j) (hi : i < 16) (hj : j < 16) : aloneF ((noKids.set i (some a)).set j (some b)) none = none := by
  have hl : noKids.length = 16 := rfl
  have h1 : ((noKids.set i (some a)).set j (some b))[i]? = some (some a) := by
    rw [List.getElem?_set_ne (Ne.symm hij), List.getElem?_set_self (by omega)]
  have h2 : ((noKids.set i (some a)).set j (some b))[j]? = some (some b) := by
    rw [List.getElem?_set_self (by rw [List.length_set]; omega)]
  rcases Nat.lt_or_ge i j with h | h
  · exact aloneF_two _ i j a b h h1 h2
  · exact aloneF_two _ j i b a (by omega) h2 h1

theorem leafOf_any (key key2 : List UInt8) (KL K2 : List Value) (hKL : KL = Lib.byteCells key) (hK2 : K2 = Lib.byteCells key2) (hk : key.length = 32) (hk2 : key2.length = 32) (g : Nat) (p : Addr) (f t : Int) (vv : Value) (d m s : Int) (dig : List UInt8) (NL : List Value) (hNL : NL = nodeC key f t vv (.pointer (some p)) d m s dig) (w : World) (hN : Arr w g 87 NL) (hp : ∃ gn, p = ⟨gn, 0, none⟩) :
    Calls Tryz.prog 36 #[.pointer (some ⟨g, 0, none⟩), .agg K2.toArray] w fun e w' => e = .returned (.bool false) ∧ Below w.heap.size w w' := by
  obtain ⟨gn, rfl⟩ := hp
  exact leafOf_branch key key2 KL K2 hKL hK2 hk hk2 g gn f t vv d m s dig NL hNL w hN

set_option maxHeartbeats 8000000 in
set_option maxRecDepth 100000 in
theorem with_same (key key2 : List UInt8) (KL K2 : List Value) (hKL : KL = Lib.byteCells key) (hK2 : K2 = Lib.byteCells key2) (hk : key.length = 32) (hk2 : key2.length = 32) (g : Nat) (f t : Int) (A : Option Addr) (n c : Nat) (np : Option Addr) (d m s : Int) (dig : List UInt8) (NL : List Value) (hNL : NL = nodeC key f t (.slice A n c) (.pointer np) d m s dig)
    (A2 : Option Addr) (n2 c2 : Nat) (w : World) (hN : Arr w g 87 NL) (hkk : key2 = key) (hnp : np = none) :
    Calls Tryz.prog 42 #[.pointer (some ⟨g, 0, none⟩), .agg K2.toArray, .slice A2 n2 c2] w fun x w' => ∃ g2, w.heap.size ≤ g2 ∧ x = .returned (.pointer (some ⟨g2, 0, none⟩)) ∧ Arr w' g2 87 (nodeC key2 f 64 (.slice A2 n2 c2) (.pointer none) 0 0 0 z32) ∧ Below w.heap.size w w' := by
  obtain ⟨W1, hW1⟩ : ∃ W1, W1 = w.alloc (.cells K2.toArray 24) := ⟨_, rfl⟩
  have hA1 : Arr W1 w.heap.size 24 K2 := by rw [hW1]; exact Arr.new w _ _
  have hN1 : Arr W1 g 87 NL := by rw [hW1]; exact hN.alloc _
  have hb1 : Below w.heap.size w W1 := by rw [hW1]; exact (Below.refl _ w).alloc (Nat.le_refl _) _
  have hgw := hN.lt
  have Hlo : Hid (∀ w : World, Arr w g 87 NL → Calls Tryz.prog 36 #[.pointer (some ⟨g, 0, none⟩), .agg K2.toArray] w fun e w' => e = .returned (.bool true) ∧ Below w.heap.size w w') := by
    intro w hN
    cases hq : np with
    | none =>
      rw [hq] at hNL
      refine Calls.mono (leafOf_leaf key key2 KL K2 hKL hK2 hk hk2 g f t _ d m s dig NL hNL w hN) ?_
      rintro e w' ⟨rfl, hb⟩
      exact ⟨by rw [decide_eq_true hkk.symm], hb⟩
    | some p => rw [hnp] at hq; cases hq
  have Hkey : Hid (∀ w' : World, Arr w' g 87 NL → w'.rangeAt g 0 KL) := fun w' h => node_key hNL hKL h
  have Hat : Hid (∀ w' : World, Arr w' g 87 NL → w'.cell? ⟨g, 32, none⟩ = some (.int .i64 f) ∧ w'.cell? ⟨g, 33, none⟩ = some (.int .i64 t) ∧ w'.cell? ⟨g, 35, none⟩ = some (.pointer np)) := fun w' h => ⟨(node_at hNL hk h).1, (node_at hNL hk h).2.1, (node_at hNL hk h).2.2.2.1⟩
  have Hki := Lib.hid (show (Tryz.prog.info? 24).map (·.size) = some KL.length by rw [hKL, Lib.byteCells_length, hk]; kernel_rfl)
  have Hk2 := Lib.hid (show (Tryz.prog.info? 24).map (·.size) = some K2.length by rw [hK2, Lib.byteCells_length, hk2]; kernel_rfl)
  have HKL := Lib.hid hKL
  have HK2 := Lib.hid hK2
  have HNL := Lib.hid hNL
  have HW1 := Lib.hid hW1
  clear hW1 hNL hKL hK2 hN
  go_enter Tryz.func42, Tryz.ntmps42
  go_upto_region 1 with fail
  change Code.wp _ _ _ _ (w.alloc (.cells K2.toArray 24))
  rw [← HW1.out]
  clear HW1
  have hr1 := hA1.range
  go_wp2_with (first
    | (refine wpList_load_mid rfl _ _ rfl w.heap.size 0 rfl K2 _ hr1 Tryz.underlying24 rfl Hk2.out ?_))
  go_at_call 36
  refine Calls.mono (Hlo.out W1 hN1) ?_
  rintro x w2 ⟨rfl, hb2⟩
  have hN2 := hN1.up hb2
  have hA2 := hA1.up hb2
  have hB2 := hb1.trans (hb2.mono hb1.size)
  clear hN1 hA1 hr1 hb1 hb2 Hlo
  go_wp2_with fail
  refine wp_region_held_drew (S := fun w' => Arr w' g 87 NL ∧ Arr w' w.heap.size 24 K2) (by kernel_rfl) ⟨hN2.drewN 1, hA2.drewN 1⟩ (fun hHeld => ?_)
  refine anyH_take (i := 0) (some 11) rfl rfl (by kernel_rfl) (by kernel_rfl) (by kernel_rfl) (fun _ _ _ h => h) (yieldsIf_load_mid (by rfl) 24 (.tmp 4) rfl w.heap.size 0 rfl K2 _ (fun w' h => h.2.range) Tryz.underlying24 rfl Hk2.out) (by assumption) ?_
  simp only [Act.put, List.setIfInBounds_toArray, List.set_cons_zero, List.set_cons_succ]
  refine anyH_take (i := 1) (v := .pointer (some ⟨g, 0, none⟩)) (some 12) rfl rfl (by kernel_rfl) (by kernel_rfl) (by kernel_rfl) (fun _ _ _ h => h) (Or.inl ⟨by rfl, fun w' hw => by rfl⟩) (by assumption) ?_
  simp only [Act.put, List.setIfInBounds_toArray, List.set_cons_zero, List.set_cons_succ]
  refine anyH_take (i := 2) (v := .pointer (some ⟨g, 0, none⟩)) (some 13) rfl rfl (by kernel_rfl) (by kernel_rfl) (by kernel_rfl) (fun _ _ _ h => h) (Or.inl ⟨by rfl, fun w' hw => by go_simp⟩) (by assumption) ?_
  simp only [Act.put, List.setIfInBounds_toArray, List.set_cons_zero, List.set_cons_succ]
  refine anyH_take (i := 3) (v := .pointer (some ⟨g, 32, none⟩)) (some 14) rfl rfl (by kernel_rfl) (by kernel_rfl) (by kernel_rfl) (fun _ _ _ h => h) (Or.inl ⟨by rfl, fun w' hw => by go_simp⟩) (by assumption) ?_
  simp only [Act.put, List.setIfInBounds_toArray, List.set_cons_zero, List.set_cons_succ]
  refine anyH_take (i := 4) (v := .int .i64 f) (some 15) rfl rfl (by kernel_rfl) (by kernel_rfl) (by kernel_rfl) (fun _ _ _ h => h) (Or.inl ⟨by rfl, fun w' hw => by (have hc := (Hat.out w' hw.1).1; go_simp)⟩) (by assumption) ?_
  simp only [Act.put, List.setIfInBounds_toArray, List.set_cons_zero, List.set_cons_succ]
  refine anyH_take (i := 5) (v := .slice A2 n2 c2) (some 16) rfl rfl (by kernel_rfl) (by kernel_rfl) (by kernel_rfl) (fun _ _ _ h => h) (Or.inl ⟨by rfl, fun w' hw => by rfl⟩) (by assumption) ?_
  simp only [Act.put, List.setIfInBounds_toArray, List.set_cons_zero, List.set_cons_succ]
  refine wpAnyH_ready (rs := [6]) (by kernel_rfl) (by simp) ?_
  refine AllReadyH.cons rfl (fun K hK => ?_) AllReadyH.nil
  go_simp
  go_at_call 40
  refine Calls.mono (leaf_run key2 K2 HK2.out hk2 f A2 n2 c2 _ rfl _) ?_
  rintro x w3 ⟨g2, hge, rfl, hM3, hb3⟩
  have hN3 : Arr w3 g 87 NL := Arr.below (w := w2.drewN 1) (hN2.drewN 1) hb3 hN2.lt
  have hA3 : Arr w3 w.heap.size 24 K2 := Arr.below (w := w2.drewN 1) (hA2.drewN 1) hb3 hA2.lt
  have hB3 : Below w.heap.size w w3 := (Below.dN hB2 1).trans (hb3.mono hB2.size)
  have hge2 : w.heap.size ≤ g2 := Nat.le_trans hB2.size hge
  dsimp only
  go_wp2_with fail
  refine hK.out _ _ ⟨hN3, hA3⟩ (fun hHeldx => ?_)
  clear hK K
  try simp only [Act.put, List.setIfInBounds_toArray, List.set_cons_zero, List.set_cons_succ]
  refine anyH_take (i := 7) (v := .pointer (some ⟨g2, 0, none⟩)) (some 6) rfl rfl (by kernel_rfl) (by kernel_rfl) (by kernel_rfl) (fun _ _ _ h => h) (Or.inl ⟨by rfl, fun w' hw => by go_simp⟩) (by assumption) ?_
  simp only [Act.put, List.setIfInBounds_toArray, List.set_cons_zero, List.set_cons_succ]
  refine wpAnyH_done (by kernel_rfl) ?_ _
  clear hHeldx hHeld
  go_wp2
  go_ret
  exact ⟨g2, hge2, rfl, hM3, hB3⟩

set_option maxHeartbeats 8000000 in
set_option maxRecDepth 100000 in
theorem with_above (key key2 : List UInt8) (KL K2 : List Value) (hKL : KL = Lib.byteCells key) (hK2 : K2 = Lib.byteCells key2) (hk : key.length = 32) (hk2 : key2.length = 32) (g : Nat) (f t : Int) (A : Option Addr) (n c : Nat) (np : Option Addr) (d m s : Int) (dig : List UInt8) (NL : List Value) (hNL : NL = nodeC key f t (.slice A n c) (.pointer np) d m s dig)
    (A2 : Option Addr) (n2 c2 : Nat) (w : World) (hN : Arr w g 87 NL) (hsh : ∀ p, np = some p → ∃ gn, p = ⟨gn, 0, none⟩) (hlo : np = none → key ≠ key2) (e : Nat) (hr : commF key key2 = e) (het : (e : Int) < t) (he : e < 64) (i i2 : Nat) (hi : nibF key e = i) (hi2 : nibF key2 e = i2) (hii : i ≠ i2) (BL : List Value) (hBL : BL = nodeC key ((e : Int) + 1) t (.slice A n c) (.pointer np) 0 0 0 z32) :
    Calls Tryz.prog 42 #[.pointer (some ⟨g, 0, none⟩), .agg K2.toArray, .slice A2 n2 c2] w fun x w' => ∃ g2 gA gB gL, w.heap.size ≤ g2 ∧ w.heap.size ≤ gA ∧ w.heap.size ≤ gB ∧ w.heap.size ≤ gL ∧ x = .returned (.pointer (some ⟨g2, 0, none⟩)) ∧ Arr w' g2 87 (nodeC key f (e : Nat) (.slice none 0 0) (.pointer (some ⟨gA, 0, none⟩)) 0 0 0 z32) ∧ Arr w' gA 132 (kidsC ((noKids.set i (some ⟨gB, 0, none⟩)).set i2 (some ⟨gL, 0, none⟩))) ∧ Arr w' gB 87 BL ∧ Arr w' gL 87 (nodeC key2 ((e : Int) + 1) 64 (.slice A2 n2 c2) (.pointer none) 0 0 0 z32) ∧ Below w.heap.size w w' := by
  obtain ⟨W1, hW1⟩ : ∃ W1, W1 = w.alloc (.cells K2.toArray 24) := ⟨_, rfl⟩
  have hA1 : Arr W1 w.heap.size 24 K2 := by rw [hW1]; exact Arr.new w _ _
  have hN1 : Arr W1 g 87 NL := by rw [hW1]; exact hN.alloc _
  have hb1 : Below w.heap.size w W1 := by rw [hW1]; exact (Below.refl _ w).alloc (Nat.le_refl _) _
  have hgw := hN.lt
  have Hlo : Hid (∀ w : World, Arr w g 87 NL → Calls Tryz.prog 36 #[.pointer (some ⟨g, 0, none⟩), .agg K2.toArray] w fun e w' => e = .returned (.bool false) ∧ Below w.heap.size w w') := by
    intro w hN
    cases hq : np with
    | none =>
      rw [hq] at hNL
      refine Calls.mono (leafOf_leaf key key2 KL K2 hKL hK2 hk hk2 g f t _ d m s dig NL hNL w hN) ?_
      rintro e w' ⟨rfl, hb⟩
      exact ⟨by rw [decide_eq_false (hlo hq)], hb⟩
    | some p =>
      rw [hq] at hNL
      exact leafOf_any key key2 KL K2 hKL hK2 hk hk2 g p f t _ d m s dig NL hNL w hN (hsh p hq)
  have Hkey : Hid (∀ w' : World, Arr w' g 87 NL → w'.rangeAt g 0 KL) := fun w' h => node_key hNL hKL h
  have Hat : Hid (∀ w' : World, Arr w' g 87 NL → w'.cell? ⟨g, 32, none⟩ = some (.int .i64 f) ∧ w'.cell? ⟨g, 33, none⟩ = some (.int .i64 t) ∧ w'.cell? ⟨g, 35, none⟩ = some (.pointer np)) := fun w' h => ⟨(node_at hNL hk h).1, (node_at hNL hk h).2.1, (node_at hNL hk h).2.2.2.1⟩
  have Hki := Lib.hid (show (Tryz.prog.info? 24).map (·.size) = some KL.length by rw [hKL, Lib.byteCells_length, hk]; kernel_rfl)
  have Hk2 := Lib.hid (show (Tryz.prog.info? 24).map (·.size) = some K2.length by rw [hK2, Lib.byteCells_length, hk2]; kernel_rfl)
  have HKL := Lib.hid hKL
  have HK2 := Lib.hid hK2
  have HNL := Lib.hid hNL
  have HW1 := Lib.hid hW1
  have Hr := Lib.hid hr
  have Hi := Lib.hid hi
  have Hi2 := Lib.hid hi2
  have HBL := Lib.hid hBL
  have hd1 : decide ((e : Int) < t) = true := by simp; omega
  have hi16 : i < 16 := by rw [← hi]; exact nibF_lt _ _
  have hi216 : i2 < 16 := by rw [← hi2]; exact nibF_lt _ _
  have Hii := Lib.hid hii
  clear hW1 hNL hKL hK2 hN hr hi hi2 hBL hii hlo hsh
  go_enter Tryz.func42, Tryz.ntmps42
  go_upto_region 1 with fail
  change Code.wp _ _ _ _ (w.alloc (.cells K2.toArray 24))
  rw [← HW1.out]
  clear HW1
  have hr1 := hA1.range
  go_wp2_with (first
    | (refine wpList_load_mid rfl _ _ rfl w.heap.size 0 rfl K2 _ hr1 Tryz.underlying24 rfl Hk2.out ?_))
  go_at_call 36
  refine Calls.mono (Hlo.out W1 hN1) ?_
  rintro x w2 ⟨rfl, hb2⟩
  have hN2 := hN1.up hb2
  have hA2 := hA1.up hb2
  have hB2 := hb1.trans (hb2.mono hb1.size)
  clear hN1 hA1 hr1 hb1 hb2 Hlo
  go_wp2_with fail
  refine wp_region_held_drew (S := fun w' => Arr w' g 87 NL ∧ Arr w' w.heap.size 24 K2) (by kernel_rfl) ⟨hN2.drewN 1, hA2.drewN 1⟩ (fun hHeld => ?_)
  refine anyH_take (i := 0) (v := .pointer (some ⟨g, 0, none⟩)) (some 18) rfl rfl (by kernel_rfl) (by kernel_rfl) (by kernel_rfl) (fun _ _ _ h => h) (Or.inl ⟨by rfl, fun w' hw => by rfl⟩) (by assumption) ?_
  simp only [Act.put, List.setIfInBounds_toArray, List.set_cons_zero, List.set_cons_succ]
  refine anyH_take (i := 1) (v := .pointer (some ⟨g, 0, none⟩)) (some 19) rfl rfl (by kernel_rfl) (by kernel_rfl) (by kernel_rfl) (fun _ _ _ h => h) (Or.inl ⟨by rfl, fun w' hw => by go_simp⟩) (by assumption) ?_
  simp only [Act.put, List.setIfInBounds_toArray, List.set_cons_zero, List.set_cons_succ]
  refine anyH_take (i := 2) (v := .pointer (some ⟨g, 0, none⟩)) (some 20) rfl rfl (by kernel_rfl) (by kernel_rfl) (by kernel_rfl) (fun _ _ _ h => h) (Or.inl ⟨by rfl, fun w' hw => by go_simp⟩) (by assumption) ?_
  simp only [Act.put, List.setIfInBounds_toArray, List.set_cons_zero, List.set_cons_succ]
  refine anyH_take (i := 3) (some 21) rfl rfl (by kernel_rfl) (by kernel_rfl) (by kernel_rfl) (fun _ _ _ h => h) (yieldsIf_load_mid (by rfl) 24 (.tmp 20) rfl g 0 rfl KL _ (fun w' h => Hkey.out w' h.1) Tryz.underlying24 rfl Hki.out) (by assumption) ?_
  simp only [Act.put, List.setIfInBounds_toArray, List.set_cons_zero, List.set_cons_succ]
  refine anyH_take (i := 4) (some 22) rfl rfl (by kernel_rfl) (by kernel_rfl) (by kernel_rfl) (fun _ _ _ h => h) (yieldsIf_load_mid (by rfl) 24 (.tmp 4) rfl w.heap.size 0 rfl K2 _ (fun w' h => h.2.range) Tryz.underlying24 rfl Hk2.out) (by assumption) ?_
  simp only [Act.put, List.setIfInBounds_toArray, List.set_cons_zero, List.set_cons_succ]
  refine wpAnyH_ready (rs := [5]) (by kernel_rfl) (by simp) ?_
  refine AllReadyH.cons rfl (fun K hK => ?_) AllReadyH.nil
  go_simp
  go_at_call 60
  refine Calls.mono (common_run key key2 hk hk2 KL K2 HKL.out HK2.out e Hr.out _) ?_
  rintro x w3 ⟨rfl, hb3⟩
  have hN3 : Arr w3 g 87 NL := Arr.below (w := w2.drewN 1) (hN2.drewN 1) hb3 hN2.lt
  have hA3 : Arr w3 w.heap.size 24 K2 := Arr.below (w := w2.drewN 1) (hA2.drewN 1) hb3 hA2.lt
  have hB3 : Below w.heap.size w w3 := (Below.dN hB2 1).trans (hb3.mono hB2.size)
  dsimp only
  go_wp2_with fail
  refine hK.out _ _ ⟨hN3, hA3⟩ (fun hHeldx => ?_)
  clear hK K
  try simp only [Act.put, List.setIfInBounds_toArray, List.set_cons_zero, List.set_cons_succ]
  refine anyH_take (i := 6) (v := .int .i64 (e : Nat)) (some 7) rfl rfl (by kernel_rfl) (by kernel_rfl) (by kernel_rfl) (fun _ _ _ h => h) (Or.inl ⟨by rfl, fun w' hw => by go_simp⟩) (by assumption) ?_
  simp only [Act.put, List.setIfInBounds_toArray, List.set_cons_zero, List.set_cons_succ]
  refine wpAnyH_done (by kernel_rfl) ?_ _
  clear hHeldx hHeld hN2 hA2 hB2 hb3
  have hc33 := (Hat.out w3 hN3).2.1
  go_wp2_with fail
  go_at_call 61
  refine Calls.mono (above_run key KL HKL.out hk g f t A n c np d m s dig NL HNL.out e he i Hi.out BL BL HBL.out w3 hN3) ?_
  rintro x w4 ⟨gC, gA, gB, hgC, hgA, hgB, rfl, hC4, hD4, hE4, hb4⟩
  have hA4 := hA3.up hb4
  have hB4 := hB3.trans (hb4.mono hB3.size)
  have hz3 := hB3.size
  obtain ⟨CL, hCL⟩ : ∃ CL, CL = nodeC key f (e : Nat) (.slice none 0 0) (.pointer (some ⟨gA, 0, none⟩)) 0 0 0 z32 := ⟨_, rfl⟩
  rw [← hCL] at hC4
  have Hct : Hid (∀ w' : World, Arr w' gC 87 CL → w'.cell? ⟨gC, 33, none⟩ = some (.int .i64 (e : Nat))) := fun w' h => (node_at hCL hk h).2.1
  have HCL := Lib.hid hCL
  clear hCL hN3 hA3 hB3 hb4 hc33
  have hew : IntKind.i64.wrap ((e : Int) + 1) = (e : Int) + 1 := IntWalk.i64_in _ (by omega)
  go_wp2_with fail
  refine wp_region_held_drew (S := fun w' => Arr w' gC 87 CL ∧ Arr w' w.heap.size 24 K2) (by kernel_rfl) ⟨hC4.drewN 1, hA4.drewN 1⟩ (fun hHeld => ?_)
  refine anyH_take (i := 0) (v := .pointer (some ⟨gC, 0, none⟩)) (some 33) rfl rfl (by kernel_rfl) (by kernel_rfl) (by kernel_rfl) (fun _ _ _ h => h) (Or.inl ⟨by rfl, fun w' hw => by rfl⟩) (by assumption) ?_
  simp only [Act.put, List.setIfInBounds_toArray, List.set_cons_zero, List.set_cons_succ]
  refine anyH_take (i := 1) (some 34) rfl rfl (by kernel_rfl) (by kernel_rfl) (by kernel_rfl) (fun _ _ _ h => h) (yieldsIf_load_mid (by rfl) 24 (.tmp 4) rfl w.heap.size 0 rfl K2 _ (fun w' h => h.2.range) Tryz.underlying24 rfl Hk2.out) (by assumption) ?_
  simp only [Act.put, List.setIfInBounds_toArray, List.set_cons_zero, List.set_cons_succ]
  refine anyH_take (i := 2) (v := .pointer (some ⟨gC, 0, none⟩)) (some 35) rfl rfl (by kernel_rfl) (by kernel_rfl) (by kernel_rfl) (fun _ _ _ h => h) (Or.inl ⟨by rfl, fun w' hw => by rfl⟩) (by assumption) ?_
  simp only [Act.put, List.setIfInBounds_toArray, List.set_cons_zero, List.set_cons_succ]
  refine anyH_take (i := 3) (v := .pointer (some ⟨gC, 0, none⟩)) (some 36) rfl rfl (by kernel_rfl) (by kernel_rfl) (by kernel_rfl) (fun _ _ _ h => h) (Or.inl ⟨by rfl, fun w' hw => by go_simp⟩) (by assumption) ?_
  simp only [Act.put, List.setIfInBounds_toArray, List.set_cons_zero, List.set_cons_succ]
  refine anyH_take (i := 4) (v := .pointer (some ⟨gC, 33, none⟩)) (some 37) rfl rfl (by kernel_rfl) (by kernel_rfl) (by kernel_rfl) (fun _ _ _ h => h) (Or.inl ⟨by rfl, fun w' hw => by go_simp⟩) (by assumption) ?_
  simp only [Act.put, List.setIfInBounds_toArray, List.set_cons_zero, List.set_cons_succ]
  refine anyH_take (i := 5) (v := .int .i64 (e : Nat)) (some 38) rfl rfl (by kernel_rfl) (by kernel_rfl) (by kernel_rfl) (fun _ _ _ h => h) (Or.inl ⟨by rfl, fun w' hw => by (have hc := Hct.out w' hw.1; go_simp)⟩) (by assumption) ?_
  simp only [Act.put, List.setIfInBounds_toArray, List.set_cons_zero, List.set_cons_succ]
  refine anyH_take (i := 7) (some 40) rfl rfl (by kernel_rfl) (by kernel_rfl) (by kernel_rfl) (fun _ _ _ h => h) (yieldsIf_load_mid (by rfl) 24 (.tmp 4) rfl w.heap.size 0 rfl K2 _ (fun w' h => h.2.range) Tryz.underlying24 rfl Hk2.out) (by assumption) ?_
  simp only [Act.put, List.setIfInBounds_toArray, List.set_cons_zero, List.set_cons_succ]
  refine anyH_take (i := 8) (v := .pointer (some ⟨gC, 0, none⟩)) (some 41) rfl rfl (by kernel_rfl) (by kernel_rfl) (by kernel_rfl) (fun _ _ _ h => h) (Or.inl ⟨by rfl, fun w' hw => by rfl⟩) (by assumption) ?_
  simp only [Act.put, List.setIfInBounds_toArray, List.set_cons_zero, List.set_cons_succ]
  refine anyH_take (i := 9) (v := .pointer (some ⟨gC, 0, none⟩)) (some 42) rfl rfl (by kernel_rfl) (by kernel_rfl) (by kernel_rfl) (fun _ _ _ h => h) (Or.inl ⟨by rfl, fun w' hw => by go_simp⟩) (by assumption) ?_
  simp only [Act.put, List.setIfInBounds_toArray, List.set_cons_zero, List.set_cons_succ]
  refine anyH_take (i := 10) (v := .pointer (some ⟨gC, 33, none⟩)) (some 43) rfl rfl (by kernel_rfl) (by kernel_rfl) (by kernel_rfl) (fun _ _ _ h => h) (Or.inl ⟨by rfl, fun w' hw => by go_simp⟩) (by assumption) ?_
  simp only [Act.put, List.setIfInBounds_toArray, List.set_cons_zero, List.set_cons_succ]
  refine anyH_take (i := 11) (v := .int .i64 (e : Nat)) (some 44) rfl rfl (by kernel_rfl) (by kernel_rfl) (by kernel_rfl) (fun _ _ _ h => h) (Or.inl ⟨by rfl, fun w' hw => by (have hc := Hct.out w' hw.1; go_simp)⟩) (by assumption) ?_
  simp only [Act.put, List.setIfInBounds_toArray, List.set_cons_zero, List.set_cons_succ]
  refine anyH_take (i := 12) (v := .int .i64 ((e : Int) + 1)) (some 45) rfl rfl (by kernel_rfl) (by kernel_rfl) (by kernel_rfl) (fun _ _ _ h => h) (Or.inl ⟨by rfl, fun w' hw => by go_simp⟩) (by assumption) ?_
  simp only [Act.put, List.setIfInBounds_toArray, List.set_cons_zero, List.set_cons_succ]
  refine anyH_take (i := 13) (v := .slice A2 n2 c2) (some 46) rfl rfl (by kernel_rfl) (by kernel_rfl) (by kernel_rfl) (fun _ _ _ h => h) (Or.inl ⟨by rfl, fun w' hw => by rfl⟩) (by assumption) ?_
  simp only [Act.put, List.setIfInBounds_toArray, List.set_cons_zero, List.set_cons_succ]
  refine wpAnyH_ready (rs := [6]) (by kernel_rfl) (by simp) ?_
  refine AllReadyH.cons rfl (fun K hK => ?_) AllReadyH.nil
  go_simp
  go_at_call 55
  refine Calls.mono (nibble_run key2 hk2 K2 HK2.out e he _ rfl i2 Hi2.out.symm _) ?_
  rintro x w5 ⟨rfl, hb5⟩
  have hC5 : Arr w5 gC 87 CL := Arr.below (w := w4.drewN 1) (hC4.drewN 1) hb5 hC4.lt
  have hA5 : Arr w5 w.heap.size 24 K2 := Arr.below (w := w4.drewN 1) (hA4.drewN 1) hb5 hA4.lt
  have hD5 : Arr w5 gA 132 (kidsC (noKids.set i (some ⟨gB, 0, none⟩))) := Arr.below (w := w4.drewN 1) (hD4.drewN 1) hb5 hD4.lt
  have hE5 : Arr w5 gB 87 BL := Arr.below (w := w4.drewN 1) (hE4.drewN 1) hb5 hE4.lt
  have hB5 : Below w.heap.size w w5 := (Below.dN hB4 1).trans (hb5.mono hB4.size)
  dsimp only
  go_wp2_with fail
  refine hK.out _ _ ⟨hC5, hA5⟩ (fun hHeldx => ?_)
  clear hK K
  try simp only [Act.put, List.setIfInBounds_toArray, List.set_cons_zero, List.set_cons_succ]
  refine wpAnyH_ready (rs := [14]) (by kernel_rfl) (by simp) ?_
  refine AllReadyH.cons rfl (fun K hK => ?_) AllReadyH.nil
  go_simp
  go_at_call 40
  refine Calls.mono (leaf_run key2 K2 HK2.out hk2 ((e : Int) + 1) A2 n2 c2 _ rfl _) ?_
  rintro x w6 ⟨gL, hgL, rfl, hL6, hb6⟩
  have hC6 := hC5.up hb6
  have hA6 := hA5.up hb6
  have hD6 := hD5.up hb6
  have hE6 := hE5.up hb6
  have hB6 := hB5.trans (hb6.mono hB5.size)
  have hgL2 := Nat.le_trans hB5.size hgL
  have hz6 := hB6.size
  dsimp only
  go_wp2_with fail
  refine hK.out _ _ ⟨hC6, hA6⟩ (fun hHeldx => ?_)
  clear hK K
  try simp only [Act.put, List.setIfInBounds_toArray, List.set_cons_zero, List.set_cons_succ]
  refine wpAnyH_ready (rs := [15]) (by kernel_rfl) (by simp) ?_
  refine AllReadyH.cons rfl (fun K hK => ?_) AllReadyH.nil
  go_simp
  go_at_call 59
  refine Calls.mono (put_branch key KL HKL.out hk gC gA f (e : Nat) _ _ _ _ _ CL HCL.out (noKids.set i (some ⟨gB, 0, none⟩)) (by rw [List.length_set]; rfl) _ rfl i2 hi216 (some ⟨gL, 0, none⟩) w6 hC6 hD6 (aloneF_pair i i2 _ _ Hii.out hi16 hi216)) ?_
  rintro x w7 ⟨gR, gQ, hgR, hgQ, rfl, hR7, hQ7, hb7⟩
  have hC7 := hC6.up hb7
  have hA7 := hA6.up hb7
  have hL7 := hL6.up hb7
  have hE7 := hE6.up hb7
  have hB7 := hB6.trans (hb7.mono hB6.size)
  dsimp only
  go_wp2_with fail
  refine hK.out _ _ ⟨hC7, hA7⟩ (fun hHeldx => ?_)
  clear hK K
  try simp only [Act.put, List.setIfInBounds_toArray, List.set_cons_zero, List.set_cons_succ]
  refine anyH_take (i := 16) (v := .pointer (some ⟨gR, 0, none⟩)) (some 6) rfl rfl (by kernel_rfl) (by kernel_rfl) (by kernel_rfl) (fun _ _ _ h => h) (Or.inl ⟨by rfl, fun w' hw => by go_simp⟩) (by assumption) ?_
  simp only [Act.put, List.setIfInBounds_toArray, List.set_cons_zero, List.set_cons_succ]
  refine wpAnyH_done (by kernel_rfl) ?_ _
  clear hHeld
  go_wp2
  go_ret
  exact ⟨gR, gQ, gB, gL, Nat.le_trans hz6 hgR, Nat.le_trans hz6 hgQ, Nat.le_trans hz3 hgB, hgL2, rfl, hR7, hQ7, hE7, hL7, hB7⟩

set_option maxHeartbeats 8000000 in
set_option maxRecDepth 100000 in
theorem with_on (key key2 : List UInt8) (KL K2 : List Value) (hKL : KL = Lib.byteCells key) (hK2 : K2 = Lib.byteCells key2) (hk : key.length = 32) (hk2 : key2.length = 32) (g : Nat) (f t : Int) (A : Option Addr) (n c : Nat) (np : Option Addr) (d m s : Int) (dig : List UInt8) (NL : List Value) (hNL : NL = nodeC key f t (.slice A n c) (.pointer np) d m s dig)
    (A2 : Option Addr) (n2 c2 : Nat) (w : World) (hN : Arr w g 87 NL) (gn : Nat) (hnp : np = some ⟨gn, 0, none⟩) (e : Nat) (hr : commF key key2 = e) (T : Nat) (hT : t = (T : Nat)) (hT64 : T < 64) (het : T ≤ e) (he : e ≤ 64) (i2 : Nat) (hi2 : nibF key2 T = i2) (ps : List (Option Addr)) (hps : ps.length = 16) (PL : List Value) (hPL : PL = kidsC ps) (hP : Arr w gn 132 PL) (hal : ∀ p, aloneF (ps.set i2 (some p)) none = none) :
    Calls Tryz.prog 42 #[.pointer (some ⟨g, 0, none⟩), .agg K2.toArray, .slice A2 n2 c2] w fun x w' => ∃ g2 gA gL, w.heap.size ≤ g2 ∧ w.heap.size ≤ gA ∧ w.heap.size ≤ gL ∧ x = .returned (.pointer (some ⟨g2, 0, none⟩)) ∧ Arr w' g2 87 (nodeC key f t (.slice none 0 0) (.pointer (some ⟨gA, 0, none⟩)) 0 0 0 z32) ∧ Arr w' gA 132 (kidsC (ps.set i2 (some ⟨gL, 0, none⟩))) ∧ Arr w' gL 87 (nodeC key2 ((T : Int) + 1) 64 (.slice A2 n2 c2) (.pointer none) 0 0 0 z32) ∧ Below w.heap.size w w' := by
  obtain ⟨W1, hW1⟩ : ∃ W1, W1 = w.alloc (.cells K2.toArray 24) := ⟨_, rfl⟩
  have hA1 : Arr W1 w.heap.size 24 K2 := by rw [hW1]; exact Arr.new w _ _
  have hN1 : Arr W1 g 87 NL := by rw [hW1]; exact hN.alloc _
  have hb1 : Below w.heap.size w W1 := by rw [hW1]; exact (Below.refl _ w).alloc (Nat.le_refl _) _
  have hgw := hN.lt
  have Hlo : Hid (∀ w : World, Arr w g 87 NL → Calls Tryz.prog 36 #[.pointer (some ⟨g, 0, none⟩), .agg K2.toArray] w fun e w' => e = .returned (.bool false) ∧ Below w.heap.size w w') := by
    intro w hN
    cases hq : np with
    | none => rw [hnp] at hq; cases hq
    | some p =>
      rw [hq] at hNL
      exact leafOf_any key key2 KL K2 hKL hK2 hk hk2 g p f t _ d m s dig NL hNL w hN ⟨gn, by rw [hnp] at hq; cases hq; rfl⟩
  have Hkey : Hid (∀ w' : World, Arr w' g 87 NL → w'.rangeAt g 0 KL) := fun w' h => node_key hNL hKL h
  have Hat : Hid (∀ w' : World, Arr w' g 87 NL → w'.cell? ⟨g, 32, none⟩ = some (.int .i64 f) ∧ w'.cell? ⟨g, 33, none⟩ = some (.int .i64 t) ∧ w'.cell? ⟨g, 35, none⟩ = some (.pointer np)) := fun w' h => ⟨(node_at hNL hk h).1, (node_at hNL hk h).2.1, (node_at hNL hk h).2.2.2.1⟩
  have Hki := Lib.hid (show (Tryz.prog.info? 24).map (·.size) = some KL.length by rw [hKL, Lib.byteCells_length, hk]; kernel_rfl)
  have Hk2 := Lib.hid (show (Tryz.prog.info? 24).map (·.size) = some K2.length by rw [hK2, Lib.byteCells_length, hk2]; kernel_rfl)
  have HKL := Lib.hid hKL
  have HK2 := Lib.hid hK2
  have HNL := Lib.hid hNL
  have HW1 := Lib.hid hW1
  have Hr := Lib.hid hr
  have HT := Lib.hid hT
  have Hi2 := Lib.hid hi2
  have HPL := Lib.hid hPL
  have HP := Lib.hid hP
  have Hal := Lib.hid hal
  have hPlt := hP.lt
  have hd1 : decide ((e : Int) < (T : Int)) = false := by simp; omega
  have hi16 : i2 < 16 := by rw [← hi2]; exact nibF_lt _ _
  subst hT
  subst hnp
  clear hW1 hNL hKL hK2 hN hr hi2 hPL hP hal HT
  go_enter Tryz.func42, Tryz.ntmps42
  go_upto_region 1 with fail
  change Code.wp _ _ _ _ (w.alloc (.cells K2.toArray 24))
  rw [← HW1.out]
  clear HW1
  have hr1 := hA1.range
  go_wp2_with (first
    | (refine wpList_load_mid rfl _ _ rfl w.heap.size 0 rfl K2 _ hr1 Tryz.underlying24 rfl Hk2.out ?_))
  go_at_call 36
  refine Calls.mono (Hlo.out W1 hN1) ?_
  rintro x w2 ⟨rfl, hb2⟩
  have hN2 := hN1.up hb2
  have hA2 := hA1.up hb2
  have hB2 := hb1.trans (hb2.mono hb1.size)
  clear hN1 hA1 hr1 hb1 hb2 Hlo
  go_wp2_with fail
  refine wp_region_held_drew (S := fun w' => Arr w' g 87 NL ∧ Arr w' w.heap.size 24 K2) (by kernel_rfl) ⟨hN2.drewN 1, hA2.drewN 1⟩ (fun hHeld => ?_)
  refine anyH_take (i := 0) (v := .pointer (some ⟨g, 0, none⟩)) (some 18) rfl rfl (by kernel_rfl) (by kernel_rfl) (by kernel_rfl) (fun _ _ _ h => h) (Or.inl ⟨by rfl, fun w' hw => by rfl⟩) (by assumption) ?_
  simp only [Act.put, List.setIfInBounds_toArray, List.set_cons_zero, List.set_cons_succ]
  refine anyH_take (i := 1) (v := .pointer (some ⟨g, 0, none⟩)) (some 19) rfl rfl (by kernel_rfl) (by kernel_rfl) (by kernel_rfl) (fun _ _ _ h => h) (Or.inl ⟨by rfl, fun w' hw => by go_simp⟩) (by assumption) ?_
  simp only [Act.put, List.setIfInBounds_toArray, List.set_cons_zero, List.set_cons_succ]
  refine anyH_take (i := 2) (v := .pointer (some ⟨g, 0, none⟩)) (some 20) rfl rfl (by kernel_rfl) (by kernel_rfl) (by kernel_rfl) (fun _ _ _ h => h) (Or.inl ⟨by rfl, fun w' hw => by go_simp⟩) (by assumption) ?_
  simp only [Act.put, List.setIfInBounds_toArray, List.set_cons_zero, List.set_cons_succ]
  refine anyH_take (i := 3) (some 21) rfl rfl (by kernel_rfl) (by kernel_rfl) (by kernel_rfl) (fun _ _ _ h => h) (yieldsIf_load_mid (by rfl) 24 (.tmp 20) rfl g 0 rfl KL _ (fun w' h => Hkey.out w' h.1) Tryz.underlying24 rfl Hki.out) (by assumption) ?_
  simp only [Act.put, List.setIfInBounds_toArray, List.set_cons_zero, List.set_cons_succ]
  refine anyH_take (i := 4) (some 22) rfl rfl (by kernel_rfl) (by kernel_rfl) (by kernel_rfl) (fun _ _ _ h => h) (yieldsIf_load_mid (by rfl) 24 (.tmp 4) rfl w.heap.size 0 rfl K2 _ (fun w' h => h.2.range) Tryz.underlying24 rfl Hk2.out) (by assumption) ?_
  simp only [Act.put, List.setIfInBounds_toArray, List.set_cons_zero, List.set_cons_succ]
  refine wpAnyH_ready (rs := [5]) (by kernel_rfl) (by simp) ?_
  refine AllReadyH.cons rfl (fun K hK => ?_) AllReadyH.nil
  go_simp
  go_at_call 60
  refine Calls.mono (common_run key key2 hk hk2 KL K2 HKL.out HK2.out e Hr.out _) ?_
  rintro x w3 ⟨rfl, hb3⟩
  have hN3 : Arr w3 g 87 NL := Arr.below (w := w2.drewN 1) (hN2.drewN 1) hb3 hN2.lt
  have hA3 : Arr w3 w.heap.size 24 K2 := Arr.below (w := w2.drewN 1) (hA2.drewN 1) hb3 hA2.lt
  have hB3 : Below w.heap.size w w3 := (Below.dN hB2 1).trans (hb3.mono hB2.size)
  dsimp only
  go_wp2_with fail
  refine hK.out _ _ ⟨hN3, hA3⟩ (fun hHeldx => ?_)
  clear hK K
  try simp only [Act.put, List.setIfInBounds_toArray, List.set_cons_zero, List.set_cons_succ]
  refine anyH_take (i := 6) (v := .int .i64 (e : Nat)) (some 7) rfl rfl (by kernel_rfl) (by kernel_rfl) (by kernel_rfl) (fun _ _ _ h => h) (Or.inl ⟨by rfl, fun w' hw => by go_simp⟩) (by assumption) ?_
  simp only [Act.put, List.setIfInBounds_toArray, List.set_cons_zero, List.set_cons_succ]
  refine wpAnyH_done (by kernel_rfl) ?_ _
  clear hHeldx hHeld hN2 hA2 hB2 hb3
  have hc33 := (Hat.out w3 hN3).2.1
  go_wp2_with fail
  have hew : IntKind.i64.wrap ((T : Int) + 1) = (T : Int) + 1 := IntWalk.i64_in _ (by omega)
  have hA4 := hA3
  have hC4 := hN3
  have hB4 := hB3
  have Hct : Hid (∀ w' : World, Arr w' g 87 NL → w'.cell? ⟨g, 33, none⟩ = some (.int .i64 (T : Nat))) := fun w' h => (Hat.out w' h).2.1
  have hD4 : Arr w3 gn 132 PL := HP.out.below hB3 hPlt
  clear hc33 hN3 hA3 hB3
  refine wp_region_held_drew (S := fun w' => Arr w' g 87 NL ∧ Arr w' w.heap.size 24 K2) (by kernel_rfl) ⟨hC4.drewN 1, hA4.drewN 1⟩ (fun hHeld => ?_)
  refine anyH_take (i := 0) (v := .pointer (some ⟨g, 0, none⟩)) (some 33) rfl rfl (by kernel_rfl) (by kernel_rfl) (by kernel_rfl) (fun _ _ _ h => h) (Or.inl ⟨by rfl, fun w' hw => by rfl⟩) (by assumption) ?_
  simp only [Act.put, List.setIfInBounds_toArray, List.set_cons_zero, List.set_cons_succ]
  refine anyH_take (i := 1) (some 34) rfl rfl (by kernel_rfl) (by kernel_rfl) (by kernel_rfl) (fun _ _ _ h => h) (yieldsIf_load_mid (by rfl) 24 (.tmp 4) rfl w.heap.size 0 rfl K2 _ (fun w' h => h.2.range) Tryz.underlying24 rfl Hk2.out) (by assumption) ?_
  simp only [Act.put, List.setIfInBounds_toArray, List.set_cons_zero, List.set_cons_succ]
  refine anyH_take (i := 2) (v := .pointer (some ⟨g, 0, none⟩)) (some 35) rfl rfl (by kernel_rfl) (by kernel_rfl) (by kernel_rfl) (fun _ _ _ h => h) (Or.inl ⟨by rfl, fun w' hw => by rfl⟩) (by assumption) ?_
  simp only [Act.put, List.setIfInBounds_toArray, List.set_cons_zero, List.set_cons_succ]
  refine anyH_take (i := 3) (v := .pointer (some ⟨g, 0, none⟩)) (some 36) rfl rfl (by kernel_rfl) (by kernel_rfl) (by kernel_rfl) (fun _ _ _ h => h) (Or.inl ⟨by rfl, fun w' hw => by go_simp⟩) (by assumption) ?_
  simp only [Act.put, List.setIfInBounds_toArray, List.set_cons_zero, List.set_cons_succ]
  refine anyH_take (i := 4) (v := .pointer (some ⟨g, 33, none⟩)) (some 37) rfl rfl (by kernel_rfl) (by kernel_rfl) (by kernel_rfl) (fun _ _ _ h => h) (Or.inl ⟨by rfl, fun w' hw => by go_simp⟩) (by assumption) ?_
  simp only [Act.put, List.setIfInBounds_toArray, List.set_cons_zero, List.set_cons_succ]
  refine anyH_take (i := 5) (v := .int .i64 (T : Nat)) (some 38) rfl rfl (by kernel_rfl) (by kernel_rfl) (by kernel_rfl) (fun _ _ _ h => h) (Or.inl ⟨by rfl, fun w' hw => by (have hc := Hct.out w' hw.1; go_simp)⟩) (by assumption) ?_
  simp only [Act.put, List.setIfInBounds_toArray, List.set_cons_zero, List.set_cons_succ]
  refine anyH_take (i := 7) (some 40) rfl rfl (by kernel_rfl) (by kernel_rfl) (by kernel_rfl) (fun _ _ _ h => h) (yieldsIf_load_mid (by rfl) 24 (.tmp 4) rfl w.heap.size 0 rfl K2 _ (fun w' h => h.2.range) Tryz.underlying24 rfl Hk2.out) (by assumption) ?_
  simp only [Act.put, List.setIfInBounds_toArray, List.set_cons_zero, List.set_cons_succ]
  refine anyH_take (i := 8) (v := .pointer (some ⟨g, 0, none⟩)) (some 41) rfl rfl (by kernel_rfl) (by kernel_rfl) (by kernel_rfl) (fun _ _ _ h => h) (Or.inl ⟨by rfl, fun w' hw => by rfl⟩) (by assumption) ?_
  simp only [Act.put, List.setIfInBounds_toArray, List.set_cons_zero, List.set_cons_succ]
  refine anyH_take (i := 9) (v := .pointer (some ⟨g, 0, none⟩)) (some 42) rfl rfl (by kernel_rfl) (by kernel_rfl) (by kernel_rfl) (fun _ _ _ h => h) (Or.inl ⟨by rfl, fun w' hw => by go_simp⟩) (by assumption) ?_
  simp only [Act.put, List.setIfInBounds_toArray, List.set_cons_zero, List.set_cons_succ]
  refine anyH_take (i := 10) (v := .pointer (some ⟨g, 33, none⟩)) (some 43) rfl rfl (by kernel_rfl) (by kernel_rfl) (by kernel_rfl) (fun _ _ _ h => h) (Or.inl ⟨by rfl, fun w' hw => by go_simp⟩) (by assumption) ?_
  simp only [Act.put, List.setIfInBounds_toArray, List.set_cons_zero, List.set_cons_succ]
  refine anyH_take (i := 11) (v := .int .i64 (T : Nat)) (some 44) rfl rfl (by kernel_rfl) (by kernel_rfl) (by kernel_rfl) (fun _ _ _ h => h) (Or.inl ⟨by rfl, fun w' hw => by (have hc := Hct.out w' hw.1; go_simp)⟩) (by assumption) ?_
  simp only [Act.put, List.setIfInBounds_toArray, List.set_cons_zero, List.set_cons_succ]
  refine anyH_take (i := 12) (v := .int .i64 ((T : Int) + 1)) (some 45) rfl rfl (by kernel_rfl) (by kernel_rfl) (by kernel_rfl) (fun _ _ _ h => h) (Or.inl ⟨by rfl, fun w' hw => by go_simp⟩) (by assumption) ?_
  simp only [Act.put, List.setIfInBounds_toArray, List.set_cons_zero, List.set_cons_succ]
  refine anyH_take (i := 13) (v := .slice A2 n2 c2) (some 46) rfl rfl (by kernel_rfl) (by kernel_rfl) (by kernel_rfl) (fun _ _ _ h => h) (Or.inl ⟨by rfl, fun w' hw => by rfl⟩) (by assumption) ?_
  simp only [Act.put, List.setIfInBounds_toArray, List.set_cons_zero, List.set_cons_succ]
  refine wpAnyH_ready (rs := [6]) (by kernel_rfl) (by simp) ?_
  refine AllReadyH.cons rfl (fun K hK => ?_) AllReadyH.nil
  go_simp
  go_at_call 55
  refine Calls.mono (nibble_run key2 hk2 K2 HK2.out T hT64 _ rfl i2 Hi2.out.symm _) ?_
  rintro x w5 ⟨rfl, hb5⟩
  have hC5 : Arr w5 g 87 NL := Arr.below (w := w3.drewN 1) (hC4.drewN 1) hb5 hC4.lt
  have hA5 : Arr w5 w.heap.size 24 K2 := Arr.below (w := w3.drewN 1) (hA4.drewN 1) hb5 hA4.lt
  have hD5 : Arr w5 gn 132 PL := Arr.below (w := w3.drewN 1) (hD4.drewN 1) hb5 hD4.lt
  have hB5 : Below w.heap.size w w5 := (Below.dN hB4 1).trans (hb5.mono hB4.size)
  dsimp only
  go_wp2_with fail
  refine hK.out _ _ ⟨hC5, hA5⟩ (fun hHeldx => ?_)
  clear hK K
  try simp only [Act.put, List.setIfInBounds_toArray, List.set_cons_zero, List.set_cons_succ]
  refine wpAnyH_ready (rs := [14]) (by kernel_rfl) (by simp) ?_
  refine AllReadyH.cons rfl (fun K hK => ?_) AllReadyH.nil
  go_simp
  go_at_call 40
  refine Calls.mono (leaf_run key2 K2 HK2.out hk2 ((T : Int) + 1) A2 n2 c2 _ rfl _) ?_
  rintro x w6 ⟨gL, hgL, rfl, hL6, hb6⟩
  have hC6 := hC5.up hb6
  have hA6 := hA5.up hb6
  have hD6 := hD5.up hb6
  have hB6 := hB5.trans (hb6.mono hB5.size)
  have hgL2 := Nat.le_trans hB5.size hgL
  have hz6 := hB6.size
  dsimp only
  go_wp2_with fail
  refine hK.out _ _ ⟨hC6, hA6⟩ (fun hHeldx => ?_)
  clear hK K
  try simp only [Act.put, List.setIfInBounds_toArray, List.set_cons_zero, List.set_cons_succ]
  refine wpAnyH_ready (rs := [15]) (by kernel_rfl) (by simp) ?_
  refine AllReadyH.cons rfl (fun K hK => ?_) AllReadyH.nil
  go_simp
  go_at_call 59
  refine Calls.mono (put_branch key KL HKL.out hk g gn f (T : Nat) (.slice A n c) d m s dig NL HNL.out ps hps PL HPL.out i2 hi16 (some ⟨gL, 0, none⟩) w6 hC6 hD6 (Hal.out _)) ?_
  rintro x w7 ⟨gR, gQ, hgR, hgQ, rfl, hR7, hQ7, hb7⟩
  have hC7 := hC6.up hb7
  have hA7 := hA6.up hb7
  have hL7 := hL6.up hb7
  have hB7 := hB6.trans (hb7.mono hB6.size)
  dsimp only
  go_wp2_with fail
  refine hK.out _ _ ⟨hC7, hA7⟩ (fun hHeldx => ?_)
  clear hK K
  try simp only [Act.put, List.setIfInBounds_toArray, List.set_cons_zero, List.set_cons_succ]
  refine anyH_take (i := 16) (v := .pointer (some ⟨gR, 0, none⟩)) (some 6) rfl rfl (by kernel_rfl) (by kernel_rfl) (by kernel_rfl) (fun _ _ _ h => h) (Or.inl ⟨by rfl, fun w' hw => by go_simp⟩) (by assumption) ?_
  simp only [Act.put, List.setIfInBounds_toArray, List.set_cons_zero, List.set_cons_succ]
  refine wpAnyH_done (by kernel_rfl) ?_ _
  clear hHeld
  go_wp2
  go_ret
  exact ⟨gR, gQ, gL, Nat.le_trans hz6 hgR, Nat.le_trans hz6 hgQ, hgL2, rfl, hR7, hQ7, hL7, hB7⟩

end Go.Proofs.YtblgmnjegkfoaaaGreat

namespace Go.Proofs.YtblgmnjegkfoaaaGreat
open Go.RowKit
set_option linter.unusedVariables false
set_option linter.unusedSimpArgs false

theorem onceDis (w : World) : (callFunc 120 #[]).run Tryz.prog w = .ok (.value (.tuple #[])) w := run_call_mark0 Tryz.func120 (by kernel_rfl) (by kernel_rfl) (by kernel_rfl) .disable (by kernel_rfl) w
theorem onceEn (w : World) : (callFunc 122 #[]).run Tryz.prog w = .ok (.value (.tuple #[])) w := run_call_mark0 Tryz.func122 (by kernel_rfl) (by kernel_rfl) (by kernel_rfl) .enable (by kernel_rfl) w
theorem onceAcq (a : Addr) (w : World) : (callFunc 123 #[.pointer (some a)]).run Tryz.prog w = .ok (.value (.tuple #[])) w := run_call_marked Tryz.func123 (by kernel_rfl) (by kernel_rfl) (by kernel_rfl) .acquire (by kernel_rfl) a w
theorem onceRel (a : Addr) (w : World) : (callFunc 125 #[.pointer (some a)]).run Tryz.prog w = .ok (.value (.tuple #[])) w := run_call_marked Tryz.func125 (by kernel_rfl) (by kernel_rfl) (by kernel_rfl) .releaseMerge (by kernel_rfl) a w

set_option maxRecDepth 100000 in
set_option maxHeartbeats 4000000 in
/-- Behind the door: 'done' is laid. -/
theorem onceStore (a : Addr) (x : Value) (u : FrameMode) (w : World) (hc : w.cell? a = some x) (hz : w.frozen? a = false) :
    CallsD Tryz.prog 97 #[.pointer (some a), .bool true] u w fun e u' w' => u' = u ∧ (e = .returned (.tuple #[]) ∧ w' = w.drew.setCell a (.int .u32 1)) := by
  have hc' : w.drew.cell? a = some x := by go_simp
  have hz' : w.drew.frozen? a = false := by go_simp
  have hst := run_call_store (P := Tryz.prog) Tryz.func112 (by kernel_rfl) (by kernel_rfl) (by kernel_rfl) (by kernel_rfl) (k := .u32) (y := 1) hc' hz'
  go_enter_d Tryz.func97, Tryz.ntmps97
  go_wp2
  go_region_calls
  all_goals (go_end0; exact ⟨rfl, rfl⟩)

set_option maxRecDepth 100000 in
set_option maxHeartbeats 4000000 in
theorem onceUnlock (a : Addr) (u : FrameMode) (w : World) (hc : w.cell? a = some (.int .i32 1)) (hz : w.frozen? a = false) :
    CallsD Tryz.prog 96 #[.pointer (some a)] u w fun e u' w' => u' = u ∧ (e = .returned (.tuple #[]) ∧ w' = w.setCell a (.int .i32 0)) := by
  have hd := onceDis
  have he := onceEn
  have hr := onceRel
  have hadd := run_call_add (P := Tryz.prog) Tryz.func126 (by kernel_rfl) (by kernel_rfl) (by kernel_rfl) .i32 (by kernel_rfl) (y := -1) (s := 0) hc hz (by simp [go_sem]; rfl)
  have hcv := run_convert_to_unsafe (P := Tryz.prog) (src := 166) (dst := 170) Tryz.underlying166 Tryz.underlying170 (by kernel_rfl) hc
  go_enter_d Tryz.func96, Tryz.ntmps96
  go_wp2
  go_end0
  all_goals first
    | exact ⟨rfl, rfl⟩
    | (go_wp2; go_end0; exact ⟨rfl, rfl⟩)

set_option maxRecDepth 100000 in
set_option maxHeartbeats 4000000 in
theorem onceLock (a : Addr) (w : World) (hc : w.cell? a = some (.int .i32 0)) (hz : w.frozen? a = false) :
    Calls Tryz.prog 95 #[.pointer (some a)] w fun e w' => e = .returned (.tuple #[]) ∧ w' = w.setCell a (.int .i32 1) := by
  have hd := onceDis
  have he := onceEn
  have ha := onceAcq
  have hcas := run_call_cas_hit (P := Tryz.prog) Tryz.func121 (by kernel_rfl) (by kernel_rfl) (by kernel_rfl) .i32 (by kernel_rfl) (y := 1) hc hz
  have hc' : (w.setCell a (.int .i32 1)).cell? a = some (.int .i32 1) := World.cell?_setCell_same w a _ hc
  have hcv := run_convert_to_unsafe (P := Tryz.prog) (src := 166) (dst := 170) Tryz.underlying166 Tryz.underlying170 (by kernel_rfl) hc'
  go_enter Tryz.func95, Tryz.ntmps95
  go_wp2
  first | go_end0 | (simp only [Exit.inBlock, Exit.then]; refine bodyPost_ret (results_none rfl _ _ _) rfl ?_) | refine bodyPost_ret (results_none rfl _ _ _) rfl ?_
  all_goals first
    | exact ⟨rfl, rfl⟩
    | (go_wp2; go_end0; exact ⟨rfl, rfl⟩)

set_option maxRecDepth 100000 in
set_option maxHeartbeats 4000000 in
theorem onceLoad (a : Addr) (d : Int) (w : World) (h0 : w.cell? a = some (.int .u32 d)) :
    Calls Tryz.prog 73 #[.pointer (some a)] w fun e w' => e = .returned (.bool (d != 0)) ∧ w' = w := by
  have hl := run_call_load (P := Tryz.prog) Tryz.func94 (by kernel_rfl) (by kernel_rfl) (by kernel_rfl) .u32 (by kernel_rfl) h0
  go_enter Tryz.func73, Tryz.ntmps73
  go_wp2
  go_ret
  exact ⟨rfl, rfl⟩

set_option maxRecDepth 100000 in
set_option maxHeartbeats 4000000 in
theorem onceSlow (b o : Nat) (pl : Addr) (Q : World → Prop) (w : World)
    (h0 : w.cell? ⟨b, o, none⟩ = some (.int .u32 0)) (h1 : w.cell? ⟨b, o + 1, none⟩ = some (.int .i32 0)) (f0 : w.frozen? ⟨b, o, none⟩ = false) (f1 : w.frozen? ⟨b, o + 1, none⟩ = false)
    (hcall : Calls Tryz.prog 51 #[.pointer (some pl)] (w.setCell ⟨b, o + 1, none⟩ (.int .i32 1)) fun e w' => e = .returned (.tuple #[]) ∧ w'.cell? ⟨b, o, none⟩ = some (.int .u32 0) ∧ w'.cell? ⟨b, o + 1, none⟩ = some (.int .i32 1) ∧ w'.frozen? ⟨b, o, none⟩ = false ∧ w'.frozen? ⟨b, o + 1, none⟩ = false ∧ Q w') :
    Calls Tryz.prog 74 #[.pointer (some ⟨b, o, none⟩), .func (.func 51) #[] #[.pointer (some pl)]] w fun e w' => e = .returned (.tuple #[]) ∧ ∃ w1, Q w1 ∧ w' = (w1.drew.setCell ⟨b, o, none⟩ (.int .u32 1)).setCell ⟨b, o + 1, none⟩ (.int .i32 0) := by
  have hl := run_call_load (P := Tryz.prog) Tryz.func94 (by kernel_rfl) (by kernel_rfl) (by kernel_rfl) .u32 (by kernel_rfl) (w := w.setCell ⟨b, o + 1, none⟩ (.int .i32 1)) (a := ⟨b, o, none⟩) (x := 0) ((World.cell?_setCell_other _ ⟨b, o + 1, none⟩ ⟨b, o, none⟩ _ (by simp)).trans h0)
  have hnot : ∀ (x : Bool) (w : World), (Op.unary .not (.bool x)).run Tryz.prog w = .ok (.bool (!x)) w := fun _ _ => rfl
  have Hcall := Lib.hid hcall
  clear hcall
  go_enter_defers Tryz.func74, Tryz.ntmps74
  go_wp2_with (go_at_call 95; refine (onceLock ⟨b, o + 1, none⟩ _ (by go_simp) (by go_simp)).mono ?_; rintro e w' ⟨rfl, rfl⟩)
  go_at_call 73
  refine Calls.mono (onceLoad ⟨b, o, none⟩ 0 _ ((World.cell?_setCell_other _ ⟨b, o + 1, none⟩ ⟨b, o, none⟩ _ (by simp)).trans h0)) ?_
  rintro e w' ⟨rfl, rfl⟩
  have hb00 : ((0 : Int) != 0) = false := rfl
  rw [hb00]
  go_wp2_with fail
  go_at_call 51
  refine Calls.mono Hcall.out ?_
  rintro e w1 ⟨rfl, g0, g1, z0, z1, hQ⟩
  have HQ := Lib.hid hQ
  clear hQ Hcall hl
  go_wp2_with fail
  try go_end0
  try go_wp2
  refine leaves_cons (f := 97) (args := #[.pointer (some ⟨b, o, none⟩), .bool true]) (by simp) (by simp [go_sem]) ?_
  refine (onceStore ⟨b, o, none⟩ (.int .u32 0) .returning _ g0 z0).mono ?_
  rintro e u' w'' ⟨rfl, rfl, rfl⟩
  refine leaves_cons (f := 96) (args := #[.pointer (some ⟨b, o + 1, none⟩)]) (by simp [settle]) (by simp [go_sem]) ?_
  refine (onceUnlock ⟨b, o + 1, none⟩ _ _ ?_ (by simp [z1])).mono ?_
  · refine (World.cell?_setCell_other _ ⟨b, o, none⟩ ⟨b, o + 1, none⟩ _ (by simp)).trans ?_
    rw [World.cell?_drew]
    exact g1
  rintro e u' w'' ⟨rfl, rfl, rfl⟩
  have hq := HQ.out
  simp [Leaves, settle, results, Tryz.results74]
  exact ⟨w1, hq, rfl⟩

/-- Do, not yet done, the lock free. -/
theorem onceFirst (b o : Nat) (pl : Addr) (Q : World → Prop) (w : World)
    (h0 : w.cell? ⟨b, o, none⟩ = some (.int .u32 0)) (h1 : w.cell? ⟨b, o + 1, none⟩ = some (.int .i32 0)) (f0 : w.frozen? ⟨b, o, none⟩ = false) (f1 : w.frozen? ⟨b, o + 1, none⟩ = false)
    (hcall : Calls Tryz.prog 51 #[.pointer (some pl)] (w.setCell ⟨b, o + 1, none⟩ (.int .i32 1)) fun e w' => e = .returned (.tuple #[]) ∧ w'.cell? ⟨b, o, none⟩ = some (.int .u32 0) ∧ w'.cell? ⟨b, o + 1, none⟩ = some (.int .i32 1) ∧ w'.frozen? ⟨b, o, none⟩ = false ∧ w'.frozen? ⟨b, o + 1, none⟩ = false ∧ Q w') :
    Calls Tryz.prog 50 #[.pointer (some ⟨b, o, none⟩), .func (.func 51) #[] #[.pointer (some pl)]] w fun e w' => e = .returned (.tuple #[]) ∧ ∃ w1, Q w1 ∧ w' = (w1.drew.setCell ⟨b, o, none⟩ (.int .u32 1)).setCell ⟨b, o + 1, none⟩ (.int .i32 0) := by
  have hs := onceSlow b o pl Q w h0 h1 f0 f1 hcall
  have Hs := Lib.hid hs
  have hb00 : ((0 : Int) != 0) = false := rfl
  clear hs hcall
  go_enter Tryz.func50, Tryz.ntmps50
  go_wp2_with (go_at_call 73; refine Calls.mono (onceLoad ⟨b, o, none⟩ 0 _ h0) ?_; rintro e w' ⟨rfl, rfl⟩; rw [hb00])
  go_at_call 74
  refine Calls.mono Hs.out ?_
  rintro e w' ⟨rfl, hq⟩
  go_wp2_with fail
  try go_end0
  exact ⟨rfl, hq⟩

/-- Do, done already. -/
theorem onceDone (a : Addr) (d : Int) (hd : d ≠ 0) (fv : Value) (w : World) (h0 : w.cell? a = some (.int .u32 d)) :
    Calls Tryz.prog 50 #[.pointer (some a), fv] w fun e w' => e = .returned (.tuple #[]) ∧ w' = w := by
  have hb00 : (d != 0) = true := by simp [hd]
  go_enter Tryz.func50, Tryz.ntmps50
  go_wp2_with (go_at_call 73; refine Calls.mono (onceLoad a d _ h0) ?_; rintro e w' ⟨rfl, rfl⟩; rw [hb00])
  try go_end0
  exact ⟨rfl, rfl⟩

end Go.Proofs.YtblgmnjegkfoaaaGreat

namespace Go.Proofs.YtblgmnjegkfoaaaGreat
open Go.RowKit
set_option linter.unusedVariables false
set_option linter.unusedSimpArgs false

theorem trie_zero : Tryz.prog.built 62 [] = some #[.pointer none] := by kernel_rfl
theorem trie_built (p : Option Addr) : Tryz.prog.built 62 [(0, .pointer p)] = some #[.pointer p] := by kernel_rfl

set_option maxHeartbeats 4000000 in
set_option maxRecDepth 100000 in
theorem new_run (w : World) : Calls Tryz.prog 20 #[] w fun e w' => e = .returned (.pointer (some ⟨w.heap.size, 0, none⟩)) ∧ Arr w' w.heap.size 62 [.pointer none] ∧ Below w.heap.size w w' := by
  have hM : Arr (w.alloc (.cells #[.pointer none] 62)) w.heap.size 62 [.pointer none] := Arr.new w _ [.pointer none]
  have hb : Below w.heap.size w (w.alloc (.cells #[.pointer none] 62)) := (Below.refl _ w).alloc (Nat.le_refl _) _
  go_enter Tryz.func20, Tryz.ntmps20
  go_wp2_with (refine wpList_builtT rfl _ _ rfl _ rfl _ trie_zero ?_)
  go_ret
  exact ⟨rfl, hM, hb⟩

end Go.Proofs.YtblgmnjegkfoaaaGreat

namespace Go.Proofs.YtblgmnjegkfoaaaGreat
open Go.RowKit
set_option linter.unusedVariables false
set_option linter.unusedSimpArgs false

theorem owns_empty64 (w : World) (B : Nat) (hB : B ≤ w.heap.size) : Owns (w.alloc (.cells (Lib.byteCells (List.replicate 64 0)).toArray 5)) B 5 (.slice (some ⟨w.heap.size, 0, none⟩) 0 64) [] :=
  ⟨by simp [Lib.byteCells], .inr ⟨w.heap.size, 64, (Lib.byteCells (List.replicate 64 0)).toArray, rfl, hB, heap_alloc_new w _, by simp, by unfold maxLen; omega, by simp [Lib.byteCells], by simp [Lib.byteCells]⟩⟩

set_option maxHeartbeats 8000000 in
set_option maxRecDepth 100000 in
theorem bytes_leaf (key : List UInt8) (KL : List Value) (hKL : KL = Lib.byteCells key) (hk : key.length = 32) (g : Nat) (f : Nat) (hf : f ≤ 64) (val : List UInt8) (A : Option Addr) (c : Nat) (hc : val.length ≤ c) (hvl : val.length ≤ 1000000) (d m s : Int) (dig : List UInt8) (NL : List Value) (hNL : NL = nodeC key (f : Nat) 64 (.slice A val.length c) (.pointer none) d m s dig)
    (w : World) (hN : Arr w g 87 NL) (hval : Bs w w.heap.size A val) :
    Calls Tryz.prog 31 #[.pointer (some ⟨g, 0, none⟩)] w fun e w' => ∃ v, e = .returned v ∧ Owns w' w.heap.size 5 v ([0] ++ bytB (restF key f 64) ++ bytB val) ∧ Below w.heap.size w w' := by
  obtain ⟨i0, hi, hz0, hz1, hz2⟩ := info_parts byteInfo
  have Hkey : Hid (∀ w' : World, Arr w' g 87 NL → w'.rangeAt g 0 KL) := fun w' h => node_key hNL hKL h
  have Hat : Hid (∀ w' : World, Arr w' g 87 NL → w'.cell? ⟨g, 32, none⟩ = some (.int .i64 (f : Nat)) ∧ w'.cell? ⟨g, 33, none⟩ = some (.int .i64 64) ∧ w'.cell? ⟨g, 34, none⟩ = some (.slice A val.length c) ∧ w'.cell? ⟨g, 35, none⟩ = some (.pointer none)) := fun w' h => ⟨(node_at hNL hk h).1, (node_at hNL hk h).2.1, (node_at hNL hk h).2.2.1, (node_at hNL hk h).2.2.2.1⟩
  have Hki := Lib.hid (show (Tryz.prog.info? 24).map (·.size) = some KL.length by rw [hKL, Lib.byteCells_length, hk]; kernel_rfl)
  have hmk : ∀ w', (Instr.makeSlice 38 (.int .i64 0) (.int .i64 64)).run Tryz.prog w' = .ok (.slice (some ⟨w'.heap.size, 0, none⟩) 0 64) (w'.alloc (.cells (Lib.byteCells (List.replicate 64 0)).toArray 5)) := fun w' => by
    have h := run_make (P := Tryz.prog) (w := w') 38 5 i0 (.int .u8 0) Tryz.underlying38 hi hz0 .i64 .i64 (0 : Nat) (64 : Nat) (by omega) (by omega) (by rw [hz2]; omega) (by omega)
    rw [hz1, Nat.mul_one] at h
    simpa [made_zeros, Value.cells] using h
  obtain ⟨W1, hW1⟩ : ∃ W1, W1 = w.alloc (.cells (Lib.byteCells (List.replicate 64 0)).toArray 5) := ⟨_, rfl⟩
  have hown1 : Owns W1 w.heap.size 5 (.slice (some ⟨w.heap.size, 0, none⟩) 0 64) (restF key f f) := by
    rw [hW1, show restF key f f = [] by simp [restF]]; exact owns_empty64 w w.heap.size (Nat.le_refl _)
  have hb1 : Below w.heap.size w W1 := by rw [hW1]; exact (Below.refl _ w).alloc (Nat.le_refl _) _
  have hgw := hN.lt
  have hN1 := hN.below hb1 hgw
  have hc32 := (Hat.out W1 hN1).1
  have HW1 := Lib.hid hW1
  have HKL := Lib.hid hKL
  have HN := Lib.hid hN
  have HV := Lib.hid hval
  clear hW1 hKL hNL hN hval hN1
  go_enter Tryz.func31, Tryz.ntmps31
  go_upto_region 2 with fail
  change Code.wp _ _ _ _ (w.alloc (.cells (Lib.byteCells (List.replicate 64 0)).toArray 5))
  rw [← HW1.out]
  clear HW1 hmk
  go_wp2_with fail
  go_loopw [3, 4] (fun v x wr => ∃ k : Nat, f ≤ k ∧ k ≤ 64 ∧ x = .int .i64 k ∧ Owns wr w.heap.size 5 v (restF key f k) ∧ Below w.heap.size w wr) (fun _ x _ => 64 - (intOf x).toNat)
  case atStart => exact ⟨f, Nat.le_refl _, hf, rfl, hown1, hb1⟩
  case round =>
    clear hown1 hb1 hc32
    obtain ⟨k, hfk, hk64, rfl, hown, hbB⟩ := hrel
    have hNr : Arr wr g 87 NL := HN.out.below hbB hgw
    have hc33 := (Hat.out wr hNr).2.1
    have hrl := restF_length key f k
    by_cases hlt : k < 64
    · have hd1 : decide ((k : Int) < (64 : Int)) = true := by simp; omega
      have hrng := Hkey.out wr hNr
      obtain ⟨q, hq⟩ : ∃ q, nibF key k = q := ⟨_, rfl⟩
      have hq16 : q < 16 := by rw [← hq]; exact nibF_lt _ _
      have Hq := Lib.hid hq
      clear hq hNr
      go_wp2_with (first
        | (refine wpList_load_mid rfl _ _ rfl g 0 rfl KL _ hrng Tryz.underlying24 rfl Hki.out ?_))
      go_at_call 55
      refine Calls.mono (nibble_run key hk KL HKL.out k hlt _ rfl q Hq.out.symm wr) ?_
      rintro e wx ⟨rfl, hbx⟩
      have hownx := hown.below hbx (fun j hj => (hown.lt j hj).2)
      have hbBx := hbB.trans (hbx.mono hbB.size)
      clear hown hbB hbx hrng hc33
      have hz9 : wx.heap.size + 1 > wx.heap.size := Nat.lt_succ_self _
      dsimp only
      go_wp2_with (at_builtin; refine wpList_append_own_at _ rfl _ _ 38 rfl w.heap.size 5 i0 (.int .u8 0) 1 1 Tryz.underlying38 hi hz0 hz1 hz2 rfl (by decide) _ _ _ rfl (World.ownsRow.alloc hownx _) ⟨wx.heap.size, 0, none⟩ 1 1 [Value.int .u8 (q : Nat)] rfl rfl ?c1 ?c2 ?c3 ?c4 ?c5 ?_)
      case c1 =>
        intro j u hj
        match j, hj with
        | 0, hj => simp at hj; subst hj; simp [Addr.add]
      case c2 => intro u hu; simp at hu; subst hu; rfl
      case c3 => unfold maxLen; omega
      case c4 => omega
      case c5 => simp; have := hbBx.size; omega
      intro v' w1 hown' hgrow _ hplace
      have hsz := hgrow.size
      have hbn : Below w.heap.size w w1 := (hbBx.alloc hbBx.size _).grown hgrow (by simp; have := hbBx.size; omega) (fun k hk => (hownx.lt k hk).1)
      have hon : Owns w1 w.heap.size 5 v' (restF key f (k + 1)) := by
        rw [restF_snoc key hfk, Hq.out]
        exact Owns.snoc (by omega) (by rw [hrl]) rfl hown'
      clear hownx hown' hgrow hplace hbBx hsz
      go_wp2
      go_roundw
      case rel => exact ⟨k + 1, by omega, by omega, by go_num, hon, hbn⟩
      case measure => simp [intOf]; omega
    · obtain rfl : k = 64 := by omega
      have hd1 : decide (((64 : Nat) : Int) < (64 : Int)) = false := by simp
      have hc35 := (Hat.out wr hNr).2.2.2
      obtain ⟨R, hR⟩ : ∃ R, restF key f 64 = R := ⟨_, rfl⟩
      rw [hR] at hown hrl
      obtain ⟨A6, c6, rfl, h61, h62, h63⟩ := hown.slice
      have hB0 := hbB.size
      have HR := Lib.hid hR
      obtain ⟨m0, hm0⟩ : ∃ m0, R.length = m0 := ⟨_, rfl⟩
      obtain ⟨n0, hn0⟩ : ∃ n0, val.length = n0 := ⟨_, rfl⟩
      rw [hm0] at hown h61 hrl ⊢
      have hm64 : m0 ≤ 64 := by omega
      have HM := Lib.hid hm0
      have HVn := Lib.hid hn0
      rw [hn0] at hc hvl
      have Hat2 : Hid (∀ w' : World, Arr w' g 87 NL → w'.cell? ⟨g, 34, none⟩ = some (.slice A n0 c)) := fun w' h => by rw [← hn0]; exact (Hat.out w' h).2.2.1
      clear hR hrl hm0 hn0
      go_wp2_with fail
      refine wp_region_held_drew (S := fun w' => Arr w' g 87 NL) (by kernel_rfl) (hNr.drewN 1) (fun hHeld => ?_)
      refine anyH_take (i := 1) (v := .slice A6 m0 c6) (some 39) rfl rfl (by kernel_rfl) (by kernel_rfl) (by kernel_rfl) (fun _ _ _ h => h) (Or.inl ⟨by rfl, fun w' hw => by rfl⟩) (by assumption) ?_
      simp only [Act.put, List.setIfInBounds_toArray, List.set_cons_zero, List.set_cons_succ]
      refine anyH_take (i := 3) (v := .pointer (some ⟨g, 0, none⟩)) (some 41) rfl rfl (by kernel_rfl) (by kernel_rfl) (by kernel_rfl) (fun _ _ _ h => h) (Or.inl ⟨by rfl, fun w' hw => by rfl⟩) (by assumption) ?_
      simp only [Act.put, List.setIfInBounds_toArray, List.set_cons_zero, List.set_cons_succ]
      refine anyH_take (i := 4) (v := .pointer (some ⟨g, 0, none⟩)) (some 42) rfl rfl (by kernel_rfl) (by kernel_rfl) (by kernel_rfl) (fun _ _ _ h => h) (Or.inl ⟨by rfl, fun w' hw => by go_simp⟩) (by assumption) ?_
      simp only [Act.put, List.setIfInBounds_toArray, List.set_cons_zero, List.set_cons_succ]
      refine anyH_take (i := 5) (v := .pointer (some ⟨g, 34, none⟩)) (some 43) rfl rfl (by kernel_rfl) (by kernel_rfl) (by kernel_rfl) (fun _ _ _ h => h) (Or.inl ⟨by rfl, fun w' hw => by go_simp⟩) (by assumption) ?_
      simp only [Act.put, List.setIfInBounds_toArray, List.set_cons_zero, List.set_cons_succ]
      refine anyH_take (i := 6) (v := .slice A n0 c) (some 44) rfl rfl (by kernel_rfl) (by kernel_rfl) (by kernel_rfl) (fun _ _ _ h => h) (Or.inl ⟨by rfl, fun w' hw => by (have hc := Hat2.out w' hw; go_simp)⟩) (by assumption) ?_
      simp only [Act.put, List.setIfInBounds_toArray, List.set_cons_zero, List.set_cons_succ]
      refine wpAnyH_ready (rs := [0]) (by kernel_rfl) (by simp) ?_
      refine AllReadyH.cons rfl (fun K hK => ?_) AllReadyH.nil
      go_simp
      go_at_call 56
      refine Calls.mono (number_nil 0 (by omega) (by omega) _) ?_
      rintro e w2 ⟨A2, c2, rfl, hown2, hb2⟩
      have hu0 : Lib.uvarint (0 : Int).toNat = [0] := by decide +kernel
      rw [hu0] at hown2
      have hb2' : Below wr.heap.size wr w2 := (Below.dN (Below.refl _ wr) 1).trans hb2
      have hR2 : Bs w2 wr.heap.size A6 R := h63.below hb2' (Nat.le_refl _)
      have hN2 := hNr.up hb2'
      have hB2 := hbB.trans (hb2'.mono hB0)
      have hz2' := hb2'.size
      have hul : (Lib.uvarint (0 : Int).toNat).length = 1 := by rw [hu0]; rfl
      rw [hul]
      have hown2' : Owns w2 wr.heap.size 5 (.slice A2 1 c2) [0] := hown2
      have hV2 : Bs w2 wr.heap.size A val := (HV.out.below hB2 (Nat.le_refl _)).more hB0
      clear hown2 hul hu0 hb2 hb2'
      dsimp only
      go_wp2_with fail
      refine hK.out _ _ hN2 (fun hHeldx => ?_)
      clear hK K
      try simp only [Act.put, List.setIfInBounds_toArray, List.set_cons_zero, List.set_cons_succ]
      refine wpAnyH_ready (rs := [2]) (by kernel_rfl) (by simp) ?_
      refine AllReadyH.cons rfl (fun K hK => ?_) AllReadyH.nil
      go_simp
      go_at_call 48
      have hby := bytes_any wr.heap.size (.slice A2 1 c2) [0] R A6 c6 w2 hown2' hz2' hR2 (by rw [HM.out]; exact h61) (by rw [HM.out]; simp; omega)
      rw [HM.out] at hby
      refine Calls.mono hby ?_
      rintro e w3 ⟨v3, rfl, hown3, hg3⟩
      have hb3 : Below wr.heap.size w2 w3 := hg3.below hz2' (fun k hk => (hown2'.lt k hk).1)
      have hN3 := hN2.below hb3 (by omega)
      have hV3 := hV2.below hb3 (Nat.le_refl _)
      have hB3 := hB2.trans (hb3.mono hB0)
      have hz3 := Nat.le_trans hz2' hb3.size
      clear hby hg3 hb3 hown2' hR2 hV2
      dsimp only
      go_wp2_with fail
      refine hK.out _ _ hN3 (fun hHeldx => ?_)
      clear hK K
      try simp only [Act.put, List.setIfInBounds_toArray, List.set_cons_zero, List.set_cons_succ]
      refine wpAnyH_ready (rs := [7]) (by kernel_rfl) (by simp) ?_
      refine AllReadyH.cons rfl (fun K hK => ?_) AllReadyH.nil
      go_simp
      go_at_call 48
      have hby := bytes_any wr.heap.size v3 _ val A c w3 hown3 hz3 hV3 (by rw [HVn.out]; exact hc) (by have := Lib.uvarint_length64 (x := m0) (by omega); have h1 := HM.out; have h2 := HVn.out; simp only [List.length_append, List.length_cons, List.length_nil, h1, h2]; omega)
      rw [HVn.out] at hby
      refine Calls.mono hby ?_
      rintro e w4 ⟨v4, rfl, hown4, hg4⟩
      have hb4 : Below wr.heap.size w3 w4 := hg4.below hz3 (fun k hk => (hown3.lt k hk).1)
      have hN4 := hN3.below hb4 (by omega)
      have hB4 := hB3.trans (hb4.mono hB0)
      clear hby hg4 hb4 hV3
      dsimp only
      go_wp2_with fail
      refine hK.out _ _ hN4 (fun hHeldx => ?_)
      clear hK K
      try simp only [Act.put, List.setIfInBounds_toArray, List.set_cons_zero, List.set_cons_succ]
      refine anyH_take (i := 8) (v := v4) (some 2) rfl rfl (by kernel_rfl) (by kernel_rfl) (by kernel_rfl) (fun _ _ _ h => h) (Or.inl ⟨by rfl, fun w' hw => by go_simp⟩) (by assumption) ?_
      simp only [Act.put, List.setIfInBounds_toArray, List.set_cons_zero, List.set_cons_succ]
      refine wpAnyH_done (by kernel_rfl) ?_ _
      clear hHeld hHeldx
      go_wp2_with fail
      go_ret
      refine ⟨v4, rfl, ?_, hB4⟩
      have hfin := hown4.base hB0
      rw [HR.out]
      unfold bytB
      rw [HM.out, HVn.out]
      exact hfin

end Go.Proofs.YtblgmnjegkfoaaaGreat

namespace Go.Proofs.YtblgmnjegkfoaaaGreat
open Go.RowKit
set_option linter.unusedVariables false
set_option linter.unusedSimpArgs false

/-- The bits of the first n places where there is a node. -/
def maskK (ps : List (Option Addr)) : Nat → Nat
  | 0 => 0
  | n + 1 => maskK ps n + if ps.getD n none = none then 0 else 2 ^ n
theorem maskK_lt (ps : List (Option Addr)) (n : Nat) : maskK ps n < 2 ^ n := by
  induction n with
  | zero => simp [maskK]
  | succ n ih =>
    unfold maskK
    rw [Nat.pow_succ]
    split <;> omega
/-- Their digests, one behind the other. -/
def digK (ps : List (Option Addr)) (dg : Nat → List UInt8) : Nat → List UInt8
  | 0 => []
  | n + 1 => digK ps dg n ++ if ps.getD n none = none then [] else dg n
theorem digK_length (ps : List (Option Addr)) (dg : Nat → List UInt8) (h : ∀ i, (dg i).length = 32) (n : Nat) : (digK ps dg n).length ≤ 32 * n := by
  induction n with
  | zero => simp [digK]
  | succ n ih =>
    unfold digK
    rw [List.length_append]
    split
    · simp; omega
    · rw [h n]; omega
theorem or_pow (acc i : Nat) (hi : i < 16) (ha : acc < 2 ^ i) : bits .or .u64 (acc : Int) ((2 ^ i : Nat) : Int) = ((acc + 2 ^ i : Nat) : Int) := by
  have hp : (2 : Nat) ^ i ≤ 2 ^ 15 := Nat.pow_le_pow_right (by omega) (by omega)
  have k1 : acc < 18446744073709551616 := by omega
  have k2 : (2 : Nat) ^ i < 18446744073709551616 := by omega
  have k3 : (2 : Nat) ^ i % 2 ^ i = 0 := Nat.mod_self _
  have h := bits_join_low .u64 64 (by decide) wraps_u64 i (acc : Int) ((2 ^ i : Nat) : Int) (by omega) (by exact_mod_cast ha) (by exact_mod_cast k1) (by omega) (by exact_mod_cast k3) (by exact_mod_cast k2)
  rw [h]
  simp
theorem Only.low {R : Nat → Prop} {a b c : World} (h : Only R a b) (hb : Below a.heap.size b c) : Only R a c := ⟨hb.os.trans h.os, hb.tape.trans h.tape, hb.output.trans h.output, Nat.le_trans h.size hb.size, fun k hk hn => (hb.block k hk).trans (h.block k hk hn)⟩
theorem Arr.bsT {w : World} {g : Nat} {T : TypeId} {l : List UInt8} (h : Arr w g T (Lib.byteCells l)) : Bs w w.heap.size (some ⟨g, 0, none⟩) l := fun _ => ⟨g, 0, rfl, h.lt, fun j hj => by rw [Nat.zero_add, h.cell]; exact byteCells_get hj⟩
theorem Bs.onlyT {w w' : World} {B : Nat} {A : Option Addr} {l : List UInt8} {R : Nat → Prop} (h : Bs w B A l) (hO : Only R w w') (hR : ∀ a : Addr, A = some a → 0 < l.length → ¬ R a.block) (hB : B ≤ w.heap.size) : Bs w' B A l := fun hn => by
  obtain ⟨b, off, e, hb, hc⟩ := h hn
  refine ⟨b, off, e, hb, fun j hj => ?_⟩
  rw [← hc j hj]
  exact World.cell?_of_block (hO.block b (by omega) (hR _ e hn))
theorem Owns.onlyT {w w' : World} {B : Nat} {T : TypeId} {v : Value} {l : List UInt8} {R : Nat → Prop} (h : Owns w B T v l) (hO : Only R w w') (hR : ∀ k, v.ownBlock = some k → ¬ R k) : Owns w' B T v l := by
  refine ⟨h.1, ?_⟩
  rcases h.2 with hn | ⟨g, cap, cur, rfl, h1, hg, rest⟩
  · exact .inl hn
  · exact .inr ⟨g, cap, cur, rfl, h1, (hO.block g (Array.getElem?_eq_some_iff.1 hg).1 (hR g rfl)).trans hg, rest⟩

set_option maxHeartbeats 16000000 in
set_option maxRecDepth 100000 in
theorem bytes_branch (key : List UInt8) (KL : List Value) (hKL : KL = Lib.byteCells key) (hk : key.length = 32) (g gn : Nat) (f t : Nat) (hft : f ≤ t) (ht : t ≤ 64) (vv : Value) (d m s : Int) (dig : List UInt8) (NL : List Value) (hNL : NL = nodeC key (f : Nat) (t : Nat) vv (.pointer (some ⟨gn, 0, none⟩)) d m s dig)
    (ps : List (Option Addr)) (hps : ps.length = 16) (PL : List Value) (hPL : PL = kidsC ps) (dg : Nat → List UInt8) (hdg : ∀ i, (dg i).length = 32) (F : Nat → Prop) (I : World → Prop) (n0 : Nat) (hIf : ∀ w1 w2, I w1 → Only (fun k => n0 ≤ k) w1 w2 → I w2)
    (hIA : ∀ w', I w' → Arr w' g 87 NL ∧ Arr w' gn 132 PL)
    (hsum : ∀ i a, i < 16 → ps[i]? = some (some a) → ∀ w', I w' → n0 ≤ w'.heap.size → Calls Tryz.prog 28 #[.pointer (some a)] w' fun e w'' => e = .returned (.agg (Lib.byteCells (dg i)).toArray) ∧ I w'' ∧ Only F w' w'')
    (w : World) (hn0 : n0 ≤ w.heap.size) (hFw : ∀ k, F k → k < n0) (hI : I w) :
    Calls Tryz.prog 31 #[.pointer (some ⟨g, 0, none⟩)] w fun e w' => ∃ v, e = .returned v ∧ Owns w' w.heap.size 5 v ([1] ++ bytB (restF key f t) ++ Lib.uvarint (maskK ps 16) ++ digK ps dg 16) ∧ I w' ∧ Only F w w' := by
  obtain ⟨i0, hi, hz0, hz1, hz2⟩ := info_parts byteInfo
  have Hkey : Hid (∀ w' : World, Arr w' g 87 NL → w'.rangeAt g 0 KL) := fun w' h => node_key hNL hKL h
  have Hat : Hid (∀ w' : World, Arr w' g 87 NL → w'.cell? ⟨g, 32, none⟩ = some (.int .i64 (f : Nat)) ∧ w'.cell? ⟨g, 33, none⟩ = some (.int .i64 (t : Nat)) ∧ w'.cell? ⟨g, 35, none⟩ = some (.pointer (some ⟨gn, 0, none⟩))) := fun w' h => ⟨(node_at hNL hk h).1, (node_at hNL hk h).2.1, (node_at hNL hk h).2.2.2.1⟩
  have Hki := Lib.hid (show (Tryz.prog.info? 24).map (·.size) = some KL.length by rw [hKL, Lib.byteCells_length, hk]; kernel_rfl)
  have Hps := Lib.hid (show ∀ (w' : World) i, i < 16 → Arr w' gn 132 PL → w'.cell? ⟨gn, i, none⟩ = some (.pointer (ps.getD i none)) from fun w' i hi h => by
    rw [h.cell, hPL]
    simp [kidsC, List.getD, show i < ps.length by omega])
  have hmk : ∀ w', (Instr.makeSlice 38 (.int .i64 0) (.int .i64 64)).run Tryz.prog w' = .ok (.slice (some ⟨w'.heap.size, 0, none⟩) 0 64) (w'.alloc (.cells (Lib.byteCells (List.replicate 64 0)).toArray 5)) := fun w' => by
    have h := run_make (P := Tryz.prog) w' 38 5 i0 (.int .u8 0) Tryz.underlying38 hi hz0 .i64 .i64 (0 : Nat) (64 : Nat) (by omega) (by omega) (by rw [hz2]; omega) (by omega)
    rw [hz1, Nat.mul_one] at h
    simpa [made_zeros, Value.cells] using h
  obtain ⟨W1, hW1⟩ : ∃ W1, W1 = w.alloc (.cells (Lib.byteCells (List.replicate 64 0)).toArray 5) := ⟨_, rfl⟩
  have hown1 : Owns W1 w.heap.size 5 (.slice (some ⟨w.heap.size, 0, none⟩) 0 64) (restF key f f) := by
    rw [hW1, show restF key f f = [] by simp [restF]]; exact owns_empty64 w w.heap.size (Nat.le_refl _)
  have hb1 : Below w.heap.size w W1 := by rw [hW1]; exact (Below.refl _ w).alloc (Nat.le_refl _) _
  have hN := (hIA w hI).1
  have hgw := hN.lt
  have hN1 := hN.below hb1 hgw
  have hc32 := (Hat.out W1 hN1).1
  have HW1 := Lib.hid hW1
  have HKL := Lib.hid hKL
  have HN := Lib.hid hN
  have HIA := Lib.hid hIA
  have HI := Lib.hid hI
  have HIf := Lib.hid hIf
  have Hsum := Lib.hid hsum
  have HFw := Lib.hid hFw
  clear hW1 hKL hNL hN hN1 hPL hIA hI hIf hsum hFw
  go_enter Tryz.func31, Tryz.ntmps31
  go_upto_region 2 with fail
  change Code.wp _ _ _ _ (w.alloc (.cells (Lib.byteCells (List.replicate 64 0)).toArray 5))
  rw [← HW1.out]
  clear HW1 hmk
  go_wp2_with fail
  go_loopw [3, 4] (fun v x wr => ∃ k : Nat, f ≤ k ∧ k ≤ t ∧ x = .int .i64 k ∧ Owns wr w.heap.size 5 v (restF key f k) ∧ Below w.heap.size w wr) (fun _ x _ => t - (intOf x).toNat)
  case atStart => exact ⟨f, Nat.le_refl _, hft, rfl, hown1, hb1⟩
  case round =>
    clear hown1 hb1 hc32
    obtain ⟨k, hfk, hkt, rfl, hown, hbB⟩ := hrel
    have hNr : Arr wr g 87 NL := HN.out.below hbB hgw
    have hc33 := (Hat.out wr hNr).2.1
    have hrl := restF_length key f k
    by_cases hlt : k < t
    · have hd1 : decide ((k : Int) < (t : Int)) = true := by simp; omega
      have hd1n : decide (k < t) = true := by simp; omega
      have hlt64 : k < 64 := by omega
      have hrng := Hkey.out wr hNr
      obtain ⟨q, hq⟩ : ∃ q, nibF key k = q := ⟨_, rfl⟩
      have hq16 : q < 16 := by rw [← hq]; exact nibF_lt _ _
      have Hq := Lib.hid hq
      clear hq hNr
      go_wp2_with (first
        | (refine wpList_load_mid rfl _ _ rfl g 0 rfl KL _ hrng Tryz.underlying24 rfl Hki.out ?_))
      go_at_call 55
      refine Calls.mono (nibble_run key hk KL HKL.out k hlt64 _ rfl q Hq.out.symm wr) ?_
      rintro e wx ⟨rfl, hbx⟩
      have hownx := hown.below hbx (fun j hj => (hown.lt j hj).2)
      have hbBx := hbB.trans (hbx.mono hbB.size)
      clear hown hbB hbx hrng hc33
      have hz9 : wx.heap.size + 1 > wx.heap.size := Nat.lt_succ_self _
      dsimp only
      go_wp2_with (at_builtin; refine wpList_append_own_at _ rfl _ _ 38 rfl w.heap.size 5 i0 (.int .u8 0) 1 1 Tryz.underlying38 hi hz0 hz1 hz2 rfl (by decide) _ _ _ rfl (World.ownsRow.alloc hownx _) ⟨wx.heap.size, 0, none⟩ 1 1 [Value.int .u8 (q : Nat)] rfl rfl ?c1 ?c2 ?c3 ?c4 ?c5 ?_)
      case c1 =>
        intro j u hj
        match j, hj with
        | 0, hj => simp at hj; subst hj; simp [Addr.add]
      case c2 => intro u hu; simp at hu; subst hu; rfl
      case c3 => unfold maxLen; omega
      case c4 => omega
      case c5 => simp; have := hbBx.size; omega
      intro v' w1 hown' hgrow _ hplace
      have hsz := hgrow.size
      have hbn : Below w.heap.size w w1 := (hbBx.alloc hbBx.size _).grown hgrow (by simp; have := hbBx.size; omega) (fun k hk => (hownx.lt k hk).1)
      have hon : Owns w1 w.heap.size 5 v' (restF key f (k + 1)) := by
        rw [restF_snoc key hfk, Hq.out]
        exact Owns.snoc (by omega) (by rw [hrl]) rfl hown'
      clear hownx hown' hgrow hplace hbBx hsz
      go_wp2
      go_roundw
      case rel => exact ⟨k + 1, by omega, by omega, by go_num, hon, hbn⟩
      case measure => simp [intOf]; omega
    · obtain rfl : k = t := by omega
      have hd1 : decide ((k : Int) < (k : Int)) = false := by simp
      have hd1n : decide (k < k) = false := by simp
      have hc35 := (Hat.out wr hNr).2.2
      obtain ⟨R, hR⟩ : ∃ R, restF key f k = R := ⟨_, rfl⟩
      rw [hR] at hown hrl
      have hlo3 := hown.lt
      obtain ⟨A6, c6, rfl, h61, h62, h63⟩ := hown.slice
      have hB0 := hbB.size
      have HR := Lib.hid hR
      obtain ⟨m0, hm0⟩ : ∃ m0, R.length = m0 := ⟨_, rfl⟩
      rw [hm0] at hown h61 hrl ⊢
      have hm64 : m0 ≤ 64 := by omega
      have HM := Lib.hid hm0
      have HA6 : Hid (∀ a : Addr, A6 = some a → n0 ≤ a.block) := fun a ea => Nat.le_trans hn0 (hlo3 a.block (by rw [ea]; rfl)).1
      obtain ⟨w1, hw1⟩ : ∃ x, x = wr := ⟨_, rfl⟩
      subst hw1
      have hI1 : I w1 := HIf.out w w1 HI.out ⟨hbB.os, hbB.tape, hbB.output, hbB.size, fun j hj hn => hbB.block j (by omega)⟩
      have hn1 : n0 ≤ w1.heap.size := Nat.le_trans hn0 hB0
      have hO1 : Only F w w1 := Only.of_below hbB
      clear hR hrl hm0 hown hlo3
      go_wp2_with fail
      go_loopw [5, 6, 50] (fun mv v x wr => ∃ i : Nat, i ≤ 16 ∧ x = .int .i64 i ∧ mv = .int .u64 (maskK ps i : Nat) ∧ Owns wr w1.heap.size 5 v (digK ps dg i) ∧ I wr ∧ Only F w1 wr) (fun _ _ x _ => 16 - (intOf x).toNat)
      case atStart => exact ⟨0, by omega, rfl, rfl, Owns.nil w1 _ _, hI1, Only.refl _ _⟩
      case round =>
        clear hI1
        obtain ⟨i, hi16, rfl, rfl, hown, hIr, hO⟩ := hrel
        obtain ⟨wq, hwq⟩ : ∃ x, x = wr := ⟨_, rfl⟩
        subst hwq
        have hbz := hO.size
        have hml := maskK_lt ps i
        have hdl := digK_length ps dg hdg i
        by_cases hlt : i < 16
        · have hd2 : decide ((i : Int) < (16 : Int)) = true := by simp; omega
          have hiI : (i : Int) < (16 : Int) := by omega
          have hcp := Hps.out wq i hlt (HIA.out wq hIr).2
          have hcpd : wq.drew.cell? ⟨gn, i, none⟩ = some (.pointer (ps.getD i none)) := hcp
          obtain ⟨pp, hpp⟩ : ∃ pp, ps.getD i none = pp := ⟨_, rfl⟩
          rw [hpp] at hcpd
          have hIq : I wq.drew := HIf.out wq wq.drew hIr ⟨rfl, rfl, rfl, Nat.le_refl _, fun _ _ _ => rfl⟩
          have hownq : Owns wq.drew w1.heap.size 5 _ (digK ps dg i) := hown.drewN 1
          have hOq : Only F w1 wq.drew := hO.drewN 1
          have Hmk := Lib.hid (show maskK ps (i + 1) = maskK ps i + if pp = none then 0 else 2 ^ i by rw [← hpp]; rfl)
          have Hdk := Lib.hid (show digK ps dg (i + 1) = digK ps dg i ++ if pp = none then [] else dg i by rw [← hpp]; rfl)
          have Hpp : Hid (∀ a, pp = some a → ps[i]? = some (some a)) := fun a ea => by
            rw [ea] at hpp
            simp only [List.getD] at hpp
            rw [List.getElem?_eq_getElem (by omega)] at hpp ⊢
            simpa using hpp
          obtain ⟨mk, hmk⟩ : ∃ x, maskK ps i = x := ⟨_, rfl⟩
          obtain ⟨D, hD⟩ : ∃ x, digK ps dg i = x := ⟨_, rfl⟩
          rw [hmk] at hml Hmk ⊢
          rw [hD] at hownq hdl Hdk
          clear hcp hpp hIr hown hO hmk hD
          go_wp2_with fail
          refine wp_region_held_drew (S := fun w' => w'.cell? ⟨gn, i, none⟩ = some (.pointer pp)) (by kernel_rfl) hcpd (fun hHeld => ?_)
          refine anyH_take (i := 0) (v := .int .i64 (i : Nat)) (some 52) rfl rfl (by kernel_rfl) (by kernel_rfl) (by kernel_rfl) (fun _ _ _ h => h) (Or.inl ⟨by rfl, fun w' hw => by rfl⟩) (by assumption) ?_
          simp only [Act.put, List.setIfInBounds_toArray, List.set_cons_zero, List.set_cons_succ]
          refine anyH_take (i := 1) (v := .pointer (some ⟨gn, 0, none⟩)) (some 53) rfl rfl (by kernel_rfl) (by kernel_rfl) (by kernel_rfl) (fun _ _ _ h => h) (Or.inl ⟨by rfl, fun w' hw => by go_simp⟩) (by assumption) ?_
          simp only [Act.put, List.setIfInBounds_toArray, List.set_cons_zero, List.set_cons_succ]
          refine anyH_take (i := 2) (v := .pointer (some ⟨gn, i, none⟩)) (some 54) rfl rfl (by kernel_rfl) (by kernel_rfl) (by kernel_rfl) (fun _ _ _ h => h) (Or.inl ⟨by rfl, fun w' hw => by go_simp⟩) (by assumption) ?_
          simp only [Act.put, List.setIfInBounds_toArray, List.set_cons_zero, List.set_cons_succ]
          refine anyH_take (i := 3) (v := .pointer pp) (some 55) rfl rfl (by kernel_rfl) (by kernel_rfl) (by kernel_rfl) (fun _ _ _ h => h) (Or.inl ⟨by rfl, fun w' hw => by go_simp⟩) (by assumption) ?_
          simp only [Act.put, List.setIfInBounds_toArray, List.set_cons_zero, List.set_cons_succ]
          refine anyH_take (i := 4) (v := .int .i64 (i : Nat)) (some 7) rfl rfl (by kernel_rfl) (by kernel_rfl) (by kernel_rfl) (fun _ _ _ h => h) (Or.inl ⟨by rfl, fun w' hw => by rfl⟩) (by assumption) ?_
          simp only [Act.put, List.setIfInBounds_toArray, List.set_cons_zero, List.set_cons_succ]
          refine anyH_take (i := 5) (v := .pointer pp) (some 8) rfl rfl (by kernel_rfl) (by kernel_rfl) (by kernel_rfl) (fun _ _ _ h => h) (Or.inl ⟨by rfl, fun w' hw => by rfl⟩) (by assumption) ?_
          simp only [Act.put, List.setIfInBounds_toArray, List.set_cons_zero, List.set_cons_succ]
          refine wpAnyH_done (by kernel_rfl) ?_ _
          clear hHeld
          cases pp with
          | none =>
            rw [if_pos rfl] at Hmk Hdk
            rw [List.append_nil] at Hdk
            go_wp2_with fail
            case roundEnd => exact ⟨⟨i + 1, by omega, by simp, by rw [Hmk.out]; simp, by rw [Hdk.out]; exact hownq, hIq, hOq⟩, by simp [intOf]; omega⟩
          | some a =>
            rw [if_neg (by simp)] at Hmk Hdk
            have hsm := Hsum.out i a hlt (Hpp.out a rfl)
            obtain ⟨SL, hSL⟩ : ∃ SL, SL = Lib.byteCells (dg i) := ⟨_, rfl⟩
            rw [← hSL] at hsm
            have hSl : SL.length = 32 := by rw [hSL, Lib.byteCells_length, hdg i]
            have HSi := Lib.hid (show (Tryz.prog.info? 24).map (·.size) = some SL.toArray.size by rw [List.size_toArray, hSl]; exact digInfo)
            have HSs := Lib.hid (show (Lib.byteCells zeros).toArray.size = SL.toArray.size by rw [List.size_toArray, List.size_toArray, hSl]; rfl)
            have HS1 := Lib.hid (show SL.toArray.all (·.oneCell') = true by rw [hSL]; simpa using byteCells_one (dg i))
            have HSL := Lib.hid hSL
            obtain ⟨q, hq⟩ : ∃ q, mk + 2 ^ i = q := ⟨_, rfl⟩
            have hwr : IntKind.u64.wrap ((2 : Int) ^ i) = (2 : Int) ^ i := by
              have h2 : (2 : Nat) ^ i ≤ 2 ^ 15 := Nat.pow_le_pow_right (by omega) (by omega)
              have e : ((2 : Int) ^ i) = ((2 ^ i : Nat) : Int) := by simp
              rw [e]
              exact wraps_u64 _ (by omega) (by omega)
            have hor : bits .or .u64 (mk : Int) ((2 : Int) ^ i) = (q : Int) := by
              rw [← hq, ← or_pow mk i hlt hml]
              congr 1
            rw [hq] at Hmk
            have hn1q : n0 ≤ wq.drew.heap.size := Nat.le_trans hn1 hbz
            clear hSL hq hml
            go_wp2_with fail
            refine Calls.mono (hsm wq.drew hIq hn1q) ?_
            rintro e w2 ⟨rfl, hI2, hO2⟩
            have hown2 := hownq.onlyT hO2 (fun j hj hF => by have h1 := (hownq.lt j hj).1; have h2 := HFw.out j hF; omega)
            have hO12 := hOq.trans hO2
            have hz12 := hO12.size
            clear hownq hOq hO2 hIq hbz
            go_wp2_with (first
              | (change wpList _ _ _ _ _ (w2.alloc (.cells (Lib.byteCells zeros).toArray 24)); refine wpList_store_row rfl _ _ _ rfl w2.heap.size SL.toArray rfl rfl 24 (Lib.byteCells zeros).toArray (heap_alloc_new w2 _) HSi.out HSs.out HS1.out ?_; obtain ⟨w3, hw3⟩ : ∃ x, x = (w2.alloc (.cells (Lib.byteCells zeros).toArray 24)).setRow w2.heap.size SL.toArray := ⟨_, rfl⟩; rw [← hw3]; obtain ⟨hX3, hb3⟩ := alloc_row w2 24 (Lib.byteCells zeros).toArray SL; rw [← hw3] at hX3 hb3; clear hw3; have hown3 := hown2.below hb3 (fun j hj => (hown2.lt j hj).2); have hbs3 : Bs w3 w3.heap.size (some ⟨w2.heap.size, 0, none⟩) (dg i) := (by rw [HSL.out] at hX3; exact Arr.bsT hX3); have hz3 : w1.heap.size ≤ w3.heap.size := Nat.le_trans hz12 hb3.size)
              | (at_builtin; refine wpList_append_bs rfl _ _ 38 rfl w1.heap.size 5 i0 (.int .u8 0) Tryz.underlying38 hi hz0 hz1 hz2 rfl _ D rfl hown3 w3.heap.size (some ⟨w2.heap.size, 0, none⟩) 32 32 (dg i) rfl (hdg i) hbs3 (by omega) hz3 ?_))
            intro v4 w4 hown4 hg4
            have hb4 : Below w1.heap.size w3 w4 := hg4.below hz3 (fun j hj => (hown3.lt j hj).1)
            have hb24 : Below w1.heap.size w2 w4 := (hb3.mono hz12).trans hb4
            have hI4 : I w4 := HIf.out w2 w4 hI2 ⟨hb24.os, hb24.tape, hb24.output, hb24.size, fun j hj hn => hb24.block j (by omega)⟩
            have hO4 : Only F w1 w4 := hO12.low hb24
            rw [← Hdk.out] at hown4
            clear hX3 hb3 hbs3 hown3 hown2 hg4 hb4 hb24 hI2 hO12 hz3 hz12
            go_wp2_with fail
            case roundEnd => exact ⟨⟨i + 1, by omega, by simp, by rw [Hmk.out], hown4, hI4, hO4⟩, by simp [intOf]; omega⟩
        · obtain rfl : i = 16 := by omega
          have hd2 : decide (((16 : Nat) : Int) < (16 : Int)) = false := by simp
          obtain ⟨M, hM⟩ : ∃ x, maskK ps 16 = x := ⟨_, rfl⟩
          obtain ⟨D, hD⟩ : ∃ x, digK ps dg 16 = x := ⟨_, rfl⟩
          have hMl : M < 18446744073709551616 := by rw [hM] at hml; have : (2 : Nat) ^ 16 = 65536 := rfl; omega
          rw [hD] at hown hdl
          have hR63 : Bs wq w1.heap.size A6 R := h63.onlyT hO (fun a ea _ hF => by have h1 := HA6.out a ea; have h2 := HFw.out _ hF; omega) (Nat.le_refl _)
          obtain ⟨A7, c7, rfl, h71, h72, h73⟩ := hown.slice
          obtain ⟨nD, hnD⟩ : ∃ x, D.length = x := ⟨_, rfl⟩
          rw [hnD] at h71 hdl
          have hR1q : Bs wq wq.heap.size A6 R := hR63.more hbz
          have Hm := Lib.hid hM
          have Hd := Lib.hid hD
          have HnD := Lib.hid hnD
          rw [hM, hnD]
          clear hml hM hD hnD hown hR63
          go_wp2_with fail
          go_at_call 56
          refine Calls.mono (number_nil 1 (by omega) (by omega) _) ?_
          rintro e w2 ⟨A2, c2, rfl, hown2, hb2⟩
          have hu0 : Lib.uvarint (1 : Int).toNat = [1] := by decide +kernel
          rw [hu0] at hown2
          have hR2 : Bs w2 wq.heap.size A6 R := hR1q.below hb2 (Nat.le_refl _)
          have hD2 : Bs w2 wq.heap.size A7 D := h73.below hb2 (Nat.le_refl _)
          have hz2' := hb2.size
          have hul : (Lib.uvarint (1 : Int).toNat).length = 1 := by rw [hu0]; rfl
          rw [hul]
          have hown2' : Owns w2 wq.heap.size 5 (.slice A2 1 c2) [1] := hown2
          clear hown2 hul hu0 h73 hR1q
          dsimp only
          go_wp2_with fail
          go_at_call 48
          have hby := bytes_any wq.heap.size (.slice A2 1 c2) [1] R A6 c6 w2 hown2' hz2' hR2 (by rw [HM.out]; exact h61) (by rw [HM.out]; simp; omega)
          rw [HM.out] at hby
          refine Calls.mono hby ?_
          rintro e w3 ⟨v3, rfl, hown3, hg3⟩
          have hb3 : Below wq.heap.size w2 w3 := hg3.below hz2' (fun k hk => (hown2'.lt k hk).1)
          have hD3 := hD2.below hb3 (Nat.le_refl _)
          have hB3 := hb2.trans hb3
          have hz3 := Nat.le_trans hz2' hb3.size
          have hu64 := Lib.uvarint_length64 (x := m0) (by omega)
          have hMR := HM.out
          have hl3 : ([1] ++ (Lib.uvarint m0 ++ R)).length ≤ 200 := by simp only [List.length_append, List.length_cons, List.length_nil, hMR]; omega
          obtain ⟨Y3, hY3⟩ : ∃ Y, [1] ++ (Lib.uvarint m0 ++ R) = Y := ⟨_, rfl⟩
          have HY3 := Lib.hid hY3
          have hown3 : Owns w3 wq.heap.size 5 v3 ([1] ++ (Lib.uvarint m0 ++ R)) := hown3
          rw [hY3] at hown3 hl3
          clear hby hg3 hb3 hown2' hR2 hD2 hb2 hu64 hMR hY3
          dsimp only
          go_wp2_with fail
          go_at_call 56
          refine Calls.mono (number_any wq.heap.size M hMl v3 Y3 w3 hown3 hz3 (by omega)) ?_
          rintro e w4 ⟨v4, rfl, hown4, hg4⟩
          have hb4 : Below wq.heap.size w3 w4 := hg4.below hz3 (fun k hk => (hown3.lt k hk).1)
          have hD4 := hD3.below hb4 (Nat.le_refl _)
          have hB4 := hB3.trans hb4
          have hz4 := Nat.le_trans hz3 hb4.size
          have hu64 := Lib.uvarint_length64 (x := M) hMl
          have hl4 : (Y3 ++ Lib.uvarint M).length ≤ 300 := by rw [List.length_append]; omega
          clear hg4 hb4 hown3 hD3 hB3
          dsimp only
          go_wp2_with (at_builtin; refine wpList_append_bs rfl _ _ 38 rfl wq.heap.size 5 i0 (.int .u8 0) Tryz.underlying38 hi hz0 hz1 hz2 rfl v4 (Y3 ++ Lib.uvarint M) rfl hown4 wq.heap.size A7 nD c7 D rfl HnD.out hD4 (by omega) hz4 ?_)
          intro v5 w5 hown5 hg5
          have hb5 : Below wq.heap.size w4 w5 := hg5.below hz4 (fun k hk => (hown4.lt k hk).1)
          have hB5 := hB4.trans hb5
          have hI5 : I w5 := HIf.out wq w5 hIr ⟨hB5.os, hB5.tape, hB5.output, hB5.size, fun j hj hn => hB5.block j (by omega)⟩
          have hO5 : Only F w w5 := hO1.trans (hO.low (hB5.mono hbz))
          have hfin := hown5.base (Nat.le_trans hB0 hbz)
          clear hown4 hown5 hg5 hb5 hB4 hB5
          go_wp2_with fail
          go_ret
          refine ⟨v5, rfl, ?_, hI5, hO5⟩
          rw [HR.out]
          unfold bytB
          rw [HM.out]
          rw [← HY3.out, ← Hm.out, ← Hd.out] at hfin
          simpa only [List.append_assoc, List.cons_append, List.nil_append] using hfin

end Go.Proofs.YtblgmnjegkfoaaaGreat

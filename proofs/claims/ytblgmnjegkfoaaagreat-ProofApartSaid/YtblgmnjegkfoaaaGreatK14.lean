/-
  R8Bytes R8Leaf R8Node R8Root R8Prove FindMath: texts on the way to the laws, as one.
-/
import Derived.Test.YtblgmnjegkfoaaaGreatK13
import Derived.Test.YtblgmnjegkfoaaaGreatK12
import Derived.Deep.DeepCutAuto
import Derived.Deep.CutBlock
import Derived.Deep.RegionHeld3
import Derived.IntWalk
import Derived.Test.YtblgmnjegkfoaaaGreatK05
set_option maxRecDepth 100000
namespace Go.Proofs.YtblgmnjegkfoaaaGreat
open Go.RowKit
set_option linter.unusedVariables false
set_option linter.unusedSimpArgs false

set_option maxHeartbeats 4000000 in
set_option maxRecDepth 100000 in
theorem rbytes_gen (B : Nat) (sv : Value) (out bs : List UInt8) (A : Option Addr) (n c : Nat) (w : World) (hown : Owns w B 5 sv out) (hB : B ≤ w.heap.size) (hb : Bs w w.heap.size A bs) (hn : bs.length = n) (hap : ∀ a : Addr, A = some a → 0 < n → sv.ownBlock ≠ some a.block)
    (hlim : out.length + n + 20 ≤ 140737488355328) :
    Calls Tryz.prog 45 #[sv, .slice A n c] w (RefPost B sv (out ++ bytB bs) w) := by
  obtain ⟨i0, hi, hz0, hz1, hz2⟩ := info_parts byteInfo
  have hk2 := Lib.uvarint_length64 (x := n) (by omega)
  have Hn := Lib.hid hn
  have Hbb : Hid (bytB bs = Lib.uvarint n ++ bs) := by show _ = _; unfold bytB; rw [hn]
  have Hown := Lib.hid hown
  clear hn hown
  go_enter Tryz.func45, Tryz.ntmps45
  go_wp2_with fail
  refine (rnumber_any B n (by omega) sv out w Hown.out hB (by omega)).mono ?_
  rintro e w1 ⟨v1, rfl, hown1, hg1⟩
  have hB1 := Nat.le_trans hB hg1.1.size
  have hb1 : Bs w1 w.heap.size A bs := fun hp => by
    obtain ⟨b, off, e, hlt, hc⟩ := hb hp
    refine ⟨b, off, e, hlt, fun j hj => ?_⟩
    rw [← hc j hj]
    exact World.cell?_of_block (hg1.1.block b hlt (fun e2 => hap _ e (by have := Hn.out; omega) e2.symm))
  have hln : (out ++ Lib.uvarint n).length + n ≤ 140737488355328 := by rw [List.length_append]; omega
  dsimp only
  go_wp2_with (at_builtin; refine wpList_append_bs rfl _ _ 38 rfl B 5 i0 (.int .u8 0) Tryz.underlying38 hi hz0 hz1 hz2 rfl v1 (out ++ Lib.uvarint n) rfl hown1 w.heap.size A n c bs rfl Hn.out hb1 hln hB1 ?_)
  intro v' w2 hown' hgrow
  go_wp2
  go_ret
  refine ⟨v', rfl, ?_, hg1.trans hgrow⟩
  rw [Hbb.out]
  first | exact hown' | (rw [← List.append_assoc]; exact hown')

theorem map_part (xs : List Itm) (t m : Nat) : (partI xs t m).map Itm.it = subF (xs.map Itm.it) t m := by
  unfold partI subF
  rw [List.filter_map]
  rfl
theorem part_mem {xs : List Itm} {t m : Nat} {x : Itm} (h : x ∈ partI xs t m) : x ∈ xs ∧ nibF x.key t = m := by simpa [partI] using h
/-- The keys of a part agree one place more. -/
theorem part_agree {l : List It} {s m : Nat} (h : ∀ i, i < s → agreeF l i = true) : ∀ i, i < s + 1 → agreeF (subF l s m) i = true := by
  intro i hi
  rw [agreeF_iff]
  intro x hx y hy
  obtain ⟨hx1, hx2⟩ := mem_subF.1 hx
  obtain ⟨hy1, hy2⟩ := mem_subF.1 hy
  by_cases e : i = s
  · rw [e, hx2, hy2]
  · exact agreeF_iff.1 (h i (by omega)) x hx1 y hy1
theorem shared_agree {l : List It} {t : Nat} (h : ∀ i, i < t → agreeF l i = true) : ∀ i, i < sharedF l t → agreeF l i = true := by
  intro i hi
  by_cases hit : i < t
  · exact h i hit
  · exact sharedF_in (by omega) hi

/-- The digests of the first n parts. -/
def kidsB (f : Nat) (l : List It) (s n : Nat) : List UInt8 := (List.range n).flatMap fun m => if subF l s m = [] then [] else shaF (tagF 4 [nodeF f (subF l s m) (s + 1)])
theorem kidsB_succ (f : Nat) (l : List It) (s n : Nat) : kidsB f l s (n + 1) = kidsB f l s n ++ if subF l s n = [] then [] else shaF (tagF 4 [nodeF f (subF l s n) (s + 1)]) := by
  unfold kidsB
  rw [List.range_succ, List.flatMap_append]
  simp
theorem kidsB_len (f : Nat) (l : List It) (s n : Nat) : (kidsB f l s n).length ≤ 32 * n := by
  induction n with
  | zero => simp [kidsB]
  | succ n ih =>
    rw [kidsB_succ, List.length_append]
    split
    · simp; omega
    · rw [shaF_length]; omega
theorem maskF_lt (l : List It) (s n : Nat) : maskF l s n < 2 ^ n := by
  induction n with
  | zero => simp [maskF]
  | succ n ih =>
    unfold maskF
    split
    · rw [Nat.pow_succ]; omega
    · rw [Nat.pow_succ]; omega
theorem maskF_succ (l : List It) (s n : Nat) : maskF l s (n + 1) = maskF l s n + if subF l s n = [] then 0 else 2 ^ n := rfl
theorem nodeF_one (f : Nat) (x : It) (t : Nat) : nodeF (f + 1) [x] t = [0] ++ bytB (restF x.1 t 64) ++ bytB x.2 := rfl
theorem nodeF_two (f : Nat) (l : List It) (t : Nat) (h : 2 ≤ l.length) : nodeF (f + 1) l t = [1] ++ bytB (restF (l.headD ([], [])).1 t (sharedF l t)) ++ Lib.uvarint (maskF l (sharedF l t) 16) ++ kidsB f l (sharedF l t) 16 := by
  match l, h with
  | x :: y :: r, _ => rfl
theorem bytB_len (b : List UInt8) (h : b.length < 18446744073709551616) : (bytB b).length ≤ b.length + 10 := by
  unfold bytB
  have := Lib.uvarint_length64 (x := b.length) h
  rw [List.length_append]
  omega
theorem nodeF_len (f : Nat) (l : List It) (t : Nat) (hv : ∀ x ∈ l, x.2.length ≤ 1000) (ht : t ≤ 64) (hl : 0 < l.length) : (nodeF f l t).length ≤ 1900 := by
  cases f with
  | zero => simp [nodeF]
  | succ f =>
    rcases Nat.lt_or_ge l.length 2 with h | h
    · match l, hl, h, hv with
      | [x], _, _, hv =>
        have h1 := hv x (by simp)
        have h2 := restF_length x.1 t 64
        have h3 := bytB_len (restF x.1 t 64) (by omega)
        have h4 := bytB_len x.2 (by omega)
        rw [nodeF_one]
        simp only [List.length_append, List.length_cons, List.length_nil]
        omega
    · rw [nodeF_two f l t h]
      have h2 := restF_length (l.headD ([], [])).1 t (sharedF l t)
      have h5 := sharedF_le l ht
      have h3 := bytB_len (restF (l.headD ([], [])).1 t (sharedF l t)) (by omega)
      have h6 := maskF_lt l (sharedF l t) 16
      have h4 := Lib.uvarint_length64 (x := maskF l (sharedF l t) 16) (by omega)
      have h7 := kidsB_len f l (sharedF l t) 16
      simp only [List.length_append, List.length_cons, List.length_nil]
      omega

end Go.Proofs.YtblgmnjegkfoaaaGreat

namespace Go.Proofs.YtblgmnjegkfoaaaGreat
open Go.RowKit
set_option linter.unusedVariables false
set_option linter.unusedSimpArgs false

/-- What Node gives, with so much fuel. -/
def NodesI (f : Nat) : Prop := ∀ (xs : List Itm) (t : Nat) (A : Option Addr) (n c : Nat) (w : World), xs.length = n → 0 < n → n ≤ c → n ≤ 1000 → Good (xs.map Itm.it) → (∀ i, i < t → agreeF (xs.map Itm.it) i = true) → t ≤ 64 → 65 - t ≤ f → (∀ x ∈ xs, x.val.length ≤ 1000) → ItsOk w w.heap.size xs → ItsAt w A xs →
    Calls Tryz.prog 29 #[.slice A n c, .int .i64 (t : Nat)] w fun e w' => ∃ v, e = .returned v ∧ Owns w' w.heap.size 5 v (nodeF f (xs.map Itm.it) t) ∧ Below w.heap.size w w'
theorem own_one (w : World) (B : Nat) (hB : B ≤ w.heap.size) (x : UInt8) (z : Int) (hz : z = (x.toNat : Nat)) : Owns (w.alloc (.cells #[.int .u8 z] 5)) B 5 (.slice (some ⟨w.heap.size, 0, none⟩) 1 1) [x] := by
  subst hz
  have h := Owns.of_row (w := w.alloc (.cells #[.int .u8 (x.toNat : Nat)] 5)) (B := B) (T := 5) (g := w.heap.size) (c := 1) (l := [x]) (cur := [.int .u8 (x.toNat : Nat)]) hB (Nat.le_refl _) (by unfold maxLen; omega) (heap_alloc_new w _) rfl rfl
  exact h
theorem Below.dI {B : Nat} {w w' : World} {n : Nat} (h : Below B (w.drewN n) w') : Below B w w' := ⟨h.os, h.tape, h.output, h.size, h.block⟩

set_option maxHeartbeats 8000000 in
set_option maxRecDepth 100000 in
theorem node_leafI (x : Itm) (t : Nat) (A : Option Addr) (n c : Nat) (hn1 : n = 1) (w : World) (hc : n ≤ c) (ht : t ≤ 64) (hv : x.val.length ≤ 1000) (hok : ItOk w w.heap.size x) (hIt : ItsAt w A [x]) :
    Calls Tryz.prog 29 #[.slice A n c, .int .i64 (t : Nat)] w fun e w' => ∃ v, e = .returned v ∧ Owns w' w.heap.size 5 v ([0] ++ bytB (restF x.key t 64) ++ bytB x.val) ∧ Below w.heap.size w w' := by
  obtain ⟨b, off, rfl, hbl, hrow⟩ := hIt (by simp)
  obtain ⟨hxk, hrg⟩ := hrow 0 x rfl
  rw [Nat.zero_mul, Nat.add_zero] at hrg
  have hrg0 : w.rangeAt b (off + 0 * 33) (itC x) := by rw [Nat.zero_mul, Nat.add_zero]; exact hrg
  obtain ⟨YL, hYL⟩ : ∃ YL, YL = Lib.byteCells x.key := ⟨_, rfl⟩
  obtain ⟨Av, hAv⟩ : ∃ a, x.adr = a := ⟨_, rfl⟩
  obtain ⟨nv, hnv⟩ : ∃ a, x.val.length = a := ⟨_, rfl⟩
  obtain ⟨cv, hcv⟩ : ∃ a, x.cap = a := ⟨_, rfl⟩
  have Hrk : Hid (∀ w', Below w.heap.size w w' → w'.rangeAt b off YL) := fun w' hb => by
    have h := ItsAt.key hrg0 YL hYL
    rw [Nat.zero_mul, Nat.add_zero] at h
    intro j v hj
    rw [← h j v hj]
    exact World.cell?_of_block (hb.block b hbl)
  have Hcv : Hid (∀ w', Below w.heap.size w w' → w'.cell? ⟨b, off + 32, none⟩ = some (.slice Av nv cv)) := fun w' hb => by
    have h := ItsAt.val hxk hrg0
    rw [Nat.zero_mul, Nat.add_zero, hAv, hnv, hcv] at h
    rw [← h]
    exact World.cell?_of_block (hb.block b hbl)
  have HYi := Lib.hid (show (Tryz.prog.info? 24).map (·.size) = some YL.length by rw [hYL, Lib.byteCells_length, hxk]; kernel_rfl)
  have hvb : Bs w w.heap.size Av x.val := by rw [← hAv]; exact hok.bs
  have Hvb := Lib.hid hvb
  have HYL := Lib.hid hYL
  have Hxk := Lib.hid hxk
  have Hnv := Lib.hid hnv
  have Hrl := Lib.hid (restF_length x.key t 64)
  rw [hnv] at hv
  have hd1 : ((n : Int) == 1) = true := by rw [beq_iff_eq]; omega
  clear hIt hrow hrg hrg0 hok hYL hAv hnv hcv hvb hxk
  go_enter Tryz.func29, Tryz.ntmps29
  go_upto_region 2 with fail
  refine wp_region_held_drew (S := fun w' => Below w.heap.size w w') (by kernel_rfl) (Below.dN (Below.refl _ w) 1) (fun hHeld => ?_)
  refine anyH_take (i := 1) (v := .slice (some ⟨b, off, none⟩) n c) (some 17) rfl rfl (by kernel_rfl) (by kernel_rfl) (by kernel_rfl) (fun _ _ _ h => h) (Or.inl ⟨by rfl, fun w' hw => by go_simp⟩) (by assumption) ?_
  simp only [Act.put, List.setIfInBounds_toArray, List.set_cons_zero, List.set_cons_succ]
  refine anyH_take (i := 2) (v := .pointer (some ⟨b, off, none⟩)) (some 18) rfl rfl (by kernel_rfl) (by kernel_rfl) (by kernel_rfl) (fun _ _ _ h => h) (Or.inl ⟨by rfl, fun w' hw => by (go_simp; try (intro h; omega))⟩) (by assumption) ?_
  simp only [Act.put, List.setIfInBounds_toArray, List.set_cons_zero, List.set_cons_succ]
  refine anyH_take (i := 3) (v := .pointer (some ⟨b, off, none⟩)) (some 19) rfl rfl (by kernel_rfl) (by kernel_rfl) (by kernel_rfl) (fun _ _ _ h => h) (Or.inl ⟨by rfl, fun w' hw => by go_simp⟩) (by assumption) ?_
  simp only [Act.put, List.setIfInBounds_toArray, List.set_cons_zero, List.set_cons_succ]
  refine anyH_take (i := 4) (some 20) rfl rfl (by kernel_rfl) (by kernel_rfl) (by kernel_rfl) (fun _ _ _ h => h) (yieldsIf_load_mid (by rfl) 24 (.tmp 19) rfl b off rfl YL _ (fun w' h => Hrk.out w' h) Tryz.underlying24 rfl HYi.out) (by assumption) ?_
  simp only [Act.put, List.setIfInBounds_toArray, List.set_cons_zero, List.set_cons_succ]
  refine anyH_take (i := 5) (v := .int .i64 (t : Nat)) (some 21) rfl rfl (by kernel_rfl) (by kernel_rfl) (by kernel_rfl) (fun _ _ _ h => h) (Or.inl ⟨by rfl, fun w' hw => by go_simp⟩) (by assumption) ?_
  simp only [Act.put, List.setIfInBounds_toArray, List.set_cons_zero, List.set_cons_succ]
  refine anyH_take (i := 8) (v := .slice (some ⟨b, off, none⟩) n c) (some 24) rfl rfl (by kernel_rfl) (by kernel_rfl) (by kernel_rfl) (fun _ _ _ h => h) (Or.inl ⟨by rfl, fun w' hw => by go_simp⟩) (by assumption) ?_
  simp only [Act.put, List.setIfInBounds_toArray, List.set_cons_zero, List.set_cons_succ]
  refine anyH_take (i := 9) (v := .pointer (some ⟨b, off, none⟩)) (some 25) rfl rfl (by kernel_rfl) (by kernel_rfl) (by kernel_rfl) (fun _ _ _ h => h) (Or.inl ⟨by rfl, fun w' hw => by (go_simp; try (intro h; omega))⟩) (by assumption) ?_
  simp only [Act.put, List.setIfInBounds_toArray, List.set_cons_zero, List.set_cons_succ]
  refine anyH_take (i := 10) (v := .pointer (some ⟨b, off + 32, none⟩)) (some 26) rfl rfl (by kernel_rfl) (by kernel_rfl) (by kernel_rfl) (fun _ _ _ h => h) (Or.inl ⟨by rfl, fun w' hw => by go_simp⟩) (by assumption) ?_
  simp only [Act.put, List.setIfInBounds_toArray, List.set_cons_zero, List.set_cons_succ]
  refine anyH_take (i := 11) (v := .slice Av nv cv) (some 27) rfl rfl (by kernel_rfl) (by kernel_rfl) (by kernel_rfl) (fun _ _ _ h => h) (Or.inl ⟨by rfl, fun w' hw => by (have hc := Hcv.out w' hw; go_simp)⟩) (by assumption) ?_
  simp only [Act.put, List.setIfInBounds_toArray, List.set_cons_zero, List.set_cons_succ]
  refine wpAnyH_ready (rs := [0, 6]) (by kernel_rfl) (by simp) ?_
  refine AllReadyH.cons rfl (fun K hK => ?_) (AllReadyH.cons rfl (fun K hK => ?_) AllReadyH.nil)
  · go_simp
    obtain ⟨g0, hg0⟩ : ∃ g, g = w.heap.size := ⟨_, rfl⟩
    obtain ⟨w1, hw1⟩ : ∃ W, W = (w.drewN 1).alloc (.cells #[.int .u8 0] 5) := ⟨_, rfl⟩
    have hown0 : Owns w1 w.heap.size 5 (.slice (some ⟨g0, 0, none⟩) 1 1) [0] := by rw [hw1, hg0]; exact own_one (w.drewN 1) w.heap.size (Nat.le_refl _) 0 0 rfl
    have hb1 : Below w.heap.size w w1 := by rw [hw1]; exact (Below.dN (Below.refl _ w) 1).alloc (Nat.le_refl _) _
    have hgs : g0 < w1.heap.size := by rw [hw1, hg0]; simp
    have Hg0 := Lib.hid hg0
    have Hw1 := Lib.hid hw1
    clear hw1 hg0
    rw [← Hg0.out]
    change K _ ((w.drewN 1).alloc (.cells #[.int .u8 0] 5))
    rw [← Hw1.out]
    refine hK.out _ _ hb1 (fun hHeldx => ?_)
    clear hK K
    try simp only [Act.put, List.setIfInBounds_toArray, List.set_cons_zero, List.set_cons_succ]
    refine wpAnyH_ready (rs := [6]) (by kernel_rfl) (by simp) ?_
    refine AllReadyH.cons rfl (fun K hK => ?_) AllReadyH.nil
    go_simp
    go_at_call 33
    refine Calls.mono (rest_run x.key Hxk.out YL HYL.out t 64 ht (Nat.le_refl _) w1) ?_
    rintro e wz ⟨vR, rfl, hownR, hbR⟩
    have hown0 := hown0.below hbR (fun k hk => (hown0.lt k hk).2)
    have hbz : Below w.heap.size w wz := hb1.trans (hbR.mono hb1.size)
    have hsep : g0 < w1.heap.size := hgs
    obtain ⟨AR, cR, rfl, hR1, hR2, hR3⟩ := hownR.slice
    have hap : ∀ a : Addr, AR = some a → 0 < 64 - t → (Value.slice (some ⟨g0, 0, none⟩) 1 1).ownBlock ≠ some a.block := fun a ea _ e => by
      have h1 := hownR.lt a.block (by rw [ea]; rfl)
      simp only [Value.ownBlock, Option.some.injEq] at e
      omega
    rw [Hrl.out] at hR1 ⊢
    clear hb1 hbR hgs hsep
    dsimp only
    go_wp2_with fail
    refine hK.out _ _ hbz (fun hHeldx => ?_)
    clear hK K
    try simp only [Act.put, List.setIfInBounds_toArray, List.set_cons_zero, List.set_cons_succ]
    refine wpAnyH_ready (rs := [7]) (by kernel_rfl) (by simp) ?_
    refine AllReadyH.cons rfl (fun K hK => ?_) AllReadyH.nil
    go_simp
    go_at_call 45
    refine Calls.mono (rbytes_gen w.heap.size _ [0] (restF x.key t 64) AR (64 - t) cR wz hown0 hbz.size hR3 Hrl.out hap (by simp; omega)) ?_
    rintro e w4 ⟨v1, rfl, hown1, hg1⟩
    have hb4 : Below w.heap.size w w4 := hbz.trans (hg1.below hbz.size (fun k hk => (hown0.lt k hk).1))
    clear hownR hR1 hR2 hR3 hap hown0 hg1 hbz
    dsimp only
    go_wp2_with fail
    refine hK.out _ _ hb4 (fun hHeldx => ?_)
    clear hK K
    try simp only [Act.put, List.setIfInBounds_toArray, List.set_cons_zero, List.set_cons_succ]
    refine wpAnyH_ready (rs := [12]) (by kernel_rfl) (by simp) ?_
    refine AllReadyH.cons rfl (fun K hK => ?_) AllReadyH.nil
    go_simp
    go_at_call 45
    refine Calls.mono (rbytes_gen w.heap.size v1 _ x.val Av nv cv w4 hown1 hb4.size ((Hvb.out.below hb4 (Nat.le_refl _)).more hb4.size) Hnv.out (fun a ea h0 e => ?hap) (by have := bytB_len (restF x.key t 64) (by rw [Hrl.out]; omega); rw [Hrl.out] at this; simp only [List.length_append, List.length_cons, List.length_nil]; omega)) ?_
    case hap =>
      have h1 := (hown1.lt _ e).1
      obtain ⟨b', off', e2, hlt, _⟩ := Hvb.out (by rw [Hnv.out]; exact h0)
      rw [ea] at e2
      injection e2 with e2
      subst e2
      simp only at h1
      omega
    rintro e w5 ⟨v2, rfl, hown2, hg2⟩
    have hb5 : Below w.heap.size w w5 := hb4.trans (hg2.below hb4.size (fun k hk => (hown1.lt k hk).1))
    clear hown1 hg2 hb4
    dsimp only
    go_wp2_with fail
    refine hK.out _ _ hb5 (fun hHeldx => ?_)
    clear hK K
    try simp only [Act.put, List.setIfInBounds_toArray, List.set_cons_zero, List.set_cons_succ]
    refine anyH_take (i := 13) (v := v2) (some 4) rfl rfl (by kernel_rfl) (by kernel_rfl) (by kernel_rfl) (fun _ _ _ h => h) (Or.inl ⟨by rfl, fun w' hw => by go_simp⟩) (by assumption) ?_
    simp only [Act.put, List.setIfInBounds_toArray, List.set_cons_zero, List.set_cons_succ]
    refine wpAnyH_done (by kernel_rfl) ?_ _
    clear hHeld
    go_wp2_with fail
    go_ret
    exact ⟨_, rfl, hown2, hb5⟩
  · go_simp
    go_at_call 33
    refine Calls.mono (rest_run x.key Hxk.out YL HYL.out t 64 ht (Nat.le_refl _) (w.drewN 1)) ?_
    rintro e w1 ⟨vR, rfl, hownR, hbR⟩
    have hb1 : Below w.heap.size w w1 := Below.dI (n := 1) hbR
    dsimp only
    go_wp2_with fail
    refine hK.out _ _ hb1 (fun hHeldx => ?_)
    clear hK K
    try simp only [Act.put, List.setIfInBounds_toArray, List.set_cons_zero, List.set_cons_succ]
    refine wpAnyH_ready (rs := [0]) (by kernel_rfl) (by simp) ?_
    refine AllReadyH.cons rfl (fun K hK => ?_) AllReadyH.nil
    go_simp
    obtain ⟨g0, hg0⟩ : ∃ g, g = w1.heap.size := ⟨_, rfl⟩
    obtain ⟨wz, hwz⟩ : ∃ W, W = w1.alloc (.cells #[.int .u8 0] 5) := ⟨_, rfl⟩
    have hown0 : Owns wz w.heap.size 5 (.slice (some ⟨g0, 0, none⟩) 1 1) [0] := by rw [hwz, hg0]; exact own_one w1 w.heap.size hb1.size 0 0 rfl
    have hbz : Below w.heap.size w wz := by rw [hwz]; exact hb1.alloc hb1.size _
    have hlt1 := hownR.lt
    have hownR : Owns wz w.heap.size 5 vR (restF x.key t 64) := by rw [hwz]; exact hownR.below (B' := w1.heap.size) ((Below.refl _ w1).alloc (Nat.le_refl _) _) (fun k hk => (hlt1 k hk).2)
    have Hg0 := Lib.hid hg0
    have Hwz := Lib.hid hwz
    have hlt2 : ∀ k, vR.ownBlock = some k → k < g0 := fun k hk => by rw [hg0]; exact (hlt1 k hk).2
    clear hwz hg0 hlt1
    rw [← Hg0.out]
    change K _ (w1.alloc (.cells #[.int .u8 0] 5))
    rw [← Hwz.out]
    obtain ⟨AR, cR, rfl, hR1, hR2, hR3⟩ := hownR.slice
    have hap : ∀ a : Addr, AR = some a → 0 < 64 - t → (Value.slice (some ⟨g0, 0, none⟩) 1 1).ownBlock ≠ some a.block := fun a ea _ e => by
      have h1 := hlt2 a.block (by rw [ea]; rfl)
      simp only [Value.ownBlock, Option.some.injEq] at e
      omega
    rw [Hrl.out] at hR1 ⊢
    clear hb1 hbR hlt2
    refine hK.out _ _ hbz (fun hHeldx => ?_)
    clear hK K
    try simp only [Act.put, List.setIfInBounds_toArray, List.set_cons_zero, List.set_cons_succ]
    refine wpAnyH_ready (rs := [7]) (by kernel_rfl) (by simp) ?_
    refine AllReadyH.cons rfl (fun K hK => ?_) AllReadyH.nil
    go_simp
    go_at_call 45
    refine Calls.mono (rbytes_gen w.heap.size _ [0] (restF x.key t 64) AR (64 - t) cR wz hown0 hbz.size hR3 Hrl.out hap (by simp; omega)) ?_
    rintro e w4 ⟨v1, rfl, hown1, hg1⟩
    have hb4 : Below w.heap.size w w4 := hbz.trans (hg1.below hbz.size (fun k hk => (hown0.lt k hk).1))
    clear hownR hR1 hR2 hR3 hap hown0 hg1 hbz
    dsimp only
    go_wp2_with fail
    refine hK.out _ _ hb4 (fun hHeldx => ?_)
    clear hK K
    try simp only [Act.put, List.setIfInBounds_toArray, List.set_cons_zero, List.set_cons_succ]
    refine wpAnyH_ready (rs := [12]) (by kernel_rfl) (by simp) ?_
    refine AllReadyH.cons rfl (fun K hK => ?_) AllReadyH.nil
    go_simp
    go_at_call 45
    refine Calls.mono (rbytes_gen w.heap.size v1 _ x.val Av nv cv w4 hown1 hb4.size ((Hvb.out.below hb4 (Nat.le_refl _)).more hb4.size) Hnv.out (fun a ea h0 e => ?hap) (by have := bytB_len (restF x.key t 64) (by rw [Hrl.out]; omega); rw [Hrl.out] at this; simp only [List.length_append, List.length_cons, List.length_nil]; omega)) ?_
    case hap =>
      have h1 := (hown1.lt _ e).1
      obtain ⟨b', off', e2, hlt, _⟩ := Hvb.out (by rw [Hnv.out]; exact h0)
      rw [ea] at e2
      injection e2 with e2
      subst e2
      simp only at h1
      omega
    rintro e w5 ⟨v2, rfl, hown2, hg2⟩
    have hb5 : Below w.heap.size w w5 := hb4.trans (hg2.below hb4.size (fun k hk => (hown1.lt k hk).1))
    clear hown1 hg2 hb4
    dsimp only
    go_wp2_with fail
    refine hK.out _ _ hb5 (fun hHeldx => ?_)
    clear hK K
    try simp only [Act.put, List.setIfInBounds_toArray, List.set_cons_zero, List.set_cons_succ]
    refine anyH_take (i := 13) (v := v2) (some 4) rfl rfl (by kernel_rfl) (by kernel_rfl) (by kernel_rfl) (fun _ _ _ h => h) (Or.inl ⟨by rfl, fun w' hw => by go_simp⟩) (by assumption) ?_
    simp only [Act.put, List.setIfInBounds_toArray, List.set_cons_zero, List.set_cons_succ]
    refine wpAnyH_done (by kernel_rfl) ?_ _
    clear hHeld
    go_wp2_with fail
    go_ret
    exact ⟨_, rfl, hown2, hb5⟩

end Go.Proofs.YtblgmnjegkfoaaaGreat

namespace Go.Proofs.YtblgmnjegkfoaaaGreat
open Go.RowKit
set_option linter.unusedVariables false
set_option linter.unusedSimpArgs false

theorem rows_oneI {w : World} {B : Nat} {A : Option Addr} {l : List UInt8} {n c : Nat} (T : TypeId) (hn : l.length = n) (hc : n ≤ c) (hm : c ≤ maxLen) (h : Bs w B A l) (hB : B ≤ w.heap.size) :
    RowsAt (w.alloc (.cells #[.slice A n c] T)) (w.heap.size + 1) (some ⟨w.heap.size, 0, none⟩) [l] := fun _ => by
  subst hn
  have ha := Arr.new w T [.slice A l.length c]
  have hb : Below w.heap.size w (w.alloc (.cells #[.slice A l.length c] T)) := (Below.refl _ w).alloc (Nat.le_refl _) _
  refine ⟨w.heap.size, 0, rfl, by omega, fun i hi => ?_⟩
  have hi2 : i = 0 := by simp at hi; omega
  subst hi2
  exact ⟨A, c, ha.cell 0, hc, hm, (h.below hb hB).more (by omega)⟩
theorem Arr.bsI {w : World} {g : Nat} {T : TypeId} {l : List UInt8} {cs : List Value} (h : Arr w g T cs) (hc : cs = Lib.byteCells l) : Bs w w.heap.size (some ⟨g, 0, none⟩) l := fun hp => by
  refine ⟨g, 0, rfl, h.lt, fun j hj => ?_⟩
  rw [h.cell, hc, Nat.zero_add]
  exact byteCells_get hj
theorem tag_bound (b : List UInt8) (hb : b.length ≤ 2000) : (tagF 4 [b]).length ≤ 1000000 := by
  unfold tagF
  have := Lib.uvarint_length64 (x := b.length) (by omega)
  simp only [List.flatMap_cons, List.flatMap_nil, List.length_append, List.length_cons, List.length_nil]
  omega

set_option maxHeartbeats 16000000 in
set_option maxRecDepth 100000 in
theorem node_branchI (f : Nat) (hIH : NodesI f) (xs : List Itm) (t : Nat) (A : Option Addr) (n c : Nat) (w : World) (hn : xs.length = n) (h2 : 2 ≤ n) (hc : n ≤ c) (hm : n ≤ 1000) (hgood : Good (xs.map Itm.it)) (hag : ∀ i, i < t → agreeF (xs.map Itm.it) i = true) (ht : t ≤ 64) (hf : 65 - t ≤ f + 1) (hval : ∀ x ∈ xs, x.val.length ≤ 1000) (hok : ItsOk w w.heap.size xs) (hIt : ItsAt w A xs) :
    Calls Tryz.prog 29 #[.slice A n c, .int .i64 (t : Nat)] w fun e w' => ∃ v, e = .returned v ∧ Owns w' w.heap.size 5 v (nodeF (f + 1) (xs.map Itm.it) t) ∧ Below w.heap.size w w' := by
  obtain ⟨i0, hi, hz0, hz1, hz2⟩ := info_parts byteInfo
  obtain ⟨L, hL⟩ : ∃ L, xs.map Itm.it = L := ⟨_, rfl⟩
  rw [hL] at hgood hag ⊢
  have hLn : L.length = n := by rw [← hL, List.length_map, hn]
  obtain ⟨sh, hsh⟩ : ∃ sh, sharedF L t = sh := ⟨_, rfl⟩
  have hsh64 : sh < 64 := by rw [← hsh]; exact hgood.split (by omega) ht hag
  have hts : t ≤ sh := by rw [← hsh]; exact sharedF_ge L t
  have hshag : ∀ i, i < sh → agreeF L i = true := by rw [← hsh]; exact shared_agree hag
  obtain ⟨x0, hx0⟩ : ∃ x, xs[0]? = some x := ⟨xs[0]'(by omega), List.getElem?_eq_getElem _⟩
  obtain ⟨b, off, rfl, hbl, hrow⟩ := hIt (by omega)
  obtain ⟨hxk, hrg⟩ := hrow 0 x0 hx0
  obtain ⟨YL, hYL⟩ : ∃ YL, YL = Lib.byteCells x0.key := ⟨_, rfl⟩
  have Hrk : Hid (∀ w', Below w.heap.size w w' → w'.rangeAt b off YL) := fun w' hb => by
    have h := ItsAt.key hrg YL hYL
    rw [Nat.zero_mul, Nat.add_zero] at h
    intro j v hj
    rw [← h j v hj]
    exact World.cell?_of_block (hb.block b hbl)
  have HYi := Lib.hid (show (Tryz.prog.info? 24).map (·.size) = some YL.length by rw [hYL, Lib.byteCells_length, hxk]; kernel_rfl)
  have hhead : (L.headD ([], [])).1 = x0.key := by
    rw [← hL]
    cases xs with
    | nil => simp at hx0
    | cons y ys => simp at hx0; subst hx0; rfl
  obtain ⟨R0, hR0⟩ : ∃ R, restF x0.key t sh = R := ⟨_, rfl⟩
  have hRl : R0.length = sh - t := by rw [← hR0]; exact restF_length _ _ _
  have Hfin : Hid (nodeF (f + 1) L t = [1] ++ bytB R0 ++ Lib.uvarint (maskF L sh 16) ++ kidsB f L sh 16) := by
    show _ = _
    rw [nodeF_two f L t (by omega), hsh, hhead, hR0]
  have HIt := Lib.hid hIt
  have Hok := Lib.hid hok
  have Hval := Lib.hid hval
  have Hgood := Lib.hid hgood
  have Hshag := Lib.hid hshag
  have HL := Lib.hid hL
  have Hn := Lib.hid hn
  have Hsh : Hid (sharedI xs t = sh) := by show sharedF (xs.map Itm.it) t = sh; rw [hL, hsh]
  have HYL := Lib.hid hYL
  have Hxk := Lib.hid hxk
  have HR0 := Lib.hid hR0
  have HRl := Lib.hid hRl
  have hd1 : ((n : Int) == 1) = false := by rw [beq_eq_false_iff_ne]; omega
  have hn0 : ¬ (n = 0) := by omega
  clear hIt hok hval hgood hag hshag hL hn hsh hYL hxk hR0 hRl hrow hrg hhead hx0 hLn
  go_enter Tryz.func29, Tryz.ntmps29
  go_wp2_with fail
  go_at_call 32
  refine Calls.mono (shared_run xs _ n c t w Hn.out (by omega) hc (by omega) ht HIt.out sh Hsh.out) ?_
  rintro e w1 ⟨rfl, hb1⟩
  have hbx : Below w.heap.size w (w1.alloc (.cells #[.int .u8 1] 5)) := hb1.alloc hb1.size _
  have hrk := Hrk.out _ hbx
  have hown0 := own_one w1 w.heap.size hb1.size 1 1 rfl
  have hbx1 : Below w1.heap.size w1 (w1.alloc (.cells #[.int .u8 1] 5)) := (Below.refl _ w1).alloc (Nat.le_refl _) _
  dsimp only
  go_wp2_with (refine wpList_load_mid rfl _ _ rfl b off rfl YL _ hrk Tryz.underlying24 rfl HYi.out ?_)
  go_at_call 33
  refine Calls.mono (rest_run x0.key Hxk.out YL HYL.out t sh hts (Nat.le_of_lt hsh64) _) ?_
  rintro e w3 ⟨vR, rfl, hownR, hbR⟩
  rw [HR0.out] at hownR
  have hown3 := hown0.below hbR (fun k hk => (hown0.lt k hk).2)
  have hb3 : Below w.heap.size w w3 := hbx.trans (hbR.mono hbx.size)
  obtain ⟨AR, cR, rfl, hR1, hR2, hR3⟩ := hownR.slice
  have hap : ∀ a : Addr, AR = some a → 0 < sh - t → (Value.slice (some ⟨w1.heap.size, 0, none⟩) 1 1).ownBlock ≠ some a.block := fun a ea _ e => by
    have h1 := (hownR.lt a.block (by rw [ea]; rfl)).1
    simp only [Value.ownBlock, Option.some.injEq] at e
    simp at h1
    omega
  rw [HRl.out] at hR1 ⊢
  clear hown0 hbR hbx hbx1 hrk hownR
  dsimp only
  go_wp2_with fail
  go_at_call 45
  refine Calls.mono (rbytes_gen w.heap.size _ [1] R0 AR (sh - t) cR w3 hown3 hb3.size hR3 HRl.out hap (by simp; omega)) ?_
  rintro e w4 ⟨v6, rfl, hown6, hg6⟩
  have hb4 : Below w.heap.size w w4 := hb3.trans (hg6.below hb3.size (fun k hk => (hown3.lt k hk).1))
  clear hown3 hb3 hR3 hR1 hR2 hap hg6 hb1
  dsimp only
  obtain ⟨W5, hW5⟩ : ∃ W, W = w4.alloc (.cells #[] 5) := ⟨_, rfl⟩
  have hO5 : Owns W5 w4.heap.size 5 (.slice (some ⟨w4.heap.size, 0, none⟩) 0 0) (kidsB f L sh 0) := by
    rw [hW5, show kidsB f L sh 0 = [] by simp [kidsB]]
    exact ⟨by simp [Lib.byteCells], .inr ⟨w4.heap.size, 0, #[], rfl, Nat.le_refl _, heap_alloc_new w4 _, Nat.le_refl _, by unfold maxLen; omega, by simp, by simp [Lib.byteCells]⟩⟩
  have hb45 : Below w4.heap.size w4 W5 := by rw [hW5]; exact (Below.refl _ w4).alloc (Nat.le_refl _) _
  have HW5 := Lib.hid hW5
  clear hW5
  go_upto_region 7 with fail
  change Code.wp _ _ _ _ (w4.alloc (.cells #[] 5))
  rw [← HW5.out]
  clear HW5
  go_upto_region 9 with fail
  go_loopw [7, 8, 9, 10] (fun mm dd bb s wr => ∃ j : Nat, j ≤ 16 ∧ s = .int .u8 j ∧ bb = .int .u64 (2 ^ j : Nat) ∧ mm = .int .u64 (maskF L sh j : Nat) ∧ Below w4.heap.size w4 wr ∧ Owns wr w4.heap.size 5 dd (kidsB f L sh j)) (fun _ _ _ s _ => 16 - (intOf s).toNat)
  case atStart => exact ⟨0, by omega, rfl, by rw [Nat.pow_zero]; rfl, rfl, hb45, hO5⟩
  case round =>
    clear hb45 hO5
    obtain ⟨j, hj16, rfl, rfl, rfl, hbr, hO⟩ := hrel
    obtain ⟨mj, hmj⟩ : ∃ m, maskF L sh j = m := ⟨_, rfl⟩
    have hmlt := maskF_lt L sh j
    rw [hmj] at hmlt ⊢
    have Hmj := Lib.hid hmj
    have hp2 : 2 ^ j ≤ 65536 := Nat.le_trans (Nat.pow_le_pow_right (by omega) hj16) (Nat.le_refl _)
    obtain ⟨bj, hbj⟩ : ∃ b, 2 ^ j = b := ⟨_, rfl⟩
    rw [hbj] at hp2 hmlt ⊢
    have Hbj := Lib.hid hbj
    clear hmj hbj
    by_cases hlt : j < 16
    · have hd2 : decide ((j : Int) < (16 : Int)) = true := by simp; omega
      have hw2 : IntKind.u64.wrap (2 * (bj : Int)) = ((2 * bj : Nat) : Int) := by rw [IntWalk.u64_in _ (by omega)]; omega
      obtain ⟨b2, hb2e⟩ : ∃ b2, 2 * bj = b2 := ⟨_, rfl⟩
      rw [hb2e] at hw2
      have Hb2 : Hid (b2 = 2 ^ (j + 1)) := by show _ = _; rw [← hb2e, ← Hbj.out, Nat.pow_succ]; omega
      have hbw : Below w.heap.size w wr := hb4.trans (hbr.mono hb4.size)
      have hItr := HIt.out.up hbw
      clear hb2e
      go_wp2_with fail
      go_at_call 34
      refine Calls.mono (part_run xs _ n c sh j wr Hn.out hc (by omega) hsh64 (by omega) hItr) ?_
      rintro e wa ⟨vp, rfl, hrowp, hbra⟩
      obtain ⟨Ap, cp, rfl, hp1, hp3, hItp⟩ := hrowp.slice
      obtain ⟨ps, hps⟩ : ∃ ps, partI xs sh j = ps := ⟨_, rfl⟩
      rw [hps] at hp1 hItp hrowp ⊢
      obtain ⟨np, hnp⟩ : ∃ np, ps.length = np := ⟨_, rfl⟩
      rw [hnp] at hp1 ⊢
      have hLp : ps.map Itm.it = subF L sh j := by rw [← hps, map_part, HL.out]
      have hnpn : np ≤ n := by rw [← hnp, ← hps, ← Hn.out]; exact partI_len _ _ _
      have hba : Below w4.heap.size w4 wa := hbr.trans (hbra.mono hbr.size)
      have hOa := hO.below hbra (fun k hk => (hO.lt k hk).2)
      have hbwa : Below w.heap.size w wa := hbw.trans (hbra.mono hbw.size)
      have Hps := Lib.hid hps
      have Hnp := Lib.hid hnp
      have HLp := Lib.hid hLp
      clear hps hnp hLp hO hbr hbra hItr hrowp hbw
      dsimp only
      by_cases h0 : np = 0
      · have hd3 : decide ((0 : Int) < (np : Int)) = false := by simp; omega
        have hsub : subF L sh j = [] := by rw [← HLp.out, List.eq_nil_of_length_eq_zero (by rw [Hnp.out]; exact h0 : ps.length = 0)]; rfl
        have hOn := hOa
        rw [show kidsB f L sh j = kidsB f L sh (j + 1) by rw [kidsB_succ, if_pos hsub, List.append_nil]] at hOn
        have Hm2 : Hid (maskF L sh (j + 1) = mj) := by show _ = _; rw [maskF_succ, if_pos hsub, Hmj.out]; rfl
        clear hOa hsub
        go_wp2_with fail
        go_roundw
        case rel => exact ⟨j + 1, by omega, by go_num, by rw [← Hb2.out], by rw [Hm2.out], hba, hOn⟩
        case measure => simp [intOf]; omega
      · have hd3 : decide ((0 : Int) < (np : Int)) = true := by simp; omega
        have hsub : subF L sh j ≠ [] := by rw [← HLp.out]; intro e; have := congrArg List.length e; simp at this; rw [this] at Hnp; have := Hnp.out; simp at this; omega
        obtain ⟨m2, hm2⟩ : ∃ m2, mj + bj = m2 := ⟨_, rfl⟩
        have hwm : IntKind.u64.wrap ((mj : Int) + (bj : Int)) = (m2 : Int) := by rw [IntWalk.u64_in _ (by omega)]; omega
        have Hm2 : Hid (maskF L sh (j + 1) = m2) := by show _ = _; rw [maskF_succ, if_neg hsub, Hmj.out, Hbj.out, hm2]
        obtain ⟨s1, hs1⟩ : ∃ s1, sh + 1 = s1 := ⟨_, rfl⟩
        have hws : IntKind.i64.wrap ((sh : Int) + 1) = (s1 : Int) := by rw [IntWalk.i64_in _ (by omega)]; omega
        obtain ⟨Y, hY⟩ : ∃ Y, nodeF f (subF L sh j) s1 = Y := ⟨_, rfl⟩
        have hpsm : ∀ y ∈ ps, y ∈ xs := fun y hy => by rw [← Hps.out] at hy; exact (part_mem hy).1
        have hih := hIH ps s1 Ap np cp wa Hnp.out (by omega) hp1 (by omega) (by rw [HLp.out]; exact Hgood.out.part sh j) (by rw [HLp.out, ← hs1]; exact part_agree Hshag.out) (by omega) (by omega) (fun y hy => Hval.out y (hpsm y hy)) (fun y hy => by have h := (Hok.out.below hbwa (Nat.le_refl _)) y (hpsm y hy); exact ⟨h.k32, h.le, h.lim, h.bs.more hbwa.size⟩) hItp
        rw [HLp.out, hY] at hih
        have hYl : Y.length ≤ 1900 := by
          rw [← hY]
          refine nodeF_len f _ s1 (fun y hy => ?_) (by omega) (by rw [← HLp.out, List.length_map, Hnp.out]; omega)
          rw [← HLp.out] at hy
          obtain ⟨z, hz, rfl⟩ := List.mem_map.1 hy
          exact Hval.out z (hpsm z hz)
        have Hih := Lib.hid hih
        have HYl := Lib.hid hYl
        obtain ⟨DL, hDL⟩ : ∃ DL, DL = Lib.byteCells (shaF (tagF 4 [Y])) := ⟨_, rfl⟩
        have hkn : kidsB f L sh (j + 1) = kidsB f L sh j ++ shaF (tagF 4 [Y]) := by rw [kidsB_succ, if_neg hsub, hs1, hY]
        have hDl : DL.length = 32 := by rw [hDL, Lib.byteCells_length]; exact shaF_length _
        have HDi := Lib.hid (show (Tryz.prog.info? 24).map (·.size) = some DL.toArray.size by rw [List.size_toArray, hDl]; kernel_rfl)
        have HD1 := Lib.hid (show DL.toArray.all (·.oneCell') = true by rw [hDL]; simpa using byteCells_one _)
        have HDz := Lib.hid (show (Lib.byteCells zeros).toArray.size = DL.toArray.size by rw [List.size_toArray, List.size_toArray, hDl, Lib.byteCells_length]; simp [zeros])
        have HDL := Lib.hid hDL
        have Hkn := Lib.hid hkn
        clear hm2 hs1 hY hih hYl hDL hkn hDl hsub hpsm hItp
        go_wp2_with fail
        go_at_call 29
        refine Calls.mono Hih.out ?_
        rintro e wb ⟨vN, rfl, hownN, hbab⟩
        obtain ⟨AN, cN, rfl, hN1, hN2, hN3⟩ := hownN.slice
        obtain ⟨nN, hnN⟩ : ∃ nN, Y.length = nN := ⟨_, rfl⟩
        rw [hnN] at hN1 ⊢
        have hrowY := (rows_oneI (w := wb) (B := wb.heap.size) 38 hnN hN1 hN2 hN3 (Nat.le_refl _)).more (Nat.le_of_eq (show wb.heap.size + 1 = (wb.alloc (.cells #[.slice AN nN cN] 38)).heap.size by simp))
        have hbb : Below w4.heap.size w4 (wb.alloc (.cells #[.slice AN nN cN] 38)) := (hba.trans (hbab.mono hba.size)).alloc (Nat.le_trans hba.size hbab.size) _
        have hOb := (hOa.below hbab (fun k hk => (hOa.lt k hk).2)).below ((Below.refl _ wb).alloc (Nat.le_refl _) (.cells #[.slice AN nN cN] 38)) (fun k hk => Nat.lt_of_lt_of_le (hOa.lt k hk).2 hbab.size)
        clear hownN hbab hN1 hN2 hN3 hnN hOa hba hbwa
        dsimp only
        go_wp2_with fail
        go_at_call 24
        refine Calls.mono (rtag_at 4 4 [Y] DL _ 1 1 _ rfl HDL.out rfl (by omega) hrowY (tag_bound Y (by have := HYl.out; omega))) ?_
        rintro e wc ⟨rfl, hbbc⟩
        have hbc : Below w4.heap.size w4 wc := hbb.trans (hbbc.mono hbb.size)
        have hOc := hOb.below hbbc (fun k hk => (hOb.lt k hk).2)
        clear hbb hbbc hOb hrowY
        obtain ⟨wd, hwd⟩ : ∃ W, W = (wc.alloc (.cells (Lib.byteCells zeros).toArray 24)).setRow wc.heap.size DL.toArray := ⟨_, rfl⟩
        obtain ⟨hDd, hbcd⟩ := alloc_row wc 24 (Lib.byteCells zeros).toArray DL
        rw [← hwd] at hDd hbcd
        have hbd : Below w4.heap.size w4 wd := hbc.trans (hbcd.mono hbc.size)
        have hOd := hOc.below hbcd (fun k hk => (hOc.lt k hk).2)
        have hDbs := hDd.bsI HDL.out
        have hDlen : (shaF (tagF 4 [Y])).length = 32 := shaF_length _
        have hkl : (kidsB f L sh j).length + 32 ≤ 140737488355328 := by have := kidsB_len f L sh j; omega
        have Hwd := Lib.hid hwd
        have Hkl := Lib.hid hkl
        have HDlen := Lib.hid hDlen
        clear hwd hbc hOc hbcd hDd hDlen hkl
        dsimp only
        go_wp2_with (first
          | (change wpList _ _ _ _ _ (wc.alloc (.cells (Lib.byteCells zeros).toArray 24)); refine wpList_store_row rfl _ _ _ rfl wc.heap.size DL.toArray rfl rfl 24 (Lib.byteCells zeros).toArray (heap_alloc_new wc _) HDi.out HDz.out HD1.out ?_; rw [← Hwd.out])
          | (at_builtin; refine wpList_append_bs rfl _ _ 38 rfl w4.heap.size 5 i0 (.int .u8 0) Tryz.underlying38 hi hz0 hz1 hz2 rfl _ (kidsB f L sh j) rfl hOd wd.heap.size (some ⟨wc.heap.size, 0, none⟩) 32 32 (shaF (tagF 4 [Y])) rfl HDlen.out hDbs Hkl.out hbd.size ?_; intro v' we hOe hge; have hlte := hOd.lt))
        have hbe : Below w4.heap.size w4 we := hbd.trans (hge.below hbd.size (fun k hk => (hOd.lt k hk).1))
        rw [← Hkn.out] at hOe
        go_roundw
        case rel => exact ⟨j + 1, by omega, by go_num, by rw [← Hb2.out], by rw [Hm2.out], hbe, hOe⟩
        case measure => simp [intOf]; omega
    · obtain rfl : j = 16 := by omega
      have hd2 : decide (((16 : Nat) : Int) < (16 : Int)) = false := by simp
      obtain ⟨Ad, cd, rfl, hk1, hk2, hk3⟩ := hO.slice
      obtain ⟨Dk, hDk⟩ : ∃ Dk, kidsB f L sh 16 = Dk := ⟨_, rfl⟩
      have hkl : Dk.length ≤ 512 := by rw [← hDk]; have := kidsB_len f L sh 16; omega
      rw [hDk] at hO hk1 hk3 ⊢
      obtain ⟨nk, hnk⟩ : ∃ nk, Dk.length = nk := ⟨_, rfl⟩
      have HO := Lib.hid hO
      rw [hnk] at hkl hk1 ⊢
      have hown7 := hown6.below hbr (fun k hk => (hown6.lt k hk).2)
      have hbw : Below w.heap.size w wr := hb4.trans (hbr.mono hb4.size)
      have h6lt := hown6.lt
      have Hnk := Lib.hid hnk
      have HDk := Lib.hid hDk
      clear hO hk3 hnk hDk hown6 hb4
      go_wp2_with fail
      go_at_call 52
      refine Calls.mono (rnumber_any w.heap.size mj (by omega) v6 _ wr hown7 hbw.size (by have h1 := bytB_len R0 (by rw [HRl.out]; omega); rw [HRl.out] at h1; simp only [List.length_append, List.length_cons, List.length_nil]; omega)) ?_
      rintro e w8 ⟨v7, rfl, hown8, hg8⟩
      have hO8 : Owns w8 w4.heap.size 5 (.slice Ad nk cd) Dk := by
        have h := HO.out.apart hg8.1 (fun k hk e => by have h1 := (HO.out.lt k hk).1; have h2 := (h6lt k e).2; omega)
        rw [Hnk.out] at h
        exact h
      have hb8 : Below w.heap.size w w8 := hbw.trans (hg8.below hbw.size (fun k hk => (h6lt k hk).1))
      have hDb := hO8.bs.2
      have hll : ([1] ++ bytB R0 ++ Lib.uvarint mj).length + nk ≤ 140737488355328 := by
        have h1 := bytB_len R0 (by rw [HRl.out]; omega)
        rw [HRl.out] at h1
        have h2 := Lib.uvarint_length64 (x := mj) (by omega)
        simp only [List.length_append, List.length_cons, List.length_nil]
        omega
      have Hll := Lib.hid hll
      clear hown7 hg8 hO8 hbw hbr HO hll
      dsimp only
      go_wp2_with (at_builtin; refine wpList_append_bs rfl _ _ 38 rfl w.heap.size 5 i0 (.int .u8 0) Tryz.underlying38 hi hz0 hz1 hz2 rfl v7 ([1] ++ bytB R0 ++ Lib.uvarint mj) rfl hown8 w8.heap.size Ad nk cd Dk rfl Hnk.out hDb Hll.out hb8.size ?_)
      intro v' w9 hown9 hg9
      go_wp2
      go_ret
      refine ⟨_, rfl, ?_, hb8.trans (hg9.below hb8.size (fun k hk => (hown8.lt k hk).1))⟩
      rw [Hfin.out, Hmj.out, HDk.out]
      first
        | exact hown9
        | (simp only [List.append_assoc, List.cons_append, List.nil_append] at hown9 ⊢; exact hown9)

theorem nodesI : ∀ f, NodesI f
  | 0 => fun xs t A n c w hn h0 hc hm hg ha ht hf => absurd hf (by omega)
  | f + 1 => fun xs t A n c w hn h0 hc hm hg ha ht hf hv hok hIt => by
    rcases Nat.lt_or_ge n 2 with h | h
    · match xs, hn, h0, h, hv, hok, hIt with
      | [x], hn, _, _, hv, hok, hIt =>
        have hn1 : n = 1 := by rw [← hn]; rfl
        have := node_leafI x t A n c hn1 w hc ht (hv x (by simp)) (hok x (by simp)) hIt
        exact this
    · exact node_branchI f (nodesI f) xs t A n c w hn h hc hm hg ha ht hf hv hok hIt

end Go.Proofs.YtblgmnjegkfoaaaGreat

namespace Go.Proofs.YtblgmnjegkfoaaaGreat
open Go.RowKit
set_option linter.unusedVariables false
set_option linter.unusedSimpArgs false

/-- What stands in memory of items, and that Node can be asked. -/
structure ItsFit (w : World) (xs : List Itm) (A : Option Addr) (n c : Nat) : Prop where
  len : xs.length = n
  le : n ≤ c
  lim : n ≤ 1000
  good : Good (xs.map Itm.it)
  vals : ∀ x ∈ xs, x.val.length ≤ 1000
  ok : ItsOk w w.heap.size xs
  at_ : ItsAt w A xs
theorem ItsFit.up {w w' : World} {xs : List Itm} {A : Option Addr} {n c : Nat} (h : ItsFit w xs A n c) (hb : Below w.heap.size w w') : ItsFit w' xs A n c :=
  ⟨h.len, h.le, h.lim, h.good, h.vals, fun x hx => by have k := (h.ok.below hb (Nat.le_refl _)) x hx; exact ⟨k.k32, k.le, k.lim, k.bs.more hb.size⟩, h.at_.up hb⟩
theorem ItsFit.node {w : World} {xs : List Itm} {A : Option Addr} {n c : Nat} (h : ItsFit w xs A n c) (h0 : 0 < n) (t : Nat) (ht : t ≤ 64) (hag : ∀ i, i < t → agreeF (xs.map Itm.it) i = true) :
    Calls Tryz.prog 29 #[.slice A n c, .int .i64 (t : Nat)] w fun e w' => ∃ v, e = .returned v ∧ Owns w' w.heap.size 5 v (nodeF 65 (xs.map Itm.it) t) ∧ Below w.heap.size w w' :=
  nodesI 65 xs t A n c w h.len h0 h.le h.lim h.good hag ht (by omega) h.vals h.ok h.at_
theorem ItsFit.node_len {w : World} {xs : List Itm} {A : Option Addr} {n c : Nat} (h : ItsFit w xs A n c) (h0 : 0 < n) (t : Nat) (ht : t ≤ 64) : (nodeF 65 (xs.map Itm.it) t).length ≤ 1900 := by
  refine nodeF_len 65 _ t (fun y hy => ?_) ht (by rw [List.length_map, h.len]; exact h0)
  obtain ⟨z, hz, rfl⟩ := List.mem_map.1 hy
  exact h.vals z hz

set_option maxHeartbeats 8000000 in
set_option maxRecDepth 100000 in
theorem root_runI (xs : List Itm) (A : Option Addr) (n c : Nat) (w : World) (h : ItsFit w xs A n c) (RL : List Value) (hRL : RL = Lib.byteCells (rootF (xs.map Itm.it))) :
    Calls Tryz.prog 10 #[.slice A n c] w fun e w' => e = .returned (.agg RL.toArray) ∧ Below w.heap.size w w' := by
  obtain ⟨W1, hW1⟩ : ∃ W1, W1 = w.alloc (.cells (Lib.byteCells zeros).toArray 24) := ⟨_, rfl⟩
  have hR1 : Arr W1 w.heap.size 24 (Lib.byteCells zeros) := by rw [hW1]; exact Arr.new w _ _
  have hb1 : Below w.heap.size w W1 := by rw [hW1]; exact (Below.refl _ w).alloc (Nat.le_refl _) _
  have h1 := h.up hb1
  have hrl : RL.length = 32 := by
    rw [hRL, Lib.byteCells_length]
    unfold rootF nodeD
    split <;> exact shaF_length _
  have HRi := Lib.hid (show (Tryz.prog.info? 24).map (·.size) = some RL.toArray.size by rw [List.size_toArray, hrl]; kernel_rfl)
  have HR1 := Lib.hid (show RL.toArray.all (·.oneCell') = true by rw [hRL]; simpa using byteCells_one _)
  have HRz := Lib.hid (show (Lib.byteCells zeros).toArray.size = RL.toArray.size by rw [List.size_toArray, List.size_toArray, hrl, Lib.byteCells_length]; simp [zeros])
  have hlen := h.len
  have HW1 := Lib.hid hW1
  have Hlen := Lib.hid hlen
  have H1 := Lib.hid h1
  clear hW1 h h1 hlen hrl
  by_cases h0 : n = 0
  · have hnil : xs = [] := List.eq_nil_of_length_eq_zero (by rw [Hlen.out]; exact h0)
    have hR : RL = Lib.byteCells (shaF (tagF 5 [])) := by rw [hRL, hnil]; rfl
    have HR := Lib.hid hR
    have hd : ((n : Int) == 0) = true := by rw [beq_iff_eq]; omega
    clear hRL hnil hR
    go_enter Tryz.func10, Tryz.ntmps10
    go_upto_region 1 with fail
    change Code.wp _ _ _ _ (w.alloc (.cells (Lib.byteCells zeros).toArray 24))
    rw [← HW1.out]
    clear HW1
    go_wp2_with fail
    go_at_call 24
    refine Calls.mono (rtag_at 5 5 [] RL none 0 0 W1 rfl HR.out rfl (by omega) (fun h => absurd h (by simp)) (by decide)) ?_
    rintro e w2 ⟨rfl, hb12⟩
    have hR2 := hR1.up hb12
    have hb2 := hb1.trans (hb12.mono hb1.size)
    dsimp only
    go_wp2_with (refine wpList_store_row rfl _ _ _ rfl w.heap.size RL.toArray rfl rfl 24 (Lib.byteCells zeros).toArray hR2 HRi.out HRz.out HR1.out ?_)
    have hset := hR2.setRow RL
    refine bodyPost_ret (v := .agg RL.toArray) (results_cell_row (by rfl) _ _ w.heap.size 24 RL.toArray (0, 0) _ (by rfl) hset Tryz.underlying24 rfl HRi.out) rfl ?_
    exact ⟨rfl, hb2.trans (((Only.refl (fun k => k = w.heap.size) w2).setRow (.inl rfl) RL.toArray).below hb2.size (fun k hk => by omega))⟩
  · obtain ⟨Y, hY⟩ : ∃ Y, nodeF 65 (xs.map Itm.it) 0 = Y := ⟨_, rfl⟩
    have hR : RL = Lib.byteCells (shaF (tagF 4 [Y])) := by
      rw [hRL]
      unfold rootF nodeD
      rw [if_neg (fun e => h0 (by have := congrArg List.length e; rw [List.length_map, Hlen.out] at this; simpa using this)), hY]
    have hYl := H1.out.node_len (by omega) 0 (by omega)
    have hcall := H1.out.node (by omega) 0 (by omega) (fun i hi => by omega)
    rw [hY] at hYl hcall
    have HR := Lib.hid hR
    have HYl := Lib.hid hYl
    have Hcall := Lib.hid hcall
    have hd : ((n : Int) == 0) = false := by rw [beq_eq_false_iff_ne]; omega
    clear hRL hR hY hYl hcall
    go_enter Tryz.func10, Tryz.ntmps10
    go_upto_region 1 with fail
    change Code.wp _ _ _ _ (w.alloc (.cells (Lib.byteCells zeros).toArray 24))
    rw [← HW1.out]
    clear HW1
    go_wp2_with fail
    go_at_call 29
    refine Calls.mono Hcall.out ?_
    rintro e w2 ⟨vN, rfl, hownN, hb12⟩
    have hR2 := hR1.up hb12
    have hb2 := hb1.trans (hb12.mono hb1.size)
    obtain ⟨AN, cN, rfl, hN1, hN2, hN3⟩ := hownN.slice
    obtain ⟨nN, hnN⟩ : ∃ nN, Y.length = nN := ⟨_, rfl⟩
    rw [hnN] at hN1 ⊢
    have hrowY := (rows_oneI (w := w2) (B := w2.heap.size) 38 hnN hN1 hN2 hN3 (Nat.le_refl _)).more (Nat.le_of_eq (show w2.heap.size + 1 = (w2.alloc (.cells #[.slice AN nN cN] 38)).heap.size by simp))
    have hR3 : Arr (w2.alloc (.cells #[.slice AN nN cN] 38)) w.heap.size 24 (Lib.byteCells zeros) := hR2.alloc _
    have hb3 : Below w.heap.size w (w2.alloc (.cells #[.slice AN nN cN] 38)) := hb2.alloc hb2.size _
    clear hownN hN1 hN2 hN3 hnN hR1 hR2 hb1 hb2 hb12
    dsimp only
    go_wp2_with fail
    go_at_call 24
    refine Calls.mono (rtag_at 4 4 [Y] RL _ 1 1 _ rfl HR.out rfl (by omega) hrowY (tag_bound Y (by have := HYl.out; omega))) ?_
    rintro e w4 ⟨rfl, hb34⟩
    have hR4 := hR3.up hb34
    have hb4 := hb3.trans (hb34.mono hb3.size)
    dsimp only
    go_wp2_with (refine wpList_store_row rfl _ _ _ rfl w.heap.size RL.toArray rfl rfl 24 (Lib.byteCells zeros).toArray hR4 HRi.out HRz.out HR1.out ?_)
    have hset := hR4.setRow RL
    refine bodyPost_ret (v := .agg RL.toArray) (results_cell_row (by rfl) _ _ w.heap.size 24 RL.toArray (0, 0) _ (by rfl) hset Tryz.underlying24 rfl HRi.out) rfl ?_
    exact ⟨rfl, hb4.trans (((Only.refl (fun k => k = w.heap.size) w4).setRow (.inl rfl) RL.toArray).below hb4.size (fun k hk => by omega))⟩

end Go.Proofs.YtblgmnjegkfoaaaGreat

namespace Go.Proofs.YtblgmnjegkfoaaaGreat
open Go.RowKit
set_option linter.unusedVariables false
set_option linter.unusedSimpArgs false

theorem rowAllI : (Tryz.prog.info? 38).map (fun i => (i.zero, i.size, i.bytes)) = some (some (.slice none 0 0), 1, 24) := by kernel_rfl
/-- A row of rows of bytes of the call's own. -/
def NRow (w : World) (B : Nat) (v : Value) (rs : List (List UInt8)) : Prop :=
  ∃ cs : List Value, w.ownsRow B 38 1 v rs.length cs ∧ ∀ (i : Nat) (r : List UInt8), rs[i]? = some r → ∃ (A : Option Addr) (c : Nat), cs[i]? = some (.slice A r.length c) ∧ r.length ≤ c ∧ c ≤ maxLen ∧ Bs w w.heap.size A r ∧ ∀ a : Addr, A = some a → 0 < r.length → v.ownBlock ≠ some a.block
theorem NRow.lt {w : World} {B : Nat} {v : Value} {rs : List (List UInt8)} (h : NRow w B v rs) : ∀ k, v.ownBlock = some k → B ≤ k ∧ k < w.heap.size := by
  obtain ⟨cs, h1, _⟩ := h
  exact World.ownsRow.lt h1
theorem NRow.up {w w' : World} {B : Nat} {v : Value} {rs : List (List UInt8)} (h : NRow w B v rs) (hb : Below w.heap.size w w') : NRow w' B v rs := by
  obtain ⟨cs, h1, h2⟩ := h
  refine ⟨cs, ⟨h1.1, ?_⟩, fun i r hr => ?_⟩
  · rcases h1.2 with hn | ⟨g, cap, cur, rfl, e1, hg, rest⟩
    · exact .inl hn
    · exact .inr ⟨g, cap, cur, rfl, e1, (hb.block g (Array.getElem?_eq_some_iff.1 hg).1).trans hg, rest⟩
  · obtain ⟨A, c, k1, k2, k3, k4, k5⟩ := h2 i r hr
    exact ⟨A, c, k1, k2, k3, (k4.below hb (Nat.le_refl _)).more hb.size, k5⟩
theorem NRow.base {w : World} {B B' : Nat} {v : Value} {rs : List (List UInt8)} (h : NRow w B v rs) (hB : B' ≤ B) : NRow w B' v rs := by
  obtain ⟨cs, h1, h2⟩ := h
  refine ⟨cs, ⟨h1.1, ?_⟩, h2⟩
  rcases h1.2 with hn | ⟨g, cap, cur, rfl, e1, rest⟩
  · exact .inl hn
  · exact .inr ⟨g, cap, cur, rfl, Nat.le_trans hB e1, rest⟩
theorem ItsAt.grown {w w' : World} {A : Option Addr} {xs : List Itm} {row : Option Nat} (h : ItsAt w A xs) (hg : w.grownBy w' row) (hne : ∀ a : Addr, A = some a → 0 < xs.length → row ≠ some a.block) : ItsAt w' A xs := fun hp => by
  obtain ⟨b, off, e, hlt, hr⟩ := h hp
  refine ⟨b, off, e, Nat.lt_of_lt_of_le hlt hg.size, fun i x hx => ⟨(hr i x hx).1, fun j v hj => ?_⟩⟩
  rw [← (hr i x hx).2 j v hj]
  exact World.cell?_of_block (hg.block b hlt (fun e2 => hne _ e hp e2.symm))
theorem NRow.empty (w : World) (B : Nat) (hB : B ≤ w.heap.size) : NRow (w.alloc (.cells #[] 38)) B (.slice (some ⟨w.heap.size, 0, none⟩) 0 0) [] :=
  ⟨[], ⟨rfl, .inr ⟨w.heap.size, 0, #[], rfl, hB, heap_alloc_new w _, Nat.le_refl _, by unfold maxLen; omega, rfl, rfl⟩⟩, fun i r h => by simp at h⟩
theorem NRow.snoc {w w' : World} {B : Nat} {v v' : Value} {rs : List (List UInt8)} {cs : List Value} {Y : List UInt8} {A : Option Addr} {n c : Nat} (h1 : w'.ownsRow B 38 1 v' (rs.length + 1) (cs ++ [.slice A n c])) (hl : cs.length = rs.length * 1)
    (h2 : ∀ (i : Nat) (r : List UInt8), rs[i]? = some r → ∃ (A : Option Addr) (c : Nat), cs[i]? = some (.slice A r.length c) ∧ r.length ≤ c ∧ c ≤ maxLen ∧ Bs w w.heap.size A r ∧ ∀ a : Addr, A = some a → 0 < r.length → v.ownBlock ≠ some a.block)
    (hg : w.grownBy w' v.ownBlock) (hp : v'.ownBlock = v.ownBlock ∨ v'.ownBlock = some w.heap.size) (hn : Y.length = n) (hc : n ≤ c) (hm : c ≤ maxLen) (hb : Bs w w.heap.size A Y) (ha : ∀ a : Addr, A = some a → 0 < Y.length → v.ownBlock ≠ some a.block) : NRow w' B v' (rs ++ [Y]) := by
  have keep : ∀ (A : Option Addr) (r : List UInt8), Bs w w.heap.size A r → (∀ a : Addr, A = some a → 0 < r.length → v.ownBlock ≠ some a.block) → Bs w' w'.heap.size A r ∧ ∀ a : Addr, A = some a → 0 < r.length → v'.ownBlock ≠ some a.block := by
    intro A r hb ha
    refine ⟨fun hp0 => ?_, fun a e h0 => ?_⟩
    · obtain ⟨b, off, e, hlt, hcell⟩ := hb hp0
      refine ⟨b, off, e, Nat.lt_of_lt_of_le hlt hg.size, fun j hj => ?_⟩
      rw [← hcell j hj]
      exact World.cell?_of_block (hg.block b hlt (fun e2 => ha _ e hp0 e2.symm))
    · rcases hp with hp | hp
      · rw [hp]; exact ha a e h0
      · rw [hp]
        obtain ⟨b, off, e2, hlt, _⟩ := hb h0
        rw [e] at e2
        injection e2 with e2
        subst e2
        intro e3
        injection e3 with e3
        simp only at e3
        omega
  subst hn
  refine ⟨cs ++ [.slice A Y.length c], by rw [List.length_append]; exact h1, fun i r hr => ?_⟩
  by_cases hi : i < rs.length
  · rw [List.getElem?_append_left hi] at hr
    obtain ⟨A', c', k1, k2, k3, k4, k5⟩ := h2 i r hr
    obtain ⟨q1, q2⟩ := keep A' r k4 k5
    exact ⟨A', c', by rw [List.getElem?_append_left (List.getElem?_eq_some_iff.1 k1).1]; exact k1, k2, k3, q1, q2⟩
  · have hlt := (List.getElem?_eq_some_iff.1 hr).1
    simp at hlt
    have hi2 : i = rs.length := by omega
    subst hi2
    rw [List.getElem?_append_right (Nat.le_refl _)] at hr
    simp at hr
    subst hr
    obtain ⟨q1, q2⟩ := keep A Y hb ha
    exact ⟨A, c, by rw [List.getElem?_append_right (by omega)]; simp [hl], hc, hm, q1, q2⟩
theorem NRow.rows {w : World} {B : Nat} {v : Value} {rs : List (List UInt8)} (h : NRow w B v rs) : ∃ A c, v = .slice A rs.length c ∧ rs.length ≤ c ∧ c ≤ maxLen ∧ RowsAt w w.heap.size A rs := by
  obtain ⟨cs, h1, h2⟩ := h
  rcases h1.2 with ⟨rfl, hn⟩ | ⟨g, cap, cur, rfl, e1, hg, e2, e3, e4, e5⟩
  · exact ⟨none, 0, by rw [hn], by omega, by unfold maxLen; omega, fun hp => by omega⟩
  · refine ⟨_, cap, rfl, e2, e3, fun hp => ⟨g, 0, rfl, (Array.getElem?_eq_some_iff.1 hg).1, fun i hi => ?_⟩⟩
    obtain ⟨A, c, k1, k2, k3, k4, _⟩ := h2 i (rs[i]'hi) (List.getElem?_eq_getElem hi)
    have hgd : rs.getD i [] = rs[i] := by simp [List.getD, hi]
    rw [hgd]
    refine ⟨A, c, ?_, k2, k3, k4⟩
    rw [← e5] at k1
    have hlt := (List.getElem?_eq_some_iff.1 k1).1
    rw [List.length_take] at hlt
    rw [List.getElem?_take_of_lt (by omega)] at k1
    rw [cell_of_row w g _ cur 38 (0, 0) hg, Nat.zero_add]
    simpa using k1

/-- The nodes on the way to a key. -/
def proveF (key : List UInt8) : Nat → List It → Nat → List (List UInt8)
  | 0, _, _ => []
  | f + 1, l, t => if l = [] then [] else nodeF 65 l t :: (if l.length = 1 ∨ restF (l.headD ([], [])).1 t (sharedF l t) ≠ restF key t (sharedF l t) then [] else proveF key f (subF l (sharedF l t) (nibF key (sharedF l t))) (sharedF l t + 1))
theorem proveF_none (key : List UInt8) (f t : Nat) : proveF key f [] t = [] := by
  cases f with
  | zero => rfl
  | succ f => unfold proveF; rw [if_pos rfl]

set_option maxHeartbeats 16000000 in
set_option maxRecDepth 100000 in
theorem prove_runI (key : List UInt8) (hk : key.length = 32) (KL : List Value) (hKL : KL = Lib.byteCells key) (xs : List Itm) (A0 : Option Addr) (n0 c0 : Nat) (w : World) (h : ItsFit w xs A0 n0 c0) (W : List (List UInt8)) (hW : proveF key 65 (xs.map Itm.it) 0 = W) :
    Calls Tryz.prog 13 #[.slice A0 n0 c0, .agg KL.toArray] w fun e w' => ∃ v, e = .returned v ∧ NRow w' w.heap.size v W ∧ Below w.heap.size w w' := by
  obtain ⟨i0, hi, hz0, hz1, hz2⟩ := info_parts rowAllI
  obtain ⟨W1, hW1⟩ : ∃ W1, W1 = w.alloc (.cells KL.toArray 24) := ⟨_, rfl⟩
  have hK1 : Arr W1 w.heap.size 24 KL := by rw [hW1]; exact Arr.new w _ _
  have hb1 : Below w.heap.size w W1 := by rw [hW1]; exact (Below.refl _ w).alloc (Nat.le_refl _) _
  have HW1 := Lib.hid hW1
  have HKi := Lib.hid (show (Tryz.prog.info? 24).map (·.size) = some KL.length by rw [hKL, Lib.byteCells_length, hk]; kernel_rfl)
  obtain ⟨W2, hW2⟩ : ∃ W2, W2 = W1.alloc (.cells #[] 38) := ⟨_, rfl⟩
  obtain ⟨g2, hg2⟩ : ∃ g2, g2 = W1.heap.size := ⟨_, rfl⟩
  have hO2 : NRow W2 (w.heap.size + 1) (.slice (some ⟨g2, 0, none⟩) 0 0) [] := by rw [hW2, hg2]; exact NRow.empty W1 _ hK1.lt
  have hK2 : Arr W2 w.heap.size 24 KL := by rw [hW2]; exact hK1.alloc _
  have hb2 : Below w.heap.size w W2 := by rw [hW2]; exact hb1.alloc hb1.size _
  have h2 := h.up hb2
  have hsep0 : Hid (∀ a : Addr, A0 = some a → 0 < xs.length → (Value.slice (some ⟨g2, 0, none⟩) 0 0).ownBlock ≠ some a.block) := fun a ea h0 e => by
    obtain ⟨b, off, e2, hlt, _⟩ := h.at_ h0
    rw [ea] at e2
    injection e2 with e2
    subst e2
    simp only [Value.ownBlock, Option.some.injEq] at e
    have := hb1.size
    omega
  have Hok0 := Lib.hid h.ok
  have HW2 := Lib.hid hW2
  have Hg2 := Lib.hid hg2
  have HKL := Lib.hid hKL
  have HW : Hid ([] ++ proveF key 65 (xs.map Itm.it) 0 = W) := hW
  clear hW1 hW2 hg2 hKL hK1 hb1 h hW
  go_enter Tryz.func13, Tryz.ntmps13
  go_upto_region 1 with fail
  change Code.wp _ _ _ _ (w.alloc (.cells KL.toArray 24))
  rw [← HW1.out]
  clear HW1
  go_upto_region 2 with fail
  rw [← Hg2.out]
  change Code.wp _ _ _ _ (W1.alloc (.cells #[] 38))
  rw [← HW2.out]
  clear HW2 Hg2
  go_upto_region 3 with fail
  go_loopw [0, 5, 6] (fun lv ov tv wr => ∃ (ps : List Itm) (A : Option Addr) (n c t f : Nat) (way : List (List UInt8)), Hid (∀ x ∈ ps, x ∈ xs) ∧ Hid (∀ a : Addr, A = some a → 0 < ps.length → ov.ownBlock ≠ some a.block) ∧ lv = .slice A n c ∧ tv = .int .i64 t ∧ t ≤ 64 ∧ 65 - t ≤ f ∧ ItsFit wr ps A n c ∧ Hid (∀ i, i < t → agreeF (ps.map Itm.it) i = true) ∧ NRow wr (w.heap.size + 1) ov way ∧ way.length ≤ t ∧ Hid (way ++ proveF key f (ps.map Itm.it) t = W) ∧ Arr wr w.heap.size 24 KL ∧ Below w.heap.size w wr) (fun _ _ tv _ => 65 - (intOf tv).toNat)
  case atStart => exact ⟨xs, A0, n0, c0, 0, 65, [], fun x hx => hx, hsep0, rfl, rfl, by omega, by omega, h2, fun i hi => by omega, hO2, by simp, HW, hK2, hb2⟩
  case round =>
    clear h2 hO2 HW hK2 hb2
    obtain ⟨ps, A, n, c, t, f, way, Hsub, Hsep, rfl, rfl, ht64, hft, hfit, Hag, hO, hwl, HW, hKr, hbr⟩ := hrel
    by_cases h0 : n = 0
    · have hd1 : decide ((0 : Int) < (n : Int)) = false := by simp; omega
      have hnil : ps = [] := List.eq_nil_of_length_eq_zero (by rw [hfit.len]; exact h0)
      have hWw : way = W := by have := HW.out; rw [hnil] at this; rw [show ([] : List Itm).map Itm.it = [] from rfl, proveF_none, List.append_nil] at this; exact this
      subst hWw
      clear hnil
      go_wp2_with fail
      go_ret
      exact ⟨_, rfl, hO.base (Nat.le_succ _), hbr⟩
    · have hd1 : decide ((0 : Int) < (n : Int)) = true := by simp; omega
      obtain ⟨f, rfl⟩ : ∃ f', f = f' + 1 := ⟨f - 1, by omega⟩
      obtain ⟨L, hL⟩ : ∃ L, ps.map Itm.it = L := ⟨_, rfl⟩
      have hLn : L.length = n := by rw [← hL, List.length_map, hfit.len]
      have hL0 : L ≠ [] := fun e => by rw [e] at hLn; simp at hLn; omega
      obtain ⟨sh, hsh⟩ : ∃ sh, sharedF L t = sh := ⟨_, rfl⟩
      have hts : t ≤ sh := by rw [← hsh]; exact sharedF_ge L t
      have hsh64 : sh ≤ 64 := by rw [← hsh]; exact sharedF_le L ht64
      obtain ⟨x0, hx0⟩ : ∃ x, ps[0]? = some x := ⟨ps[0]'(by rw [hfit.len]; omega), List.getElem?_eq_getElem _⟩
      have hhead : (L.headD ([], [])).1 = x0.key := by
        rw [← hL]
        cases ps with
        | nil => simp at hx0
        | cons y ys => simp at hx0; subst hx0; rfl
      obtain ⟨Y, hY⟩ : ∃ Y, nodeF 65 L t = Y := ⟨_, rfl⟩
      have hag := Hag.out
      have hstep := HW.out
      have hcall := hfit.node (by omega) t ht64 hag
      have hYl := hfit.node_len (by omega) t ht64
      rw [hL] at hstep hag hcall hYl
      rw [hY] at hcall hYl
      unfold proveF at hstep
      rw [if_neg hL0, hY, hLn, hsh, hhead] at hstep
      have Hstep := Lib.hid hstep
      have Hcall := Lib.hid hcall
      have HYl := Lib.hid hYl
      have Hag2 := Lib.hid hag
      have HL := Lib.hid hL
      have Hsh : Hid (sharedI ps t = sh) := by show sharedF (ps.map Itm.it) t = sh; rw [hL, hsh]
      have Hx0 := Lib.hid hx0
      have Hgood : Hid (Good L) := by show Good L; rw [← hL]; exact hfit.good
      have HLn := Lib.hid hLn
      have hsh1 : 2 ≤ n → sh < 64 := fun h2 => by rw [← hsh]; exact Hgood.out.split (by rw [HLn.out]; exact h2) ht64 Hag2.out
      have Hsh1 := Lib.hid hsh1
      have Hshag : Hid (∀ i, i < sh → agreeF L i = true) := by intro i hi; rw [← hsh] at hi; exact shared_agree Hag2.out i hi
      clear hstep hcall hYl hag hL hsh hx0 hhead hY hL0 hLn HW Hag hsh1
      go_wp2_with fail
      go_at_call 29
      refine Calls.mono Hcall.out ?_
      rintro e wa ⟨vN, rfl, hownN, hbra⟩
      obtain ⟨AN, cN, rfl, hN1, hN2, hN3⟩ := hownN.slice
      obtain ⟨nN, hnN⟩ : ∃ nN, Y.length = nN := ⟨_, rfl⟩
      have hOa := hO.up hbra
      have hlto := hO.lt
      have hapN : ∀ a : Addr, AN = some a → 0 < Y.length → ∀ k, Value.ownBlock _ = some k → k ≠ a.block := fun a ea _ k hk e => by
        have h1 := (hownN.lt a.block (by rw [ea]; rfl)).1
        have h2 := (hlto k hk).2
        omega
      rw [hnN] at hN1 ⊢
      have hfita := hfit.up hbra
      have hba := hbr.trans (hbra.mono hbr.size)
      have hKa := hKr.up hbra
      obtain ⟨wl, hwl'⟩ : ∃ W, W = wa.alloc (.cells #[.slice AN nN cN] 38) := ⟨_, rfl⟩
      have hbal : Below wa.heap.size wa wl := by rw [hwl']; exact (Below.refl _ wa).alloc (Nat.le_refl _) _
      have hOl := hOa.up hbal
      have hN3l : Bs wl wl.heap.size AN Y := (hN3.below hbal (Nat.le_refl _)).more hbal.size
      have hcell : ∀ j u, [Value.slice AN nN cN][j]? = some u → wl.cell? ((⟨wa.heap.size, 0, none⟩ : Addr).add j) = some u := by rw [hwl']; exact cell_one_new _ _ _
      obtain ⟨cs, hcs1, hcs2⟩ := hOl
      have hfitl := hfita.up hbal
      have hbl' := hba.trans (hbal.mono hba.size)
      have hKl := hKa.up hbal
      have Hnn := Lib.hid hnN
      have Hwl := Lib.hid hwl'
      clear hwl' hnN hO hOa hownN hN3 hbra hbr hKr hfit hfita hba hKa
      dsimp only
      go_wp2_with (at_builtin; refine wpList_append_own_at _ rfl _ _ 34 rfl (w.heap.size + 1) 38 i0 (.slice none 0 0) 1 24 Tryz.underlying34 hi hz0 hz1 hz2 rfl (by decide) _ way.length cs rfl (by rw [Hwl.out] at hcs1; exact hcs1) ⟨wa.heap.size, 0, none⟩ 1 1 [Value.slice AN nN cN] rfl rfl (by rw [Hwl.out] at hcell; exact hcell) (by intro u hu; simp at hu; subst hu; rfl) (by unfold maxLen; omega) (by omega) (by have := hKl.lt; rw [Hwl.out] at this; omega) ?_)
      intro v' w1 hown' hgrow _ hplace
      rw [← Hwl.out] at hgrow
      have hzl : wl.heap.size = wa.heap.size + 1 := by rw [Hwl.out]; simp
      first | rw [← hzl] at hplace | rw [← Hwl.out] at hplace
      have hltl := World.ownsRow.lt hcs1
      have hN1' := NRow.snoc (w := wl) hown' hcs1.1 hcs2 hgrow hplace Hnn.out hN1 hN2 hN3l (fun a ea h e => hapN a ea h a.block e rfl)
      have hb1 : Below w.heap.size w w1 := hbl'.trans ((Below.refl _ wl).grown hgrow hbl'.size (fun k hk => by have := (hltl k hk).1; omega))
      have hK1 : Arr w1 w.heap.size 24 KL := (hgrow.block w.heap.size hKl.lt (fun e => by have := (hltl _ e.symm).1; omega)).trans hKl
      have hat1 : ItsAt w1 A ps := hfitl.at_.grown hgrow Hsep.out
      have hfit1 : ItsFit w1 ps A n c := ⟨hfitl.len, hfitl.le, hfitl.lim, hfitl.good, hfitl.vals, fun x hx => by
        have k := (Hok0.out.below hb1 (Nat.le_refl _)) x (Hsub.out x hx)
        exact ⟨k.k32, k.le, k.lim, k.bs.more hb1.size⟩, hat1⟩
      have hsep1 : ∀ a : Addr, A = some a → 0 < ps.length → v'.ownBlock ≠ some a.block := fun a ea h0' e => by
        rcases hplace with hp | hp
        · exact Hsep.out a ea h0' (by rw [← hp]; exact e)
        · rw [hp] at e
          obtain ⟨b', off', e2, hlt', _⟩ := hfitl.at_ h0'
          rw [ea] at e2
          injection e2 with e2
          subst e2
          injection e with e
          simp only at hlt' e
          omega
      have hO1 : NRow w1 (w.heap.size + 1) v' (way ++ [Y]) := hN1'
      have Hsep1 := Lib.hid hsep1
      clear hown' hgrow hplace hltl hN1' hcs1 hcs2 hN1 hN2 hN3l hapN hfitl hbl' hKl hat1 hbal hcell hsep1 Hsep hlto
      go_wp2_with fail
      go_at_call 32
      refine Calls.mono (shared_run ps A n c t w1 hfit1.len (by omega) hfit1.le (by have := hfit1.lim; omega) ht64 hfit1.at_ sh Hsh.out) ?_
      rintro e w2 ⟨rfl, hb12⟩
      have hfit2 := hfit1.up hb12
      have hO2 := hO1.up hb12
      have hK2 := hK1.up hb12
      have hb2 := hb1.trans (hb12.mono hb1.size)
      clear hb12 hfit1 hO1 hK1 hb1
      dsimp only
      go_upto_region 6 with fail
      by_cases hn1 : n = 1
      · have hd2 : ((n : Int) == 1) = true := by rw [beq_iff_eq]; omega
        have hWw : way ++ [Y] = W := by have := Hstep.out; rw [if_pos (.inl hn1)] at this; exact this
        refine wp_region_held_drew (S := fun w' => True) (by kernel_rfl) trivial (fun hHeld => ?_)
        refine anyH_take (i := 0) (v := .slice A n c) (some 21) rfl rfl (by kernel_rfl) (by kernel_rfl) (by kernel_rfl) (fun _ _ _ h => h) (Or.inl ⟨by rfl, fun w' hw => by go_simp⟩) (by assumption) ?_
        simp only [Act.put, List.setIfInBounds_toArray, List.set_cons_zero, List.set_cons_succ]
        refine anyH_take (i := 1) (v := .int .i64 (n : Nat)) (some 22) rfl rfl (by kernel_rfl) (by kernel_rfl) (by kernel_rfl) (fun _ _ _ h => h) (Or.inl ⟨by rfl, fun w' hw => by go_simp⟩) (by assumption) ?_
        simp only [Act.put, List.setIfInBounds_toArray, List.set_cons_zero, List.set_cons_succ]
        refine anyH_take (i := 2) (v := .bool true) (some 23) rfl rfl (by kernel_rfl) (by kernel_rfl) (by kernel_rfl) (fun _ _ _ h => h) (Or.inl ⟨by rfl, fun w' hw => by go_simp⟩) (by assumption) ?_
        simp only [Act.put, List.setIfInBounds_toArray, List.set_cons_zero, List.set_cons_succ]
        refine anyH_take (i := 3) (v := .bool true) (some 24) rfl rfl (by kernel_rfl) (by kernel_rfl) (by kernel_rfl) (fun _ _ _ h => h) (Or.inl ⟨by rfl, fun w' hw => by go_simp⟩) (by assumption) ?_
        simp only [Act.put, List.setIfInBounds_toArray, List.set_cons_zero, List.set_cons_succ]
        refine anyH_take (i := 4) (v := undef) (some 25) rfl rfl (by kernel_rfl) (by kernel_rfl) (by kernel_rfl) (fun _ _ _ h => h) (Or.inr ⟨by rfl, rfl⟩) (by assumption) ?_
        simp only [Act.put, List.setIfInBounds_toArray, List.set_cons_zero, List.set_cons_succ]
        refine anyH_take (i := 5) (v := undef) (some 26) rfl rfl (by kernel_rfl) (by kernel_rfl) (by kernel_rfl) (fun _ _ _ h => h) (Or.inr ⟨by rfl, rfl⟩) (by assumption) ?_
        simp only [Act.put, List.setIfInBounds_toArray, List.set_cons_zero, List.set_cons_succ]
        refine anyH_take (i := 6) (v := undef) (some 27) rfl rfl (by kernel_rfl) (by kernel_rfl) (by kernel_rfl) (fun _ _ _ h => h) (Or.inr ⟨by rfl, rfl⟩) (by assumption) ?_
        simp only [Act.put, List.setIfInBounds_toArray, List.set_cons_zero, List.set_cons_succ]
        refine anyH_take (i := 7) (v := undef) (some 28) rfl rfl (by kernel_rfl) (by kernel_rfl) (by kernel_rfl) (fun _ _ _ h => h) (Or.inr ⟨by rfl, rfl⟩) (by assumption) ?_
        simp only [Act.put, List.setIfInBounds_toArray, List.set_cons_zero, List.set_cons_succ]
        refine anyH_take (i := 8) (v := undef) (some 29) rfl rfl (by kernel_rfl) (by kernel_rfl) (by kernel_rfl) (fun _ _ _ h => h) (Or.inr ⟨by rfl, rfl⟩) (by assumption) ?_
        simp only [Act.put, List.setIfInBounds_toArray, List.set_cons_zero, List.set_cons_succ]
        refine anyH_take (i := 9) (v := undef) (some 30) rfl rfl (by kernel_rfl) (by kernel_rfl) (by kernel_rfl) (fun _ _ _ h => h) (Or.inr ⟨by rfl, rfl⟩) (by assumption) ?_
        simp only [Act.put, List.setIfInBounds_toArray, List.set_cons_zero, List.set_cons_succ]
        refine anyH_take (i := 10) (v := undef) (some 31) rfl rfl (by kernel_rfl) (by kernel_rfl) (by kernel_rfl) (fun _ _ _ h => h) (Or.inr ⟨by rfl, rfl⟩) (by assumption) ?_
        simp only [Act.put, List.setIfInBounds_toArray, List.set_cons_zero, List.set_cons_succ]
        refine anyH_take (i := 11) (v := undef) (some 32) rfl rfl (by kernel_rfl) (by kernel_rfl) (by kernel_rfl) (fun _ _ _ h => h) (Or.inr ⟨by rfl, rfl⟩) (by assumption) ?_
        simp only [Act.put, List.setIfInBounds_toArray, List.set_cons_zero, List.set_cons_succ]
        refine anyH_take (i := 12) (v := undef) (some 33) rfl rfl (by kernel_rfl) (by kernel_rfl) (by kernel_rfl) (fun _ _ _ h => h) (Or.inr ⟨by rfl, rfl⟩) (by assumption) ?_
        simp only [Act.put, List.setIfInBounds_toArray, List.set_cons_zero, List.set_cons_succ]
        refine anyH_take (i := 13) (v := undef) (some 34) rfl rfl (by kernel_rfl) (by kernel_rfl) (by kernel_rfl) (fun _ _ _ h => h) (Or.inr ⟨by rfl, rfl⟩) (by assumption) ?_
        simp only [Act.put, List.setIfInBounds_toArray, List.set_cons_zero, List.set_cons_succ]
        refine anyH_take (i := 14) (v := undef) (some 35) rfl rfl (by kernel_rfl) (by kernel_rfl) (by kernel_rfl) (fun _ _ _ h => h) (Or.inr ⟨by rfl, rfl⟩) (by assumption) ?_
        simp only [Act.put, List.setIfInBounds_toArray, List.set_cons_zero, List.set_cons_succ]
        refine anyH_take (i := 15) (v := undef) (some 36) rfl rfl (by kernel_rfl) (by kernel_rfl) (by kernel_rfl) (fun _ _ _ h => h) (Or.inr ⟨by rfl, rfl⟩) (by assumption) ?_
        simp only [Act.put, List.setIfInBounds_toArray, List.set_cons_zero, List.set_cons_succ]
        refine anyH_take (i := 16) (v := undef) (some 37) rfl rfl (by kernel_rfl) (by kernel_rfl) (by kernel_rfl) (fun _ _ _ h => h) (Or.inr ⟨by rfl, rfl⟩) (by assumption) ?_
        simp only [Act.put, List.setIfInBounds_toArray, List.set_cons_zero, List.set_cons_succ]
        refine anyH_take (i := 17) (v := .bool true) (some 38) rfl rfl (by kernel_rfl) (by kernel_rfl) (by kernel_rfl) (fun _ _ _ h => h) (Or.inl ⟨by rfl, fun w' hw => by go_simp⟩) (by assumption) ?_
        simp only [Act.put, List.setIfInBounds_toArray, List.set_cons_zero, List.set_cons_succ]
        refine wpAnyH_done (by kernel_rfl) ?_ _
        clear hHeld
        have hO3 := (hO2.up (Below.dN (Below.refl w2.heap.size w2) 1)).base (Nat.le_succ w.heap.size)
        rw [hWw] at hO3
        clear hWw
        go_wp2_with fail
        go_ret
        exact ⟨_, rfl, hO3, Below.dN hb2 1⟩
      · have hd2 : ((n : Int) == 1) = false := by rw [beq_eq_false_iff_ne]; omega
        have hsh2 : sh < 64 := Hsh1.out (by omega)
        obtain ⟨b, off, hAe, hbl, hrow⟩ := hfit2.at_ (by rw [hfit2.len]; omega)
        obtain ⟨hxk, hrg⟩ := hrow 0 x0 Hx0.out
        obtain ⟨YL, hYL⟩ : ∃ YL, YL = Lib.byteCells x0.key := ⟨_, rfl⟩
        have Hrk : Hid (∀ w', Below w2.heap.size w2 w' → w'.rangeAt b off YL) := fun w' hb' => by
          have h := ItsAt.key hrg YL hYL
          rw [Nat.zero_mul, Nat.add_zero] at h
          intro j v hj
          rw [← h j v hj]
          exact World.cell?_of_block (hb'.block b hbl)
        have HYi := Lib.hid (show (Tryz.prog.info? 24).map (·.size) = some YL.length by rw [hYL, Lib.byteCells_length, hxk]; kernel_rfl)
        have HYL := Lib.hid hYL
        have Hxk := Lib.hid hxk
        obtain ⟨r, hr⟩ : ∃ r, decide (restF x0.key t sh = restF key t sh) = r := ⟨_, rfl⟩
        have Hr := Lib.hid hr
        have Hrl := Lib.hid (fun k => restF_length k t sh)
        obtain ⟨nr, hnr⟩ : ∃ nr, sh - t = nr := ⟨_, rfl⟩
        have Hnr := Lib.hid hnr
        subst hAe
        clear hrow hrg hxk hYL hr hnr
        refine wp_region_held_drew (S := fun w' => Below w2.heap.size w2 w') (by kernel_rfl) (Below.dN (Below.refl _ w2) 1) (fun hHeld => ?_)
        refine anyH_take (i := 0) (v := .slice (some ⟨b, off, none⟩) n c) (some 21) rfl rfl (by kernel_rfl) (by kernel_rfl) (by kernel_rfl) (fun _ _ _ h => h) (Or.inl ⟨by rfl, fun w' hw => by go_simp⟩) (by assumption) ?_
        simp only [Act.put, List.setIfInBounds_toArray, List.set_cons_zero, List.set_cons_succ]
        refine anyH_take (i := 1) (v := .int .i64 (n : Nat)) (some 22) rfl rfl (by kernel_rfl) (by kernel_rfl) (by kernel_rfl) (fun _ _ _ h => h) (Or.inl ⟨by rfl, fun w' hw => by go_simp⟩) (by assumption) ?_
        simp only [Act.put, List.setIfInBounds_toArray, List.set_cons_zero, List.set_cons_succ]
        refine anyH_take (i := 2) (v := .bool false) (some 23) rfl rfl (by kernel_rfl) (by kernel_rfl) (by kernel_rfl) (fun _ _ _ h => h) (Or.inl ⟨by rfl, fun w' hw => by go_simp⟩) (by assumption) ?_
        simp only [Act.put, List.setIfInBounds_toArray, List.set_cons_zero, List.set_cons_succ]
        refine anyH_take (i := 3) (v := .bool false) (some 24) rfl rfl (by kernel_rfl) (by kernel_rfl) (by kernel_rfl) (fun _ _ _ h => h) (Or.inl ⟨by rfl, fun w' hw => by go_simp⟩) (by assumption) ?_
        simp only [Act.put, List.setIfInBounds_toArray, List.set_cons_zero, List.set_cons_succ]
        refine anyH_take (i := 4) (v := .slice (some ⟨b, off, none⟩) n c) (some 25) rfl rfl (by kernel_rfl) (by kernel_rfl) (by kernel_rfl) (fun _ _ _ h => h) (Or.inl ⟨by rfl, fun w' hw => by go_simp⟩) (by assumption) ?_
        simp only [Act.put, List.setIfInBounds_toArray, List.set_cons_zero, List.set_cons_succ]
        refine anyH_take (i := 5) (v := .pointer (some ⟨b, off, none⟩)) (some 26) rfl rfl (by kernel_rfl) (by kernel_rfl) (by kernel_rfl) (fun _ _ _ h => h) (Or.inl ⟨by rfl, fun w' hw => by (go_simp; try (intro h; omega))⟩) (by assumption) ?_
        simp only [Act.put, List.setIfInBounds_toArray, List.set_cons_zero, List.set_cons_succ]
        refine anyH_take (i := 6) (v := .pointer (some ⟨b, off, none⟩)) (some 27) rfl rfl (by kernel_rfl) (by kernel_rfl) (by kernel_rfl) (fun _ _ _ h => h) (Or.inl ⟨by rfl, fun w' hw => by go_simp⟩) (by assumption) ?_
        simp only [Act.put, List.setIfInBounds_toArray, List.set_cons_zero, List.set_cons_succ]
        refine anyH_take (i := 7) (some 28) rfl rfl (by kernel_rfl) (by kernel_rfl) (by kernel_rfl) (fun _ _ _ h => h) (yieldsIf_load_mid (by rfl) 24 (.tmp 27) rfl b off rfl YL _ (fun w' h => Hrk.out w' h) Tryz.underlying24 rfl HYi.out) (by assumption) ?_
        simp only [Act.put, List.setIfInBounds_toArray, List.set_cons_zero, List.set_cons_succ]
        refine anyH_take (i := 8) (v := .int .i64 (t : Nat)) (some 29) rfl rfl (by kernel_rfl) (by kernel_rfl) (by kernel_rfl) (fun _ _ _ h => h) (Or.inl ⟨by rfl, fun w' hw => by go_simp⟩) (by assumption) ?_
        simp only [Act.put, List.setIfInBounds_toArray, List.set_cons_zero, List.set_cons_succ]
        refine anyH_take (i := 9) (v := .int .i64 (sh : Nat)) (some 30) rfl rfl (by kernel_rfl) (by kernel_rfl) (by kernel_rfl) (fun _ _ _ h => h) (Or.inl ⟨by rfl, fun w' hw => by go_simp⟩) (by assumption) ?_
        simp only [Act.put, List.setIfInBounds_toArray, List.set_cons_zero, List.set_cons_succ]
        refine anyH_take (i := 11) (some 32) rfl rfl (by kernel_rfl) (by kernel_rfl) (by kernel_rfl) (fun _ _ _ h => h) (yieldsIf_load_mid (by rfl) 24 (.tmp 3) rfl w.heap.size 0 rfl KL _ (fun w' h => (hK2.up h).range) Tryz.underlying24 rfl HKi.out) (by assumption) ?_
        simp only [Act.put, List.setIfInBounds_toArray, List.set_cons_zero, List.set_cons_succ]
        refine anyH_take (i := 12) (v := .int .i64 (t : Nat)) (some 33) rfl rfl (by kernel_rfl) (by kernel_rfl) (by kernel_rfl) (fun _ _ _ h => h) (Or.inl ⟨by rfl, fun w' hw => by go_simp⟩) (by assumption) ?_
        simp only [Act.put, List.setIfInBounds_toArray, List.set_cons_zero, List.set_cons_succ]
        refine anyH_take (i := 13) (v := .int .i64 (sh : Nat)) (some 34) rfl rfl (by kernel_rfl) (by kernel_rfl) (by kernel_rfl) (fun _ _ _ h => h) (Or.inl ⟨by rfl, fun w' hw => by go_simp⟩) (by assumption) ?_
        simp only [Act.put, List.setIfInBounds_toArray, List.set_cons_zero, List.set_cons_succ]
        refine wpAnyH_ready (rs := [10]) (by kernel_rfl) (by simp) ?_
        refine AllReadyH.cons rfl (fun K hK => ?_) AllReadyH.nil
        go_simp
        go_at_call 33
        refine Calls.mono (rest_run x0.key Hxk.out YL HYL.out t sh hts hsh64 (w2.drewN 1)) ?_
        rintro e w3 ⟨vR, rfl, hownR, hb23'⟩
        have hb23 : Below w2.heap.size w2 w3 := Below.dI (n := 1) hb23'
        obtain ⟨AR, cR, rfl, hR1, hR2, hR3⟩ := hownR.slice
        rw [Hrl.out, Hnr.out] at hR1 ⊢
        clear hb23' hownR
        dsimp only
        go_wp2_with fail
        refine hK.out _ _ hb23 (fun hHeldx => ?_)
        clear hK K
        try simp only [Act.put, List.setIfInBounds_toArray, List.set_cons_zero, List.set_cons_succ]
        refine wpAnyH_ready (rs := [14]) (by kernel_rfl) (by simp) ?_
        refine AllReadyH.cons rfl (fun K hK => ?_) AllReadyH.nil
        go_simp
        go_at_call 33
        refine Calls.mono (rest_run key hk KL HKL.out t sh hts hsh64 w3) ?_
        rintro e w4 ⟨vQ, rfl, hownQ, hb34⟩
        have hb24 : Below w2.heap.size w2 w4 := hb23.trans (hb34.mono hb23.size)
        obtain ⟨AQ, cQ, rfl, hQ1, hQ2, hQ3⟩ := hownQ.slice
        rw [Hrl.out, Hnr.out] at hQ1 ⊢
        have hR4 : Bs w4 w3.heap.size AR (restF x0.key t sh) := hR3.below hb34 (Nat.le_refl _)
        clear hb23 hb34 hownQ hR3
        dsimp only
        go_wp2_with fail
        refine hK.out _ _ hb24 (fun hHeldx => ?_)
        clear hK K
        try simp only [Act.put, List.setIfInBounds_toArray, List.set_cons_zero, List.set_cons_succ]
        refine wpAnyH_ready (rs := [15]) (by kernel_rfl) (by simp) ?_
        refine AllReadyH.cons rfl (fun K hK => ?_) AllReadyH.nil
        go_simp
        go_at_call 15
        refine Calls.mono (same_n w3.heap.size w4.heap.size AR AQ cR cQ nr nr (restF x0.key t sh) (restF key t sh) w4 r hR4 hQ3 (by rw [Hrl.out, Hnr.out]) (by rw [Hrl.out, Hnr.out]) (by omega) (by omega) Hr.out) ?_
        rintro e w5 ⟨rfl, k5, hw5⟩
        have hb25 : Below w2.heap.size w2 w5 := by rw [hw5]; exact Below.dN hb24 k5
        clear hw5 hb24 hR4 hQ3 hR1 hR2 hQ1 hQ2
        dsimp only
        go_wp2_with fail
        refine hK.out _ _ hb25 (fun hHeldx => ?_)
        clear hK K
        try simp only [Act.put, List.setIfInBounds_toArray, List.set_cons_zero, List.set_cons_succ]
        have hO5 := hO2.up hb25
        have hK5 := hK2.up hb25
        have hfit5 := hfit2.up hb25
        have hb5 := hb2.trans (hb25.mono hb2.size)
        clear hO2 hK2 hfit2 hb2 hb25 hHeld
        cases r with
        | false =>
          have hne : restF x0.key t sh ≠ restF key t sh := by simpa using Hr.out
          have hWw : way ++ [Y] = W := by have := Hstep.out; rw [if_pos (.inr hne)] at this; exact this
          have hO6 := hO5.base (Nat.le_succ w.heap.size)
          rw [hWw] at hO6
          clear hWw hne hO5
          refine anyH_take (i := 16) (v := .bool true) (some 37) rfl rfl (by kernel_rfl) (by kernel_rfl) (by kernel_rfl) (fun _ _ _ h => h) (Or.inl ⟨by rfl, fun w' hw => by go_simp⟩) (by assumption) ?_
          simp only [Act.put, List.setIfInBounds_toArray, List.set_cons_zero, List.set_cons_succ]
          refine anyH_take (i := 17) (v := .bool true) (some 38) rfl rfl (by kernel_rfl) (by kernel_rfl) (by kernel_rfl) (fun _ _ _ h => h) (Or.inl ⟨by rfl, fun w' hw => by go_simp⟩) (by assumption) ?_
          simp only [Act.put, List.setIfInBounds_toArray, List.set_cons_zero, List.set_cons_succ]
          refine wpAnyH_done (by kernel_rfl) ?_ _
          go_wp2_with fail
          go_ret
          exact ⟨_, rfl, hO6, hb5⟩
        | true =>
          have heq : restF x0.key t sh = restF key t sh := by simpa using Hr.out
          have hst := Hstep.out
          rw [if_neg (by rintro (h | h); exact hn1 h; exact h heq)] at hst
          obtain ⟨x, hx⟩ : ∃ x, nibF key sh = x := ⟨_, rfl⟩
          have hx16 : x < 16 := by rw [← hx]; exact nibF_lt _ _
          rw [hx] at hst
          have hst2 : (way ++ [Y]) ++ proveF key f (subF L sh x) (sh + 1) = W := by rw [← hst]; simp
          have Hst2 := Lib.hid hst2
          have Hx := Lib.hid hx
          have hki := hK5.range
          obtain ⟨s1, hs1⟩ : ∃ s1, sh + 1 = s1 := ⟨_, rfl⟩
          have hws : IntKind.i64.wrap ((sh : Int) + 1) = (s1 : Int) := by rw [IntWalk.i64_in _ (by omega)]; omega
          have Hs1 := Lib.hid hs1
          clear heq hst hst2 hx hs1
          refine anyH_take (i := 16) (v := .bool false) (some 37) rfl rfl (by kernel_rfl) (by kernel_rfl) (by kernel_rfl) (fun _ _ _ h => h) (Or.inl ⟨by rfl, fun w' hw => by go_simp⟩) (by assumption) ?_
          simp only [Act.put, List.setIfInBounds_toArray, List.set_cons_zero, List.set_cons_succ]
          refine anyH_take (i := 17) (v := .bool false) (some 38) rfl rfl (by kernel_rfl) (by kernel_rfl) (by kernel_rfl) (fun _ _ _ h => h) (Or.inl ⟨by rfl, fun w' hw => by go_simp⟩) (by assumption) ?_
          simp only [Act.put, List.setIfInBounds_toArray, List.set_cons_zero, List.set_cons_succ]
          refine wpAnyH_done (by kernel_rfl) ?_ _
          go_wp2_with (refine wpList_load_mid rfl _ _ rfl w.heap.size 0 rfl KL _ hki Tryz.underlying24 rfl HKi.out ?_)
          go_at_call 35
          refine Calls.mono (rnib_atI key hk KL HKL.out sh hsh2 x Hx.out w5) ?_
          rintro e w6 ⟨rfl, hb56⟩
          have hO6 := hO5.up hb56
          have hK6 := hK5.up hb56
          have hfit6 := hfit5.up hb56
          have hb6 := hb5.trans (hb56.mono hb5.size)
          clear hO5 hK5 hfit5 hb5 hb56 hki
          dsimp only
          go_wp2_with fail
          go_at_call 34
          refine Calls.mono (part_run ps _ n c sh x w6 hfit6.len hfit6.le (by have := hfit6.lim; omega) hsh2 (by omega) hfit6.at_) ?_
          rintro e w7 ⟨vp, rfl, hrowp, hb67⟩
          obtain ⟨Ap, cp, rfl, hp1, hp3, hItp⟩ := hrowp.slice
          have hO7 := hO6.up hb67
          have hK7 := hK6.up hb67
          have hb7 := hb6.trans (hb67.mono hb6.size)
          have hLp : (partI ps sh x).map Itm.it = subF L sh x := by rw [map_part, HL.out]
          have hsep7 : Hid (∀ a : Addr, Ap = some a → 0 < (partI ps sh x).length → v'.ownBlock ≠ some a.block) := fun a ea _ e => by
            have h1 := (hrowp.lt a.block (by rw [ea]; rfl)).1
            have h2 := (hO6.lt _ e).2
            omega
          have hsub7 : Hid (∀ y ∈ partI ps sh x, y ∈ xs) := fun y hy => Hsub.out y (part_mem hy).1
          have hfit7 : ItsFit w7 (partI ps sh x) Ap (partI ps sh x).length cp := ⟨rfl, hp1, by have := partI_len ps sh x; have := hfit6.len; have := hfit6.lim; omega, by rw [hLp]; exact Hgood.out.part sh x, fun y hy => hfit6.vals y (part_mem hy).1, fun y hy => by
            have k := (Hok0.out.below hb7 (Nat.le_refl _)) y (hsub7.out y hy)
            exact ⟨k.k32, k.le, k.lim, k.bs.more hb7.size⟩, hItp⟩
          have hag7 : Hid (∀ i, i < s1 → agreeF ((partI ps sh x).map Itm.it) i = true) := by show ∀ i, _; rw [hLp, ← Hs1.out]; exact part_agree Hshag.out
          have hW7 : Hid ((way ++ [Y]) ++ proveF key f ((partI ps sh x).map Itm.it) s1 = W) := by show _ = _; rw [hLp, ← Hs1.out]; exact Hst2.out
          have hwl7 : (way ++ [Y]).length ≤ s1 := by have := Hs1.out; simp; omega
          have hs64 : s1 ≤ 64 := by have := Hs1.out; omega
          have hfs : 65 - s1 ≤ f := by have := Hs1.out; omega
          have hts1 : t < s1 := by have := Hs1.out; omega
          obtain ⟨qs, hqs⟩ : ∃ qs, partI ps sh x = qs := ⟨_, rfl⟩
          rw [hqs] at hsep7 hsub7 hfit7 hag7 hW7 ⊢
          clear hrowp hItp hp1 hp3 hLp hO6 hK6 hfit6 hb6 hb67 hqs
          dsimp only
          go_wp2_with fail
          go_roundw
          case rel => exact ⟨qs, Ap, qs.length, cp, s1, f, way ++ [Y], hsub7, hsep7, rfl, by go_num, hs64, hfs, hfit7, hag7, hO7, hwl7, hW7, hK7, hb7⟩
          case measure => simp [intOf]; omega

end Go.Proofs.YtblgmnjegkfoaaaGreat

namespace Go.Proofs.YtblgmnjegkfoaaaGreat
open Go.RowKit
set_option linter.unusedVariables false
set_option linter.unusedSimpArgs false

theorem restF_getT (k : List UInt8) {t u v : Nat} (h1 : t ≤ u) (h2 : u < v) : ((restF k t v).getD (u - t) 0).toNat = nibF k u := by
  have hl : u - t < (restF k t v).length := by rw [restF_length]; omega
  rw [← List.getElem_eq_getD (h := hl) 0]
  simp only [restF, List.getElem_map, List.getElem_range]
  rw [show t + (u - t) = u by omega]
  have := nibF_lt k u
  simp [Nat.toUInt8, UInt8.toNat_ofNat']
  omega

/-- More fuel doesn't matter. -/
theorem nodeF_fuel : ∀ (f g : Nat) (l : List It) (t : Nat), Good l → (∀ i, i < t → agreeF l i = true) → t ≤ 64 → 0 < l.length → 65 - t ≤ f → 65 - t ≤ g → nodeF f l t = nodeF g l t
  | 0, _, l, t, _, _, ht, _, hf, _ => absurd hf (by omega)
  | _, 0, l, t, _, _, ht, _, _, hg => absurd hg (by omega)
  | f + 1, g + 1, l, t, hgood, hag, ht, hl, hf, hg => by
    rcases Nat.lt_or_ge l.length 2 with h | h
    · match l, hl, h with
      | [x], _, _ => rw [nodeF_one, nodeF_one]
    · rw [nodeF_two f l t h, nodeF_two g l t h]
      congr 1
      unfold kidsB
      simp only [List.flatMap_def]
      congr 1
      refine List.map_congr_left fun m hm => ?_
      by_cases e : subF l (sharedF l t) m = []
      · rw [if_pos e, if_pos e]
      · rw [if_neg e, if_neg e]
        have hs := hgood.split h ht hag
        have hge := sharedF_ge l t
        rw [nodeF_fuel f g _ (sharedF l t + 1) (hgood.part _ m) (part_agree (shared_agree hag)) (by omega) (List.length_pos_iff.2 e) (by omega) (by omega)]

/-- A key's value among items. -/
def findF (l : List It) (key : List UInt8) : Option (List UInt8) := (l.find? fun x => decide (x.1 = key)).map (·.2)
theorem findF_none {l : List It} {key : List UInt8} (h : ∀ x ∈ l, x.1 ≠ key) : findF l key = none := by
  unfold findF
  rw [List.find?_eq_none.2 (fun x hx => by simpa using h x hx)]
  rfl
theorem findF_sub (l : List It) (key : List UInt8) (s : Nat) : findF (subF l s (nibF key s)) key = findF l key := by
  unfold findF subF
  rw [List.find?_filter]
  congr 2
  funext x
  by_cases e : x.1 = key
  · subst e; simp
  · simp [e]

/-- What differs first, of two ways. -/
def Differs (way rs : List (List UInt8)) : Prop := ∃ (i : Nat) (a b : List UInt8), way.take i = rs.take i ∧ way[i]? = some a ∧ rs[i]? = some b ∧ a ≠ b ∧ shaF (tagF 4 [a]) = shaF (tagF 4 [b])
theorem Differs.cons {way rs : List (List UInt8)} (h : Differs way rs) (x : List UInt8) : Differs (x :: way) (x :: rs) := by
  obtain ⟨i, a, b, h1, h2, h3, h4, h5⟩ := h
  exact ⟨i + 1, a, b, by simp [h1], by simpa using h2, by simpa using h3, h4, h5⟩

end Go.Proofs.YtblgmnjegkfoaaaGreat

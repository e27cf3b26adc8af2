/-
  proof's Check. Written by gen_pcheck.py.
-/
import Derived.Test.YtlailhjpfadpcaaPFollow
namespace Go.Proofs.Ytlailhjpfadpcaa
open Go.RowKit
set_option linter.unusedVariables false
set_option linter.unusedSimpArgs false

theorem follows_all (key : List UInt8) : ∀ (rs : List (List UInt8)), (∀ r ∈ rs, r.length ≤ 3000) → rs.length ≤ 71 → FollowsP key rs
  | [], _, _ => follow_nil key
  | b :: rs, h, hl => follow_cons key b rs (h b (by simp)) (by simp at hl; omega) (follows_all key rs (fun r hr => h r (by simp [hr])) (by simp at hl; omega))

set_option maxHeartbeats 8000000 in
set_option maxRecDepth 100000 in
theorem check_some (root key : List UInt8) (hr : root.length = 32) (hk : key.length = 32) (RL KL : List Value) (hRL : RL = Lib.byteCells root) (hKL : KL = Lib.byteCells key) (rs : List (List UInt8)) (A : Option Addr) (n c : Nat) (w : World) (hn : rs.length = n) (hc : n ≤ c) (hm : c ≤ maxLen) (hrows : RowsAt w w.heap.size A rs) (h2000 : ∀ r ∈ rs, r.length ≤ 3000) (h70 : n ≤ 71) (hpos : 0 < n) :
    Calls Try.prog 21 #[.agg RL.toArray, .agg KL.toArray, .slice A n c] w fun e w' => ∃ V, e = .returned V ∧ ShownP w' (chkF root key rs 0) V ∧ Below w.heap.size w w' := by
  have Hf := Lib.hid (follows_all key rs h2000 (by omega))
  have hne : rs ≠ [] := fun e => by rw [e] at hn; simp at hn; omega
  obtain ⟨W1, hW1⟩ : ∃ W1, W1 = w.alloc (.cells RL.toArray 24) := ⟨_, rfl⟩
  obtain ⟨W2, hW2⟩ : ∃ W2, W2 = W1.alloc (.cells KL.toArray 24) := ⟨_, rfl⟩
  have hR1 : Arr W1 w.heap.size 24 RL := by rw [hW1]; exact Arr.new w _ _
  have hb1 : Below w.heap.size w W1 := by rw [hW1]; exact (Below.refl _ w).alloc (Nat.le_refl _) _
  have hz1 : W1.heap.size = w.heap.size + 1 := by rw [hW1]; simp
  have hR2 : Arr W2 w.heap.size 24 RL := by rw [hW2]; exact hR1.alloc _
  obtain ⟨g, hg⟩ : ∃ g, g = w.heap.size + 1 := ⟨_, rfl⟩
  have hK2 : Arr W2 g 24 KL := by rw [hW2, hg, ← hz1]; exact Arr.new W1 _ _
  have hb2 : Below w.heap.size w W2 := by rw [hW2]; exact hb1.alloc hb1.size _
  have hrows2 : RowsAt W2 W2.heap.size A rs := (hrows.below hb2 (Nat.le_refl _)).more hb2.size
  have HRi := Lib.hid (show (Try.prog.info? 24).map (·.size) = some RL.length by rw [hRL, Lib.byteCells_length, hr]; kernel_rfl)
  have HKi := Lib.hid (show (Try.prog.info? 24).map (·.size) = some KL.length by rw [hKL, Lib.byteCells_length, hk]; kernel_rfl)
  have HW1 := Lib.hid hW1
  have HW2 := Lib.hid hW2
  have Hg := Lib.hid hg
  have HRL := Lib.hid hRL
  have HKL := Lib.hid hKL
  have Hn := Lib.hid hn
  have Hne := Lib.hid hne
  have hd1 : decide ((0 : Int) < (n : Int)) = true := by simp; omega
  clear hW1 hW2 hg hR1 hb1 hz1 hRL hKL hn hne hrows h2000
  go_enter Try.func21, Try.ntmps21
  go_upto_region 1 with fail
  change Code.wp _ _ _ _ ((w.alloc (.cells RL.toArray 24)).alloc (.cells KL.toArray 24))
  rw [← HW1.out, ← HW2.out, ← Hg.out]
  clear HW1 HW2 Hg
  go_upto_region 2 with fail
  refine wp_region_held_drew (S := fun w' => Arr w' w.heap.size 24 RL ∧ Arr w' g 24 KL) (by kernel_rfl) ⟨hR2.drewN 1, hK2.drewN 1⟩ (fun hHeld => ?_)
  refine anyH_take (i := 0) (some 12) rfl rfl (by kernel_rfl) (by kernel_rfl) (by kernel_rfl) (fun _ _ _ h => h) (yieldsIf_load_mid (by rfl) 24 (.tmp 3) rfl w.heap.size 0 rfl RL _ (fun w' h => h.1.range) Try.underlying24 rfl HRi.out) (by assumption) ?_
  simp only [Act.put, List.setIfInBounds_toArray, List.set_cons_zero, List.set_cons_succ]
  refine anyH_take (i := 1) (some 13) rfl rfl (by kernel_rfl) (by kernel_rfl) (by kernel_rfl) (fun _ _ _ h => h) (yieldsIf_load_mid (by rfl) 24 (.tmp 4) rfl g 0 rfl KL _ (fun w' h => h.2.range) Try.underlying24 rfl HKi.out) (by assumption) ?_
  simp only [Act.put, List.setIfInBounds_toArray, List.set_cons_zero, List.set_cons_succ]
  refine anyH_take (i := 3) (v := .slice A n c) (some 15) rfl rfl (by kernel_rfl) (by kernel_rfl) (by kernel_rfl) (fun _ _ _ h => h) (Or.inl ⟨by rfl, fun w' hw => by go_simp⟩) (by assumption) ?_
  simp only [Act.put, List.setIfInBounds_toArray, List.set_cons_zero, List.set_cons_succ]
  refine wpAnyH_ready (rs := [2]) (by kernel_rfl) (by simp) ?_
  refine AllReadyH.cons rfl (fun K hK => ?_) AllReadyH.nil
  go_simp
  go_at_call 33
  refine Calls.mono (nibbles_run key hk KL HKL.out (W2.drewN 1)) ?_
  rintro e w3 ⟨v, rfl, hown, hb23⟩
  have hbx : Below W2.heap.size W2 w3 := ⟨hb23.os, hb23.tape, hb23.output, hb23.size, hb23.block⟩
  have hR3 := hR2.below hbx hR2.lt
  have hK3 := hK2.below hbx hK2.lt
  have hb3 : Below w.heap.size w w3 := hb2.trans (hbx.mono hb2.size)
  have hrows3 : RowsAt w3 w3.heap.size A rs := (hrows2.below hbx (Nat.le_refl _)).more hbx.size
  obtain ⟨A3, c3, rfl, h31, h32, h33⟩ := hown.slice
  rw [restF_length] at h31 ⊢
  clear hbx hb23 hR2 hK2 hb2 hrows2 hown
  dsimp only
  go_wp2_with fail
  refine hK.out _ _ ⟨hR3, hK3⟩ (fun hHeldx => ?_)
  clear hK K
  try simp only [Act.put, List.setIfInBounds_toArray, List.set_cons_zero, List.set_cons_succ]
  refine wpAnyH_ready (rs := [4]) (by kernel_rfl) (by simp) ?_
  refine AllReadyH.cons rfl (fun K hK => ?_) AllReadyH.nil
  go_simp
  go_at_call 32
  refine Calls.mono (Hf.out 0 root RL A3 64 c3 A n c w3 hr HRL.out (by omega) (by omega) (by omega) h32 h33 Hn.out hc hm hrows3 (.inr Hne.out)) ?_
  rintro e w4 ⟨V, rfl, hsh, hb34⟩
  obtain ⟨va, vb, vc, hV⟩ := hsh.tuple
  subst hV
  have hR4 := hR3.below hb34 hR3.lt
  have hK4 := hK3.below hb34 hK3.lt
  have hb4 : Below w.heap.size w w4 := hb3.trans (hb34.mono hb3.size)
  clear hb34 hR3 hK3 hb3 hrows3 h33
  dsimp only
  go_wp2_with fail
  refine hK.out _ _ ⟨hR4, hK4⟩ (fun hHeldx => ?_)
  clear hK K
  try simp only [Act.put, List.setIfInBounds_toArray, List.set_cons_zero, List.set_cons_succ]
  refine anyH_take (i := 5) (v := va) (some 17) rfl rfl (by kernel_rfl) (by kernel_rfl) (by kernel_rfl) (fun _ _ _ h => h) (Or.inl ⟨by rfl, fun w' hw => by go_simp⟩) (by assumption) ?_
  simp only [Act.put, List.setIfInBounds_toArray, List.set_cons_zero, List.set_cons_succ]
  refine anyH_take (i := 6) (v := vb) (some 18) rfl rfl (by kernel_rfl) (by kernel_rfl) (by kernel_rfl) (fun _ _ _ h => h) (Or.inl ⟨by rfl, fun w' hw => by go_simp⟩) (by assumption) ?_
  simp only [Act.put, List.setIfInBounds_toArray, List.set_cons_zero, List.set_cons_succ]
  refine anyH_take (i := 7) (v := vc) (some 19) rfl rfl (by kernel_rfl) (by kernel_rfl) (by kernel_rfl) (fun _ _ _ h => h) (Or.inl ⟨by rfl, fun w' hw => by go_simp⟩) (by assumption) ?_
  simp only [Act.put, List.setIfInBounds_toArray, List.set_cons_zero, List.set_cons_succ]
  refine anyH_take (i := 8) (v := va) (some 6) rfl rfl (by kernel_rfl) (by kernel_rfl) (by kernel_rfl) (fun _ _ _ h => h) (Or.inl ⟨by rfl, fun w' hw => by go_simp⟩) (by assumption) ?_
  simp only [Act.put, List.setIfInBounds_toArray, List.set_cons_zero, List.set_cons_succ]
  refine anyH_take (i := 9) (v := vb) (some 7) rfl rfl (by kernel_rfl) (by kernel_rfl) (by kernel_rfl) (fun _ _ _ h => h) (Or.inl ⟨by rfl, fun w' hw => by go_simp⟩) (by assumption) ?_
  simp only [Act.put, List.setIfInBounds_toArray, List.set_cons_zero, List.set_cons_succ]
  refine anyH_take (i := 10) (v := vc) (some 8) rfl rfl (by kernel_rfl) (by kernel_rfl) (by kernel_rfl) (fun _ _ _ h => h) (Or.inl ⟨by rfl, fun w' hw => by go_simp⟩) (by assumption) ?_
  simp only [Act.put, List.setIfInBounds_toArray, List.set_cons_zero, List.set_cons_succ]
  refine wpAnyH_done (by kernel_rfl) ?_ _
  clear hHeld hHeldx
  go_wp2_with fail
  go_ret3
  exact ⟨_, rfl, hsh, hb4⟩

set_option maxHeartbeats 8000000 in
set_option maxRecDepth 100000 in
theorem check_none (root key : List UInt8) (hr : root.length = 32) (RL KL : List Value) (hRL : RL = Lib.byteCells root) (A : Option Addr) (c : Nat) (w : World) :
    Calls Try.prog 21 #[.agg RL.toArray, .agg KL.toArray, .slice A 0 c] w fun e w' => ∃ V, e = .returned V ∧ ShownP w' (chkF root key [] 0) V ∧ Below w.heap.size w w' := by
  obtain ⟨SL, hSL⟩ : ∃ SL, SL = Lib.byteCells (shaF (tagF 5 [])) := ⟨_, rfl⟩
  obtain ⟨r0, hr0⟩ : ∃ r0, decide (root = shaF (tagF 5 [])) = r0 := ⟨_, rfl⟩
  have Hcmp := Lib.hid (fun w => digCmpP root _ hr (shaF_length (tagF 5 [])) RL SL hRL hSL r0 hr0 w)
  obtain ⟨W1, hW1⟩ : ∃ W1, W1 = w.alloc (.cells RL.toArray 24) := ⟨_, rfl⟩
  obtain ⟨W2, hW2⟩ : ∃ W2, W2 = W1.alloc (.cells KL.toArray 24) := ⟨_, rfl⟩
  have hR1 : Arr W1 w.heap.size 24 RL := by rw [hW1]; exact Arr.new w _ _
  have hb1 : Below w.heap.size w W1 := by rw [hW1]; exact (Below.refl _ w).alloc (Nat.le_refl _) _
  have hR2 : Arr W2 w.heap.size 24 RL := by rw [hW2]; exact hR1.alloc _
  have hb2 : Below w.heap.size w W2 := by rw [hW2]; exact hb1.alloc hb1.size _
  have HRi := Lib.hid (show (Try.prog.info? 24).map (·.size) = some RL.length by rw [hRL, Lib.byteCells_length, hr]; kernel_rfl)
  have hres : chkF root key [] 0 = if r0 then some none else none := by
    unfold chkF
    rw [← hr0]
    by_cases h : root = shaF (tagF 5 [])
    · rw [if_pos ⟨rfl, h⟩, if_pos (by simpa using h)]
    · rw [if_neg (fun e => h e.2), if_neg (by simpa using h)]
  have HW1 := Lib.hid hW1
  have HW2 := Lib.hid hW2
  have HSL := Lib.hid hSL
  have Hres := Lib.hid hres
  clear hW1 hW2 hR1 hb1 hRL hSL hr0 hres
  go_enter Try.func21, Try.ntmps21
  go_upto_region 1 with fail
  change Code.wp _ _ _ _ ((w.alloc (.cells RL.toArray 24)).alloc (.cells KL.toArray 24))
  rw [← HW1.out, ← HW2.out]
  clear HW1 HW2
  go_upto_region 3 with fail
  refine wp_region_held_drew (S := fun w' => Arr w' w.heap.size 24 RL) (by kernel_rfl) (hR2.drewN 1) (fun hHeld => ?_)
  refine anyH_take (i := 0) (some 20) rfl rfl (by kernel_rfl) (by kernel_rfl) (by kernel_rfl) (fun _ _ _ h => h) (yieldsIf_load_mid (by rfl) 24 (.tmp 3) rfl w.heap.size 0 rfl RL _ (fun w' h => h.range) Try.underlying24 rfl HRi.out) (by assumption) ?_
  simp only [Act.put, List.setIfInBounds_toArray, List.set_cons_zero, List.set_cons_succ]
  refine wpAnyH_ready (rs := [1]) (by kernel_rfl) (by simp) ?_
  refine AllReadyH.cons rfl (fun K hK => ?_) AllReadyH.nil
  go_simp
  go_at_call 34
  refine Calls.mono (tag_at 5 5 [] SL none 0 0 (W2.drewN 1) rfl HSL.out rfl (by omega) (fun h => absurd h (by simp)) (by decide)) ?_
  rintro e w3 ⟨rfl, hb23⟩
  have hbx : Below W2.heap.size W2 w3 := ⟨hb23.os, hb23.tape, hb23.output, hb23.size, hb23.block⟩
  have hR3 := hR2.below hbx hR2.lt
  have hb3 : Below w.heap.size w w3 := hb2.trans (hbx.mono hb2.size)
  clear hbx hb23 hR2 hb2
  dsimp only
  go_wp2_with fail
  refine hK.out _ _ hR3 (fun hHeldx => ?_)
  clear hK K
  try simp only [Act.put, List.setIfInBounds_toArray, List.set_cons_zero, List.set_cons_succ]
  cases r0 with
  | true =>
    refine anyH_take (i := 2) (v := .bool false) (some 22) rfl rfl (by kernel_rfl) (by kernel_rfl) (by kernel_rfl) (fun _ _ _ h => h) (Or.inl ⟨by rfl, fun w' hw => by (have hc := Hcmp.out; have hg := gt32; go_simp)⟩) (by assumption) ?_
    simp only [Act.put, List.setIfInBounds_toArray, List.set_cons_zero, List.set_cons_succ]
    refine wpAnyH_done (by kernel_rfl) ?_ _
    clear hHeld hHeldx
    go_wp2_with fail
    go_ret3
    refine ⟨_, rfl, ?_, hb3⟩
    rw [show chkF root key [] 0 = some none by rw [Hres.out]; simp]
    rfl
  | false =>
    refine anyH_take (i := 2) (v := .bool true) (some 22) rfl rfl (by kernel_rfl) (by kernel_rfl) (by kernel_rfl) (fun _ _ _ h => h) (Or.inl ⟨by rfl, fun w' hw => by (have hc := Hcmp.out; have hg := gt32; go_simp)⟩) (by assumption) ?_
    simp only [Act.put, List.setIfInBounds_toArray, List.set_cons_zero, List.set_cons_succ]
    refine wpAnyH_done (by kernel_rfl) ?_ _
    clear hHeld hHeldx
    go_wp2_with fail
    go_ret3
    refine ⟨_, rfl, ?_, hb3⟩
    rw [show chkF root key [] 0 = none by rw [Hres.out]; simp]
    rfl

/-- What nodes show. -/
theorem check_run (root key : List UInt8) (hr : root.length = 32) (hk : key.length = 32) (RL KL : List Value) (hRL : RL = Lib.byteCells root) (hKL : KL = Lib.byteCells key) (rs : List (List UInt8)) (A : Option Addr) (n c : Nat) (w : World) (hn : rs.length = n) (hc : n ≤ c) (hm : c ≤ maxLen) (hrows : RowsAt w w.heap.size A rs) (h2000 : ∀ r ∈ rs, r.length ≤ 3000) (h70 : n ≤ 71) :
    Calls Try.prog 21 #[.agg RL.toArray, .agg KL.toArray, .slice A n c] w fun e w' => ∃ V, e = .returned V ∧ ShownP w' (chkF root key rs 0) V ∧ Below w.heap.size w w' := by
  rcases Nat.eq_zero_or_pos n with h0 | h0
  · subst h0
    obtain rfl := List.eq_nil_of_length_eq_zero hn
    exact check_none root key hr RL KL hRL A c w
  · exact check_some root key hr hk RL KL hRL hKL rs A n c w hn hc hm hrows h2000 h70 h0

end Go.Proofs.Ytlailhjpfadpcaa

/-
  The document's Without.
-/
import Derived.Test.YtcajhndhjlfmaaaGreatVolRefB
namespace Go.Proofs.YtcajhndhjlfmaaaGreat
open Go.RowKit
set_option linter.unusedVariables false
set_option linter.unusedSimpArgs false

theorem delV_at {L : List Vol} (h : RiseV L) {nm : ByteArray} {i : Nat} {v : Vol} (hi : L[i]? = some v) (hv : v.name = nm) : delV L nm = L.take i ++ L.drop (i + 1) := by
  unfold RiseV at h
  induction L generalizing i with
  | nil => simp at hi
  | cons y r ih =>
    rw [List.pairwise_cons] at h
    unfold delV
    cases i with
    | zero =>
      simp at hi
      subst hi
      rw [List.filter_cons_of_neg (by simp [vkey, hv])]
      simp only [List.take_zero, List.nil_append, List.drop_succ_cons, List.drop_zero]
      rw [List.filter_eq_self]
      intro u hu
      have := h.1 u hu
      rw [decide_eq_true_eq]
      intro e
      rw [vkey, vkey] at this
      rw [vkey] at e
      rw [hv, e, Go.WideAt.bytes_irrefl] at this
      cases this
    | succ i =>
      have hi' : r[i]? = some v := by simpa using hi
      have hlt := h.1 v (List.mem_of_getElem? hi')
      rw [List.filter_cons_of_pos (by
        rw [decide_eq_true_eq]
        intro e
        rw [vkey, vkey, hv] at hlt
        rw [vkey] at e
        rw [e, Go.WideAt.bytes_irrefl] at hlt
        cases hlt)]
      have := ih h.2 hi'
      unfold delV at this
      rw [this]
      simp

set_option maxHeartbeats 8000000 in
set_option maxRecDepth 100000 in
theorem rwithout_any (A : Option Addr) (n c : Nat) (L : List Vol) (i : Nat) (hi : i < n) (w : World) (G : Nat → Prop) (h : VSl w G A n c L) (hG : ∀ b, G b → b < w.heap.size) (hl : L.length ≤ 100000) :
    Calls Tryz.prog 27 #[.slice A n c, .int .i64 (i : Nat)] w fun e w' => ∃ A' n' c', e = .returned (.slice A' n' c') ∧ VSl w' (fun b => G b ∨ w.heap.size ≤ b) A' n' c' (L.take i ++ L.drop (i + 1)) ∧ Below w.heap.size w w' := by
  obtain ⟨xs, rfl, hn, hc, hm, hV, hflat⟩ := h
  rcases hflat with ⟨rfl, rfl⟩ | ⟨b, off, rfl⟩
  · omega
  have hm' : c ≤ 9223372036854775807 := by unfold maxLen at hm; omega
  have hln : n ≤ 100000 := by rw [List.length_map, hn] at hl; exact hl
  have Hsl1 := Lib.hid (show 0 ≤ (i : Int) ∧ (i : Int) ≤ (c : Int) by omega)
  have Hsl3 := Lib.hid (show 0 ≤ (i : Int) + 1 ∧ (i : Int) + 1 ≤ (n : Int) by omega)
  have Hwrap := Lib.hid (show IntKind.i64.wrap ((i : Int) + 1) = (i : Int) + 1 from IntWalk.i64_in _ (by omega))
  obtain ⟨A2, hA2⟩ : ∃ z, z = (if c = i + 1 then (some ⟨b, off, none⟩ : Option Addr) else some ⟨b, off + (i + 1) * 4, none⟩) := ⟨_, rfl⟩
  have hVt : VsAt w G A2 (xs.drop (i + 1)) := by rw [hA2]; exact hV.tail (by omega)
  have Hn := Lib.hid hn
  have HV := Lib.hid (hV.take i)
  have HVt := Lib.hid hVt
  have HG := Lib.hid hG
  have HA2 := Lib.hid hA2
  have Htk := Lib.hid (show (xs.take i).length = i by rw [List.length_take, hn]; omega)
  have Hdk := Lib.hid (show (xs.drop (i + 1)).length = n - (i + 1) by rw [List.length_drop, hn])
  clear hn hV hVt hG hA2 hl
  go_enter Tryz.func27, Tryz.ntmps27
  go_upto_region 1 with fail
  refine wp_region_held_drew (S := fun _ => True) (by kernel_rfl) trivial (fun hHeld => ?_)
  refine anyH_take (i := 1) (v := .slice (some ⟨b, off, none⟩) n c) (some 6) rfl rfl (by kernel_rfl) (by kernel_rfl) (by kernel_rfl) (fun _ _ _ h => h) (Or.inl ⟨by rfl, fun w' hw => by (go_simp)⟩) (by assumption) ?_
  simp only [Act.put, List.setIfInBounds_toArray, List.set_cons_zero, List.set_cons_succ]
  refine anyH_take (i := 2) (v := .int .i64 (i : Nat)) (some 7) rfl rfl (by kernel_rfl) (by kernel_rfl) (by kernel_rfl) (fun _ _ _ h => h) (Or.inl ⟨by rfl, fun w' hw => by (go_simp)⟩) (by assumption) ?_
  simp only [Act.put, List.setIfInBounds_toArray, List.set_cons_zero, List.set_cons_succ]
  refine anyH_take (i := 3) (v := .slice (some ⟨b, off, none⟩) i c) (some 8) rfl rfl (by kernel_rfl) (by kernel_rfl) (by kernel_rfl) (fun _ _ _ h => h) (Or.inl ⟨by rfl, fun w' hw => by (go_simp; intro hcx; omega)⟩) (by assumption) ?_
  simp only [Act.put, List.setIfInBounds_toArray, List.set_cons_zero, List.set_cons_succ]
  refine anyH_take (i := 5) (v := .slice (some ⟨b, off, none⟩) n c) (some 10) rfl rfl (by kernel_rfl) (by kernel_rfl) (by kernel_rfl) (fun _ _ _ h => h) (Or.inl ⟨by rfl, fun w' hw => by (go_simp)⟩) (by assumption) ?_
  simp only [Act.put, List.setIfInBounds_toArray, List.set_cons_zero, List.set_cons_succ]
  refine anyH_take (i := 6) (v := .int .i64 (i : Nat)) (some 11) rfl rfl (by kernel_rfl) (by kernel_rfl) (by kernel_rfl) (fun _ _ _ h => h) (Or.inl ⟨by rfl, fun w' hw => by (go_simp)⟩) (by assumption) ?_
  simp only [Act.put, List.setIfInBounds_toArray, List.set_cons_zero, List.set_cons_succ]
  refine anyH_take (i := 7) (v := .int .i64 ((i : Int) + 1)) (some 12) rfl rfl (by kernel_rfl) (by kernel_rfl) (by kernel_rfl) (fun _ _ _ h => h) (Or.inl ⟨by rfl, fun w' hw => by (have hwp := Hwrap.out; go_simp)⟩) (by assumption) ?_
  simp only [Act.put, List.setIfInBounds_toArray, List.set_cons_zero, List.set_cons_succ]
  refine anyH_take (i := 8) (v := .slice A2 (n - (i + 1)) (c - (i + 1))) (some 13) rfl rfl (by kernel_rfl) (by kernel_rfl) (by kernel_rfl) (fun _ _ _ h => h) (Or.inl ⟨by rfl, fun w' hw => by (go_simp; rw [if_pos Hsl3.out, ← HA2.out])⟩) (by assumption) ?_
  simp only [Act.put, List.setIfInBounds_toArray, List.set_cons_zero, List.set_cons_succ]
  refine wpAnyH_ready (rs := [0]) (by kernel_rfl) (by simp) ?_
  refine AllReadyH.cons rfl (fun K hK => ?_) AllReadyH.nil
  go_simp
  refine hK.out _ _ trivial (fun hHeldy => ?_)
  clear hK K
  try simp only [Act.put, List.setIfInBounds_toArray, List.set_cons_zero, List.set_cons_succ]
  change wpAnyH _ _ _ _ _ _ _ _ ((w.drewN 1).alloc (.cells #[] 71))
  have hR0 : VRow ((w.drewN 1).alloc (.cells #[] 71)) w.heap.size G (.slice (some ⟨w.heap.size, 0, none⟩) 0 0) [] := VRow.empty (w.drewN 1) w.heap.size G (Nat.le_refl _)
  have hb0 : Below w.heap.size w ((w.drewN 1).alloc (.cells #[] 71)) := (Below.dN (Below.refl _ w) 1).alloc (Nat.le_refl _) _
  obtain ⟨w1, hw1⟩ : ∃ z, z = (w.drewN 1).alloc (.cells #[] 71) := ⟨_, rfl⟩
  rw [← hw1] at hR0 hb0 ⊢
  clear hw1
  have hV1 := HV.out.below hb0
  refine wpAnyH_ready (rs := [4]) (by kernel_rfl) (by simp) ?_
  refine AllReadyH.cons rfl (fun K hK => ?_) AllReadyH.nil
  rw [if_pos (by rfl)]
  refine wp_append_vls (some 9) rfl _ _ rfl hR0 hb0.size rfl _ _ _ rfl (xs.take i) Htk.out hV1 HG.out (by simp only [List.length_nil]; omega) ?_
  intro v2 w2 hR2 hg2
  rw [List.nil_append] at hR2
  simp only [Act.put, List.setIfInBounds_toArray, List.set_cons_zero, List.set_cons_succ]
  refine hK.out _ _ trivial (fun hHeldz => ?_)
  clear hK K
  try simp only [Act.put, List.setIfInBounds_toArray, List.set_cons_zero, List.set_cons_succ]
  have hb2 : Below w.heap.size w w2 := hb0.grown hg2 hb0.size fun g hg => (hR0.lt g hg).1
  have hV2 := HVt.out.below hb2
  clear hg2 hR0 hV1
  refine wpAnyH_ready (rs := [9]) (by kernel_rfl) (by simp) ?_
  refine AllReadyH.cons rfl (fun K hK => ?_) AllReadyH.nil
  rw [if_pos (by rfl)]
  refine wp_append_vls (some 14) rfl _ _ rfl hR2 hb2.size rfl _ _ _ rfl (xs.drop (i + 1)) Hdk.out hV2 HG.out (by rw [Htk.out]; omega) ?_
  intro v3 w3 hR3 hg3
  simp only [Act.put, List.setIfInBounds_toArray, List.set_cons_zero, List.set_cons_succ]
  refine hK.out _ _ trivial (fun hHeldu => ?_)
  clear hK K
  try simp only [Act.put, List.setIfInBounds_toArray, List.set_cons_zero, List.set_cons_succ]
  have hb3 : Below w.heap.size w w3 := hb2.grown hg3 hb2.size fun g hg => (hR2.lt g hg).1
  clear hg3 hR2 hV2
  obtain ⟨A', c', hv3, hvs⟩ := hR3.vsl
  subst hv3
  have Hvs := Lib.hid hvs
  clear hvs hR3
  refine anyH_take (i := 10) (v := .slice A' (xs.take i ++ xs.drop (i + 1)).length c') (some 4) rfl rfl (by kernel_rfl) (by kernel_rfl) (by kernel_rfl) (fun _ _ _ h => h) (Or.inl ⟨by rfl, fun w' hw => by rfl⟩) (by assumption) ?_
  simp only [Act.put, List.setIfInBounds_toArray, List.set_cons_zero, List.set_cons_succ]
  refine wpAnyH_done (by kernel_rfl) ?_ _
  go_wp2_with fail
  go_ret
  refine ⟨_, _, _, rfl, ?_, hb3⟩
  have := Hvs.out
  rw [List.map_append, List.map_take, List.map_drop] at this
  exact this

end Go.Proofs.YtcajhndhjlfmaaaGreat

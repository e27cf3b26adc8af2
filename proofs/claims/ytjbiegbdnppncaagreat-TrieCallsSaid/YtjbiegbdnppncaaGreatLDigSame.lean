/-
  The document's Same, on two proofs that are one.
-/
import Derived.Test.YtjbiegbdnppncaaGreatLMerkArg
import Derived.Test.YtjbiegbdnppncaaGreatK01
namespace Go.Proofs.YtjbiegbdnppncaaGreat
open Go.RowKit
set_option linter.unusedVariables false
set_option linter.unusedSimpArgs false

set_option maxHeartbeats 4000000 in
set_option maxRecDepth 100000 in
theorem digSame_any (ds : List (List UInt8)) (A A' : Option Addr) (n c c' : Nat) (w : World) (hn : ds.length = n) (hc : n ≤ c) (hm : c ≤ 9223372036854775807) (hc' : n ≤ c') (hm' : c' ≤ 9223372036854775807) (h : DigsAt w A ds) (h' : DigsAt w A' ds) :
    Calls Tryz.prog 19 #[.slice A n c, .slice A' n c'] w fun e w' => e = .returned (.bool true) ∧ Drawn w w' := by
  have hb0 : ((n : Int) != (n : Int)) = false := by simp
  have Hn := Lib.hid hn
  have hgt := gt32
  clear hn
  go_enter Tryz.func19, Tryz.ntmps19
  go_wp2_with fail
  go_loopw [5] (fun i wr => ∃ k : Nat, k ≤ n ∧ i = .int .i64 k ∧ Drawn w wr) (fun i _ => n - (intOf i).toNat)
  case atStart => exact ⟨0, Nat.zero_le _, rfl, Drawn.refl _⟩
  case round =>
    obtain ⟨k, hk, rfl, nd, rfl⟩ := hrel
    by_cases hlt : k < n
    · have hkd : k < ds.length := by rw [Hn.out]; exact hlt
      obtain ⟨b, off, rfl, hb, hd⟩ := h (by omega)
      obtain ⟨b', off', rfl, hb', hd'⟩ := h' (by omega)
      obtain ⟨h32, hr⟩ := hd k hkd
      obtain ⟨_, hr'⟩ := hd' k hkd
      obtain ⟨x, hx⟩ : ∃ x, ds.getD k [] = x := ⟨_, rfl⟩
      rw [hx] at h32 hr hr'
      obtain ⟨VL, hV⟩ : ∃ V, V = Lib.byteCells x := ⟨_, rfl⟩
      rw [← hV] at hr hr'
      have heq := fun w => eqv_at Tryz.underlying24 x x h32 h32 VL VL hV hV w
      rw [decide_eq_true rfl] at heq
      have HVz := Lib.hid (show (Tryz.prog.info? 24).map (·.size) = some VL.length by rw [hV, Lib.byteCells_length, h32]; exact digInfo)
      have hki : (k : Int) < (n : Int) := by omega
      have hr2 : (w.drewN nd).drew.rangeAt b (off + k * 32) VL := hr
      have hr3 : (w.drewN nd).drew.rangeAt b' (off' + k * 32) VL := hr'
      clear hx hV hd hd'
      go_wp2_with fail
      refine wp_region_held_drew (S := fun w' => w'.rangeAt b (off + k * 32) VL ∧ w'.rangeAt b' (off' + k * 32) VL) (by kernel_rfl) ⟨hr2, hr3⟩ (fun hHeld => ?_)
      refine anyH_take (i := 0) (v := .slice (some ⟨b, off, none⟩) n c) (some 17) rfl rfl (by kernel_rfl) (by kernel_rfl) (by kernel_rfl) (fun _ _ _ h => h) (Or.inl ⟨by rfl, fun _ hw => by rfl⟩) (by assumption) ?_
      simp only [Act.put, List.setIfInBounds_toArray, List.set_cons_zero, List.set_cons_succ]
      refine anyH_take (i := 1) (v := .int .i64 (k : Nat)) (some 18) rfl rfl (by kernel_rfl) (by kernel_rfl) (by kernel_rfl) (fun _ _ _ h => h) (Or.inl ⟨by rfl, fun _ hw => by rfl⟩) (by assumption) ?_
      simp only [Act.put, List.setIfInBounds_toArray, List.set_cons_zero, List.set_cons_succ]
      refine anyH_take (i := 2) (v := .pointer (some ⟨b, off + k * 32, none⟩)) (some 19) rfl rfl (by kernel_rfl) (by kernel_rfl) (by kernel_rfl) (fun _ _ _ h => h) (Or.inl ⟨by rfl, fun _ hw => by go_simp⟩) (by assumption) ?_
      simp only [Act.put, List.setIfInBounds_toArray, List.set_cons_zero, List.set_cons_succ]
      refine anyH_take (i := 3) (some 20) rfl rfl (by kernel_rfl) (by kernel_rfl) (by kernel_rfl) (fun _ _ _ h => h) (yieldsIf_load_mid (by rfl) 24 (.tmp 19) rfl b (off + k * 32) rfl VL _ (fun _ h => h.1) Tryz.underlying24 rfl HVz.out) (by assumption) ?_
      simp only [Act.put, List.setIfInBounds_toArray, List.set_cons_zero, List.set_cons_succ]
      refine anyH_take (i := 4) (v := .slice (some ⟨b', off', none⟩) n c') (some 21) rfl rfl (by kernel_rfl) (by kernel_rfl) (by kernel_rfl) (fun _ _ _ h => h) (Or.inl ⟨by rfl, fun _ hw => by rfl⟩) (by assumption) ?_
      simp only [Act.put, List.setIfInBounds_toArray, List.set_cons_zero, List.set_cons_succ]
      refine anyH_take (i := 5) (v := .int .i64 (k : Nat)) (some 22) rfl rfl (by kernel_rfl) (by kernel_rfl) (by kernel_rfl) (fun _ _ _ h => h) (Or.inl ⟨by rfl, fun _ hw => by rfl⟩) (by assumption) ?_
      simp only [Act.put, List.setIfInBounds_toArray, List.set_cons_zero, List.set_cons_succ]
      refine anyH_take (i := 6) (v := .pointer (some ⟨b', off' + k * 32, none⟩)) (some 23) rfl rfl (by kernel_rfl) (by kernel_rfl) (by kernel_rfl) (fun _ _ _ h => h) (Or.inl ⟨by rfl, fun _ hw => by go_simp⟩) (by assumption) ?_
      simp only [Act.put, List.setIfInBounds_toArray, List.set_cons_zero, List.set_cons_succ]
      refine anyH_take (i := 7) (some 24) rfl rfl (by kernel_rfl) (by kernel_rfl) (by kernel_rfl) (fun _ _ _ h => h) (yieldsIf_load_mid (by rfl) 24 (.tmp 23) rfl b' (off' + k * 32) rfl VL _ (fun _ h => h.2) Tryz.underlying24 rfl HVz.out) (by assumption) ?_
      simp only [Act.put, List.setIfInBounds_toArray, List.set_cons_zero, List.set_cons_succ]
      refine anyH_take (i := 8) (v := .bool false) (some 25) rfl rfl (by kernel_rfl) (by kernel_rfl) (by kernel_rfl) (fun _ _ _ h => h) (Or.inl ⟨by rfl, fun _ hw => by go_simp⟩) (by assumption) ?_
      simp only [Act.put, List.setIfInBounds_toArray, List.set_cons_zero, List.set_cons_succ]
      refine wpAnyH_done (by kernel_rfl) ?_ _
      clear hHeld heq
      go_wp2_with fail
      go_roundw
      case rel => exact ⟨k + 1, by omega, by go_num, nd + 1, rfl⟩
      case measure => simp [intOf]; omega
    · go_wp2_with fail
      go_ret
      exact ⟨rfl, nd, rfl⟩

end Go.Proofs.YtjbiegbdnppncaaGreat

/-
  The document's Same, on two rows of items that are one.
-/
import Derived.Test.YtfelacpaaialfaaDoorIxItem
namespace Go.Proofs.YtfelacpaaialfaaDoor
open Go.RowKit
set_option linter.unusedVariables false
set_option linter.unusedSimpArgs false

theorem yieldsIf_neqI {P : Program} {ops : Array Oper} {S : World → Prop} {op : Oper} {a : Act} (hw : Region.wanted op (yielded ops a.tmps) = true) (ty ty2 : TypeId) (x y : Operand) (ho : op.op = .binOp .neq ty x y ty2)
    (X Y : List Value) (hx : a.eval x = .agg X.toArray) (hy : a.eval y = .agg Y.toArray) (b r : Bool) (hr : (!b) = r) (he : ∀ w, (Op.equalIn 10000 ty (.agg X.toArray) (.agg Y.toArray)).run P w = .ok b w) (hm : P.eqGuardType P.depth ty = false) : YieldsIf P ops S op (.bool r) a :=
  .inl ⟨hw, fun w _ => by
    subst hr
    unfold execOp
    simp only [ho, hx, hy, Sem.run_bind, Sem.run_pure, Result.andThen_ok, run_eqGuard_agg, run_neq_struct, he, hm]⟩
/-- A row of items. -/
def ItRow (w : World) (A : Option Addr) (xs : List Ix) : Prop :=
  0 < xs.length → ∃ b off, A = some ⟨b, off, none⟩ ∧ b < w.heap.size ∧ ∀ i x, xs[i]? = some x → x.d.length = 32 ∧ w.rangeAt b (off + i * 35) (itC x)
theorem ItRow.nil (w : World) (A : Option Addr) : ItRow w A [] := fun h => absurd h (Nat.lt_irrefl 0)
theorem ItRow.below {w w' : World} {A : Option Addr} {xs : List Ix} (h : ItRow w A xs) (hB : Below w.heap.size w w') : ItRow w' A xs := fun hn => by
  obtain ⟨b, off, e, hb, hc⟩ := h hn
  refine ⟨b, off, e, Nat.lt_of_lt_of_le hb hB.size, fun i x hx => ⟨(hc i x hx).1, fun j v hj => ?_⟩⟩
  rw [hB.cell (p := ⟨b, _, none⟩) hb]
  exact (hc i x hx).2 j v hj

set_option maxHeartbeats 4000000 in
set_option maxRecDepth 100000 in
theorem ixsame_any (xs : List Ix) (A A' : Option Addr) (n c c' : Nat) (w : World) (hn : xs.length = n) (hc : n ≤ c) (hm : c ≤ 9223372036854775807) (hc' : n ≤ c') (hm' : c' ≤ 9223372036854775807) (h : ItRow w A xs) (h' : ItRow w A' xs) :
    Calls Tryd.prog 7 #[.slice A n c, .slice A' n c'] w fun e w' => e = .returned (.bool true) ∧ Drawn w w' := by
  have hb0 : ((n : Int) != (n : Int)) = false := by simp
  have Hn := Lib.hid hn
  clear hn
  go_enter Tryd.func7, Tryd.ntmps7
  go_wp2_with fail
  go_loopw [5] (fun i wr => ∃ k : Nat, k ≤ n ∧ i = .int .i64 k ∧ Drawn w wr) (fun i _ => n - (intOf i).toNat)
  case atStart => exact ⟨0, Nat.zero_le _, rfl, Drawn.refl _⟩
  case round =>
    obtain ⟨k, hk, rfl, nd, rfl⟩ := hrel
    by_cases hlt : k < n
    · have hkd : k < xs.length := by rw [Hn.out]; exact hlt
      obtain ⟨x, hx⟩ : ∃ x, xs[k]? = some x := ⟨_, List.getElem?_eq_getElem hkd⟩
      obtain ⟨b, off, rfl, hb, hd⟩ := h (by omega)
      obtain ⟨b', off', rfl, hb', hd'⟩ := h' (by omega)
      obtain ⟨h32, hr⟩ := hd k x hx
      obtain ⟨_, hr'⟩ := hd' k x hx
      obtain ⟨VL, hV⟩ : ∃ V, V = itC x := ⟨_, rfl⟩
      rw [← hV] at hr hr'
      have Heq := Lib.hid (fun w : World => show (Op.equalIn 10000 61 (.agg VL.toArray) (.agg VL.toArray)).run Tryd.prog w = .ok true w by rw [item_eqv x x h32 h32 VL VL hV hV w, decide_eq_true rfl])
      have HVz := Lib.hid (show (Tryd.prog.info? 61).map (·.size) = some VL.length by rw [hV, itC_length h32]; exact itInfo)
      have hki : (k : Int) < (n : Int) := by omega
      have hr2 : (w.drewN nd).drew.rangeAt b (off + k * 35) VL := hr
      have hr3 : (w.drewN nd).drew.rangeAt b' (off' + k * 35) VL := hr'
      clear hx hV hd hd'
      go_wp2_with fail
      refine wp_region_held_drew (S := fun w' => w'.rangeAt b (off + k * 35) VL ∧ w'.rangeAt b' (off' + k * 35) VL) (by kernel_rfl) ⟨hr2, hr3⟩ (fun hHeld => ?_)
      refine anyH_take (i := 0) (v := .slice (some ⟨b, off, none⟩) n c) (some 17) rfl rfl (by kernel_rfl) (by kernel_rfl) (by kernel_rfl) (fun _ _ _ h => h) (Or.inl ⟨by rfl, fun w' hw => by rfl⟩) (by assumption) ?_
      simp only [Act.put, List.setIfInBounds_toArray, List.set_cons_zero, List.set_cons_succ]
      refine anyH_take (i := 1) (v := .int .i64 (k : Nat)) (some 18) rfl rfl (by kernel_rfl) (by kernel_rfl) (by kernel_rfl) (fun _ _ _ h => h) (Or.inl ⟨by rfl, fun w' hw => by rfl⟩) (by assumption) ?_
      simp only [Act.put, List.setIfInBounds_toArray, List.set_cons_zero, List.set_cons_succ]
      refine anyH_take (i := 2) (v := .pointer (some ⟨b, off + k * 35, none⟩)) (some 19) rfl rfl (by kernel_rfl) (by kernel_rfl) (by kernel_rfl) (fun _ _ _ h => h) (Or.inl ⟨by rfl, fun w' hw => by go_simp⟩) (by assumption) ?_
      simp only [Act.put, List.setIfInBounds_toArray, List.set_cons_zero, List.set_cons_succ]
      refine anyH_take (i := 3) (v := .agg VL.toArray) (some 20) rfl rfl (by kernel_rfl) (by kernel_rfl) (by kernel_rfl) (fun _ _ _ h => h) (yieldsIf_load_mid (by rfl) 61 (.tmp 19) rfl b (off + k * 35) rfl VL _ (fun w' h => h.1) Tryd.underlying61 rfl HVz.out) (by assumption) ?_
      simp only [Act.put, List.setIfInBounds_toArray, List.set_cons_zero, List.set_cons_succ]
      refine anyH_take (i := 4) (v := .slice (some ⟨b', off', none⟩) n c') (some 21) rfl rfl (by kernel_rfl) (by kernel_rfl) (by kernel_rfl) (fun _ _ _ h => h) (Or.inl ⟨by rfl, fun w' hw => by rfl⟩) (by assumption) ?_
      simp only [Act.put, List.setIfInBounds_toArray, List.set_cons_zero, List.set_cons_succ]
      refine anyH_take (i := 5) (v := .int .i64 (k : Nat)) (some 22) rfl rfl (by kernel_rfl) (by kernel_rfl) (by kernel_rfl) (fun _ _ _ h => h) (Or.inl ⟨by rfl, fun w' hw => by rfl⟩) (by assumption) ?_
      simp only [Act.put, List.setIfInBounds_toArray, List.set_cons_zero, List.set_cons_succ]
      refine anyH_take (i := 6) (v := .pointer (some ⟨b', off' + k * 35, none⟩)) (some 23) rfl rfl (by kernel_rfl) (by kernel_rfl) (by kernel_rfl) (fun _ _ _ h => h) (Or.inl ⟨by rfl, fun w' hw => by go_simp⟩) (by assumption) ?_
      simp only [Act.put, List.setIfInBounds_toArray, List.set_cons_zero, List.set_cons_succ]
      refine anyH_take (i := 7) (v := .agg VL.toArray) (some 24) rfl rfl (by kernel_rfl) (by kernel_rfl) (by kernel_rfl) (fun _ _ _ h => h) (yieldsIf_load_mid (by rfl) 61 (.tmp 23) rfl b' (off' + k * 35) rfl VL _ (fun w' h => h.2) Tryd.underlying61 rfl HVz.out) (by assumption) ?_
      simp only [Act.put, List.setIfInBounds_toArray, List.set_cons_zero, List.set_cons_succ]
      refine anyH_take (i := 8) (v := .bool false) (some 25) rfl rfl (by kernel_rfl) (by kernel_rfl) (by kernel_rfl) (fun _ _ _ h => h) (yieldsIf_neqI (by rfl) 61 _ _ _ rfl VL VL rfl rfl true false rfl Heq.out itGuard) (by assumption) ?_
      simp only [Act.put, List.setIfInBounds_toArray, List.set_cons_zero, List.set_cons_succ]
      refine wpAnyH_done (by kernel_rfl) ?_ _
      clear hHeld
      go_wp2_with fail
      go_roundw
      case rel => exact ⟨k + 1, by omega, by go_num, nd + 1, rfl⟩
      case measure => simp [intOf]; omega
    · go_wp2_with fail
      go_ret
      exact ⟨rfl, nd, rfl⟩

end Go.Proofs.YtfelacpaaialfaaDoor

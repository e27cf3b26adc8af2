/-
  The index of any bytes is told exactly, or that there is none. Conditions: the package-level variable index.nowhere begins as the program's text lays it (the card ties it).
-/
import Derived.Test.YtfelacpaaialfaaDoorIndexReadsWalk
import Derived.Test.YtfelacpaaialfaaDoorRows
import Derived.ProofKit
import Derived.OpenShut
import Derived.ShutString
import Derived.ChangeOld
import Derived.ChangeSame
import Derived.Below
import Derived.LaidMore
import Derived.Stop.Joined
namespace Go.Proofs.YtfelacpaaialfaaDoor.indexReads
open Go.ChangeShapes Go.WideShapes Go.ChangeAt Go.RowKit
set_option linter.unusedVariables false

theorem own : ownKnob Tryd.prog.godebug = none := by kernel_rfl
theorem laidOut : laidOutB Tryd.prog = true := by kernel_rfl
def laidN : List (String × DataW Unit) := [("sporran/index.nowhere", .agg [.lit (.int .i64 (-1)), .lit (.int .i64 0)])]
theorem gNow : Tryd.prog.globalNamed "sporran/index.nowhere" = some 0 := by kernel_rfl
theorem tNow : (Tryd.prog.globals[0]?).map (·.type) = some 48 := by kernel_rfl

/-- The door's own heap meets the condition. -/
theorem door_met (os : Os) (args : Array Value) : laidMetH Tryd.prog laidN ((World.doorLaid Tryd.prog 400 os).forCall (fun _ _ => 0) ⟨#[], args, []⟩).memory :=
  laidMetH_of_parts3 (fuel := 8) (laidMet_of_run' 8 (by kernel_rfl) (by kernel_rfl)) (by kernel_rfl) (by kernel_rfl)

/-- What the condition gives the walk. -/
theorem of_laid {W : World} (h : laidMetH Tryd.prog laidN W) : W.rangeAt 0 0 (plC (-1) 0) := by
  rw [MakeChecks.laidMetH_plain _ _ _ (by kernel_rfl)] at h
  obtain ⟨ps, ⟨g0, t0, cs0, f0, p0, q0, hg0, ht0, hv0, hd0, _, _⟩, _, _⟩ := h
  obtain rfl := Option.some.inj (gNow.symm.trans hg0)
  obtain rfl := Option.some.inj (tNow.symm.trans ht0)
  obtain ⟨f, g, hl, ⟨f1, f2, f3⟩, ⟨g1, g2, g3⟩⟩ := pl_list
  have hfs : Tryd.prog.fieldsOf 48 = #[f, g] := by rw [← Array.toArray_toList (xs := Tryd.prog.fieldsOf 48), hl]
  have hu := pl_under
  rw [hfs] at hu
  obtain ⟨y0, y1, n, hx, hlen, e0, e1⟩ := trod_struct2 hu hd0
  rw [f2, f3] at e0
  rw [g2, g3] at e1
  have c1 : Tryd.prog.cellsOf 3 = 1 := by kernel_rfl
  have c2 : Tryd.prog.cellsOf 48 = 2 := by kernel_rfl
  rw [c1] at e0 e1
  rw [c2] at hlen
  simp only [Prod.mk.injEq, DataW.agg.injEq, List.cons.injEq, and_true] at hx
  obtain ⟨⟨x1, x2⟩, _⟩ := hx
  obtain ⟨k, a1, a2, _⟩ := DataW.trod_int Tryd.underlying3 e0
  obtain ⟨m, b1, b2, _⟩ := DataW.trod_int Tryd.underlying3 e1
  have hk : k = -1 := by rw [a2] at x1; simpa using x1.symm
  have hm : m = 0 := by rw [b2] at x2; simpa using x2.symm
  subst hk hm
  obtain ⟨l⟩ := cs0
  match l, hlen, a1, b1 with
  | [u, v], _, a1, b1 =>
    simp at a1 b1
    subst a1 b1
    have r0 := World.var?_cell hg0 hv0 0
    have r1 := World.var?_cell hg0 hv0 1
    intro j v hj
    match j, hj with
    | 0, hj => simp [plC] at hj; subst hj; simpa using r0
    | 1, hj => simp [plC] at hj; subst hj; simpa using r1
    | j + 2, hj => simp [plC] at hj

set_option maxHeartbeats 1000000 in
set_option maxRecDepth 100000 in
theorem lifted (os : Os) (started : os.Started) (H : Type) (enc : TypeId × Value → H) :
    ReturnsInHanded {} Tryd.checked os 3 .any (fun w args => (Rows.indexReadsSpec.pre enc Tryd.prog Tryd.f3 [] false w args ∧ laidMetH Tryd.prog laidN w) ∧ sizedMet enc Tryd.prog Tryd.f3 (OpenSpec.ofChange Rows.indexReadsSpec) false w args) (Rows.indexReadsSpec.post enc Tryd.prog Tryd.f3 false true false false) := by
  refine returnsInHanded_of_change_and (C := Tryd.checked) (X := fun w _ => laidMetH Tryd.prog laidN w) (fun _ _ _ hh h => h.of_heap hh) own started (by kernel_rfl) Tryd.func3
    (ChangeSpec.witness_shaped (enc := enc) (C := Tryd.checked) (os := os) (X := fun w _ => laidMetH Tryd.prog laidN w) false (World.doorLaid Tryd.prog 400 os) #[.slice none 0 0] 8 rfl (World.shaped_of_RefB (by kernel_rfl) (by kernel_rfl)) (by kernel_rfl) (by kernel_rfl) (by kernel_rfl) (door_met os _)) ?_
  intro W base args ds gs before hval0 hW _ _ hL _
  have hval : ∀ (j : Nat) t v, Tryd.f3.params[j]? = some t → args[j]? = some v → Value.okWide Tryd.prog W .any base t v := hval0
  have hW' := hW
  obtain ⟨p, q, hA0, hV, rfl, hfz, hnd⟩ := hW
  have hA : DataW.TrodAll enc Tryd.prog W 0 (fun _ => true) true Tryd.f3.params.toList args.toList ds p := hA0
  rw [Tryd.params3] at hA hval
  obtain ⟨v0, vs0, d0, ds0, p0, q0, hargs, rfl, rfl, h0, r0⟩ := trodAll_cons hA
  obtain ⟨rfl, rfl, rfl⟩ := trodAll_nil r0
  obtain rfl : args = #[v0] := by cases args; simp_all
  obtain ⟨rfl, rfl⟩ := trodVars_none hV
  obtain ⟨A0, len0, cap0, rfl⟩ := okWide_slice Tryd.underlying22 (hval 0 22 v0 rfl rfl)
  have k0 := h0
  have lt0 : ∀ x ∈ p0, x.block < W.heap.size := by obtain ⟨m, hm⟩ := k0; exact DataW.trod_lt m _ _ _ hm
  obtain ⟨l0, hl0, hc0, hm0, hb0⟩ : ∃ l : List UInt8, l.length = len0 ∧ len0 ≤ cap0 ∧ cap0 ≤ maxLen ∧ Bs W W.heap.size A0 l := by
    obtain ⟨fuel, hf⟩ := h0
    rcases open_ints Tryd.underlying22 Tryd.underlying5 (by kernel_rfl) hf with ⟨hcs, _⟩ | ⟨x, l, c, zs, hcs, _, hl, hm, hz, _, hcell, hwz⟩
    · simp [Value.cells] at hcs
      obtain ⟨rfl, rfl, rfl⟩ := hcs
      exact ⟨[], rfl, Nat.le_refl _, by unfold maxLen; omega, Bs.nil _ _ _⟩
    · simp [Value.cells] at hcs
      obtain ⟨rfl, rfl, rfl⟩ := hcs
      obtain ⟨l', hl', hb'⟩ := bs_of_ints (w := W) (len := len0) (zs := zs) (Nat.le_trans hl (Nat.le_of_eq (show cap0 = zs.length by simpa using hz.symm))) hcell (fun n hn => bounds_u8 (hwz n hn))
      exact ⟨l', hl', hl, hm, hb'⟩
  subst hl0
  have hnw := of_laid hL
  have hW0 : 0 < W.heap.size := by
    have h2 : W.cell? ⟨0, 0, none⟩ = some (.int .i64 (-1)) := hnw 0 _ rfl
    rcases Nat.eq_zero_or_pos W.heap.size with e | e
    · have : W.heap[0]? = none := Array.getElem?_eq_none (by omega)
      simp [World.cell?, this] at h2
    · exact e
  clear hA0 hval0
  refine (ireads_walk A0 l0.length cap0 l0 rfl hc0 hm0 W hb0 hW0 hnw).mono fun e W' ⟨he, bel⟩ => ?_
  subst he
  exact ⟨_, rfl, _, _, _, [], _, [], hW', trodAll_mk1 (shut_bool Tryd.underlying4 _), (trodAll_cons_mk (Below.trod laidOut (by kernel_rfl) (of_decide_eq_true (by kernel_rfl)) k0 bel lt0) trodAll_mk0), rfl, bel.frame _, fun h => by cases h⟩

theorem over : Rows.indexReadsRow.holds Tryd.pinned (OpenSpec.ofChange Rows.indexReadsSpec) :=
  OpenClaim.holds_of_wide 3 Tryd.f3 rfl rfl rfl rfl rfl rfl rfl ⟨rfl, rfl, rfl, rfl, rfl⟩ rfl rfl rfl rfl rfl (by kernel_rfl) Tryd.func3 (by kernel_rfl)
    (of_decide_eq_true (by kernel_rfl)) (by unfold Func.isWrapper; first | (rw [if_pos (by decide +kernel)]; kernel_rfl) | (rw [if_neg (by decide +kernel)]; exact ⟨rfl, rfl⟩))
    (fun os started H enc _ => lifted os started H enc)

theorem row_holds : Rows.IndexReadsSaid := over

end Go.Proofs.YtfelacpaaialfaaDoor.indexReads

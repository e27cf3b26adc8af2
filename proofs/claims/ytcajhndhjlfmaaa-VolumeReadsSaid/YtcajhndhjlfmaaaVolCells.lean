/-
  The cells of a volume.
-/
import Derived.Test.YtcajhndhjlfmaaaVolRows
import Derived.Test.YtcajhndhjlfmaaaVolSorted
import Derived.Deep.DeepCutAuto
import Derived.Deep.CutBlock
import Derived.IntWalk
namespace Go.Proofs.Ytcajhndhjlfmaaa
open Go.RowKit
set_option linter.unusedVariables false
set_option linter.unusedSimpArgs false

theorem row_formV {w : World} {B : Nat} {e : TypeId} {sz : Nat} {v : Value} {n m : Nat} {xs : List Value} (h : w.ownsRow B e sz v n xs) (hn : n = m) : ∃ A c, v = .slice A m c ∧ m ≤ c := by
  subst hn
  rcases h.2 with ⟨e, h0⟩ | ⟨g, cap, cur, e, _, _, h, _⟩
  · exact ⟨none, 0, by rw [e, h0], by omega⟩
  · exact ⟨_, cap, e, h⟩
theorem row_cellV {w : World} {B : Nat} {e : TypeId} {A : Option Addr} {n c : Nat} {xs : List Value} (h : w.ownsRow B e 1 (.slice A n c) n xs) {k : Nat} {x : Value} (hk : k < n) (hx : xs[k]? = some x) : ∃ g, A = some ⟨g, 0, none⟩ ∧ g < w.heap.size ∧ w.cell? ⟨g, k, none⟩ = some x := by
  rcases h.2 with ⟨e, h0⟩ | ⟨g, cap, cur, e, _, hg, _⟩
  · omega
  · injection e with e1 e2 e3
    subst e1
    refine ⟨g, rfl, (Array.getElem?_eq_some_iff.1 hg).1, ?_⟩
    have := World.ownsRow.cells h (g := g) rfl k x hx
    have hadd : (⟨g, 0, none⟩ : Addr).add k = ⟨g, 0 + k, none⟩ := by unfold Addr.add; split <;> simp_all
    rwa [hadd, Nat.zero_add] at this
theorem getC_at {cs : List Cl} (hr : Rise cs) {k : Nat} {c : Cl} (hk : cs[k]? = some c) : atC cs (c.1 : Nat) = c.2 := by
  unfold atC
  rw [getC_of hr (f := c.2) (List.mem_of_getElem? hk)]
  rfl

set_option maxHeartbeats 4000000 in
set_option maxRecDepth 100000 in
theorem cells_any (m : Vm) (w : World) (h : VmOk w m) : Calls Try.prog 42 #[.pointer (some ⟨m.vb, 0, none⟩)] w fun e w' =>
    ∃ v, e = .returned v ∧ CRow w' w.heap.size v m.v.cells ∧ Below w.heap.size w w' := by
  obtain ⟨i0, hi, hz0, hz1, hz2⟩ := info_partsV clAll
  have hle := h.ok.le
  have hq := h.ok.q
  have hc2 := h.hv.cell 2
  simp only [List.getElem?_cons_succ, List.getElem?_cons_zero] at hc2
  have hlen := h.len 3
  obtain ⟨n, hn⟩ : ∃ n, m.v.cells.length = n := ⟨_, rfl⟩
  rw [hn] at hlen
  have hnb : n ≤ 1048576 := by omega
  obtain ⟨w1, hmk, hrow1, hg1⟩ := run_make_own (P := Try.prog) w w.heap.size 81 85 i0 _ 33 Try.underlying81 hi hz0 hz1 .i64 .i64 n (by rw [hz2]; omega) (by unfold maxLen; omega) (Nat.le_refl _)
  have hb1 : Below w.heap.size w w1 := (Below.refl _ w).grown hg1 (Nat.le_refl _) (by intro k hk; cases hk)
  have h1 : VmOk w1 m := h.kept (hb1.block _ h.hv.lt) (hb1.block _ (World.ownsMap.lt h.hc))
  have hC1 : CRow w1 w.heap.size (.slice (some ⟨w.heap.size, 0, none⟩) 0 n) [] := ⟨by simp, hrow1⟩
  have hd2 := h1.hv.cell 2
  simp only [List.getElem?_cons_succ, List.getElem?_cons_zero] at hd2
  have Hh := Lib.hid h
  have Hn := Lib.hid hn
  have Hh1 := Lib.hid h1
  have HC1 := Lib.hid hC1
  have Hb1 := Lib.hid hb1
  have hz1' := hb1.size
  clear h h1 hn hi hz0 hz1 hz2 hrow1 hg1 hC1 hb1
  go_enter Try.func42, Try.ntmps42
  go_upto_region 2 with fail
  clear hmk hlen hc2
  go_wp2_with fail
  refine Calls.mono (keysI_any m.bb w1) ?_
  rintro e w2 ⟨rfl, rfl⟩
  clear hd2
  go_wp2_with fail
  refine Calls.mono (sortedI_any m w1 Hh1.out) ?_
  rintro e w3 ⟨v, rfl, hrow3, hb3⟩
  obtain ⟨A, c, rfl, hnc⟩ := row_formV hrow3 Hn.out
  have hC3 : CRow w3 w.heap.size (.slice (some ⟨w.heap.size, 0, none⟩) 0 n) [] := by
    refine ⟨by simp, HC1.out.2.1, ?_⟩
    rcases HC1.out.2.2 with h0 | ⟨g, cap, cur, e, e1, e2, e3⟩
    · exact .inl h0
    · exact .inr ⟨g, cap, cur, e, e1, (hb3.block g (Array.getElem?_eq_some_iff.1 e2).1).trans e2, e3⟩
  have hb13 : Below w.heap.size w w3 := Hb1.out.trans (hb3.mono Hb1.out.size)
  rw [Hn.out] at hrow3
  have Hrow3 := Lib.hid hrow3
  clear hrow3 hb3
  go_wp2_with fail
  go_loopw [3, 19] (fun t i wr => ∃ k : Nat, k ≤ n ∧ i = .int .i64 k ∧ CRow wr w.heap.size t (m.v.cells.take k) ∧ wr.ownsRow (w1.heap.size + 1) 3 1 (.slice A n c) n (m.v.cells.map fun c => .int .i64 (c.1 : Nat)) ∧ Below w.heap.size w wr) (fun _ i _ => n - (Go.RowKit.intOf i).toNat)
  case atStart => exact ⟨0, Nat.zero_le _, rfl, by rw [List.take_zero]; exact hC3, Hrow3.out, hb13⟩
  case round =>
    clear hC3 hb13
    obtain ⟨k, hk, rfl, hC, hrow, hbr⟩ := hrel
    by_cases hlt : k < n
    · have hd1 : decide ((k : Int) < (n : Int)) = true := by simp; omega
      obtain ⟨y, hy⟩ : ∃ y, m.v.cells[k]? = some y := ⟨m.v.cells[k]'(by rw [Hn.out]; exact hlt), List.getElem?_eq_getElem _⟩
      obtain ⟨g, rfl, hglt, hcell⟩ := row_cellV hrow hlt (x := .int .i64 (y.1 : Nat)) (by rw [List.getElem?_map, hy]; rfl)
      have hvr : VmOk wr m := Hh.out.kept (hbr.block _ Hh.out.hv.lt) (hbr.block _ (World.ownsMap.lt Hh.out.hc))
      have hyo := hvr.ok.c y (List.mem_of_getElem? hy)
      have hcr := hvr.hv.cell 2
      simp only [List.getElem?_cons_succ, List.getElem?_cons_zero] at hcr
      have hlook := hvr.look1 (n := (y.1 : Nat)) (by omega) (by omega)
      rw [getC_at hvr.ok.rs hy] at hlook
      obtain ⟨DL, hDL⟩ : ∃ DL, DL = Lib.byteCells y.2 := ⟨_, rfl⟩
      rw [← hDL] at hlook
      have hDl : DL.length = 32 := by rw [hDL, Lib.byteCells_length]; exact hyo.2
      obtain ⟨yn, hyn⟩ : ∃ yn, y.1 = yn := ⟨_, rfl⟩
      rw [hyn] at hlook hcell
      have HBt := Lib.hid (cl_built (yn : Nat) DL hDl)
      have HVL : Hid ((Value.int .i64 (yn : Nat) :: DL) = cellC y) := by rw [hDL, ← hyn]; rfl
      have HVl := Lib.hid (show (Value.int .i64 (yn : Nat) :: DL).length = 33 by rw [List.length_cons, hDl])
      obtain ⟨VL, hVLe⟩ : ∃ VL, VL = (Value.int .i64 (yn : Nat) :: DL) := ⟨_, rfl⟩
      rw [← hVLe] at HBt HVL HVl
      have Hy := Lib.hid hy
      have Hyo := Lib.hid hyo.2
      have HDL := Lib.hid hDL
      have htl : (m.v.cells.take k).length ≤ 2000000 := by rw [List.length_take]; have := Hh.out.ok.le; have := Hh.out.ok.q; omega
      have hbrs := hbr.size
      have Hts := Lib.hid (show m.v.cells.take (k + 1) = m.v.cells.take k ++ [y] from by
        obtain ⟨hl, he⟩ := List.getElem?_eq_some_iff.1 hy
        rw [List.take_succ_eq_append_getElem hl, he])
      have hne := rows_apart hC.2 hrow (by decide)
      have hlt3 := hC.lt
      have hba : Below wr.heap.size wr (wr.alloc (.cells VL.toArray 85)) := (Below.refl _ _).alloc (Nat.le_refl _) _
      have hCa := hC.up hba
      have hrowa := World.ownsRow.alloc hrow (.cells VL.toArray 85)
      have hbra : Below w.heap.size w (wr.alloc (.cells VL.toArray 85)) := hbr.trans (hba.mono hbrs)
      have Ha := Lib.hid (Arr.new wr 85 VL)
      have hsza : w.heap.size ≤ (wr.alloc (.cells VL.toArray 85)).heap.size := hbra.size
      clear hy hyo hyn hDl hDL hVLe hvr hC hrow hbr hba
      go_wp2_with (first
        | (refine wpList_builtV rfl _ _ rfl _ rfl VL.toArray HBt.out ?_)
        | (refine wpList_build_cl rfl _ rfl VL HVl.out rfl ?_)
        | (refine wpList_append_cl rfl _ _ rfl hCa hsza rfl _ _ rfl y Hyo.out VL HVL.out Ha.out htl ?_))
      intro v' w' hC' hg'
      rw [← Hts.out] at hC'
      have hrow' := World.ownsRow.kept hrowa hg' (by
        rcases hob : u3.ownBlock with _ | g'
        · exact .inr (by simp [Value.ownBlock])
        · exact .inr fun e => hne g' hob e)
      have hb' : Below w.heap.size w w' := hbra.grown hg' hsza fun g' hg => (hlt3 g' hg).1
      clear hg' hrowa hCa hbra Ha hsza hne hlt3
      go_wp2_with fail
      go_roundw
      case rel => exact ⟨k + 1, by omega, by go_num, hC', hrow', hb'⟩
      case measure => simp [Go.RowKit.intOf]; omega
    · obtain rfl : k = n := by omega
      have hd1 : decide (k < k) = false := by simp
      have hfin : CRow wr w.heap.size u3 m.v.cells := by
        have := hC
        rwa [List.take_of_length_le (by rw [Hn.out]; exact Nat.le_refl _)] at this
      clear hC hrow
      go_wp2_with fail
      go_ret
      exact ⟨_, rfl, hfin, hbr⟩

end Go.Proofs.Ytcajhndhjlfmaaa

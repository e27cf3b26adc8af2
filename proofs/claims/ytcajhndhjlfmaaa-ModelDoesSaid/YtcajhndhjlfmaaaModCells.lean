/-
  The blocks of an image, rising.
-/
import Derived.Test.YtcajhndhjlfmaaaModRows
import Derived.Test.YtcajhndhjlfmaaaModSorted
import Derived.Deep.DeepCutAuto
import Derived.Deep.CutBlock
import Derived.IntWalk
namespace Go.Proofs.Ytcajhndhjlfmaaa
open Go.RowKit
set_option linter.unusedVariables false
set_option linter.unusedSimpArgs false

theorem row_formV {w : World} {B : Nat} {e : TypeId} {sz : Nat} {v : Value} {n m : Nat} {xs : List Value} (h : w.ownsRow B e sz v n xs) (hn : n = m) : ∃ A c, v = .slice A m c ∧ m ≤ c := by
  subst hn
  rcases h.2 with ⟨e, h0⟩ | ⟨g, cap, cur, e, _, _, h, _⟩
  · exact ⟨none, 0, by rw [e, h0], by omega⟩
  · exact ⟨_, cap, e, h⟩

theorem row_cellV {w : World} {B : Nat} {e : TypeId} {A : Option Addr} {n c : Nat} {xs : List Value} (h : w.ownsRow B e 1 (.slice A n c) n xs) {k : Nat} {x : Value} (hk : k < n) (hx : xs[k]? = some x) : ∃ g, A = some ⟨g, 0, none⟩ ∧ g < w.heap.size ∧ w.cell? ⟨g, k, none⟩ = some x := by
  rcases h.2 with ⟨e, h0⟩ | ⟨g, cap, cur, e, _, hg, _⟩
  · omega
  · injection e with e1 e2 e3
    subst e1
    refine ⟨g, rfl, (Array.getElem?_eq_some_iff.1 hg).1, ?_⟩
    have := World.ownsRow.cells h (g := g) rfl k x hx
    have hadd : (⟨g, 0, none⟩ : Addr).add k = ⟨g, 0 + k, none⟩ := by unfold Addr.add; split <;> simp_all
    rwa [hadd, Nat.zero_add] at this

theorem getB_at {cs : List Cl} (hr : Rise cs) {k : Nat} {c : Cl} (hk : cs[k]? = some c) : atB cs (c.1 : Nat) = c.2 := by
  unfold atB
  rw [getC_of hr (f := c.2) (List.mem_of_getElem? hk)]
  rfl
theorem CRow.down {w : World} {B B' : Nat} {v : Value} {cs : List Cl} (h : CRow w B v cs) (hB : B' ≤ B) : CRow w B' v cs := by
  refine ⟨h.1, h.2.1, ?_⟩
  rcases h.2.2 with h0 | ⟨g, cap, cur, e, e1, e2, e3⟩
  · exact .inl h0
  · exact .inr ⟨g, cap, cur, e, Nat.le_trans hB e1, e2, e3⟩

set_option maxHeartbeats 8000000 in
set_option maxRecDepth 100000 in
theorem numbered_any (m : Vm) (w : World) (h : ImOk w m) (VL : List Value) (hVL : VL = [.int .i64 (m.v.quota : Nat), .bool m.v.frozen, .map (some m.bb)]) : Calls Try.prog 56 #[.agg VL.toArray] w fun e w' =>
    ∃ v, e = .returned v ∧ CRow w' w.heap.size v m.v.cells ∧ Below w.heap.size w w' := by
  have hle := h.ok.le
  have hq := h.ok.q
  obtain ⟨n, hn⟩ : ∃ n, m.v.cells.length = n := ⟨_, rfl⟩
  have hnb : n ≤ 1048576 := by omega
  obtain ⟨w1, hw1⟩ : ∃ z, z = w.alloc (.cells VL.toArray 114) := ⟨_, rfl⟩
  have hb1 : Below w.heap.size w w1 := by rw [hw1]; exact (Below.refl _ w).alloc (Nat.le_refl _) _
  obtain ⟨g, hg⟩ : ∃ z, z = w.heap.size := ⟨_, rfl⟩
  obtain ⟨B, hB⟩ : ∃ z, z = w1.heap.size := ⟨_, rfl⟩
  have hA1 : Arr w1 g 114 VL := by rw [hw1, hg]; exact Arr.new w _ _
  have hgB : g < B := by rw [hB]; exact hA1.lt
  have hwB : w.heap.size ≤ B := by rw [hB]; exact hb1.size
  have h1 : ImOk w1 m := h.kept (hb1.block _ (World.ownsMap.lt h.hc))
  have hd2 : w1.cell? ⟨g, 2, none⟩ = some (.map (some m.bb)) := by rw [hA1.cell, hVL]; rfl
  have hbbB : m.bb < B := by have := World.ownsMap.lt h.hc; omega
  have HC2 := Lib.hid (show w1.cell? ⟨g, 2, none⟩ = some (.map (some m.bb)) from hd2)
  have Hn := Lib.hid hn
  have Hh1 := Lib.hid h1
  have Hb1 := Lib.hid hb1
  have HA1 := Lib.hid hA1
  have Hw1 := Lib.hid hw1
  have Hg := Lib.hid hg
  have HB := Lib.hid hB
  clear h h1 hn hb1 hA1 hVL hw1 hg hB
  go_enter Try.func56, Try.ntmps56
  go_upto_region 2 with fail
  rw [← Hw1.out, ← Hg.out]
  clear Hw1
  go_wp2_with fail
  refine Calls.mono (keysI_any m.bb w1) ?_
  rintro e w2 ⟨rfl, rfl⟩
  go_wp2_with fail
  refine Calls.mono (sortedI_any m w1 Hh1.out) ?_
  rintro e w3 ⟨v, rfl, hrow3, hb3⟩
  obtain ⟨A, c, rfl, hnc⟩ := row_formV hrow3 Hn.out
  have hC3 : CRow w3 B (.slice none 0 0) [] := ⟨by simp, rfl, .inl ⟨rfl, rfl⟩⟩
  rw [← HB.out] at hb3
  rw [Hn.out] at hrow3
  have Hrow3 := Lib.hid hrow3
  clear hrow3 hd2
  go_wp2_with fail
  go_loopw [3, 11] (fun t i wr => ∃ k : Nat, k ≤ n ∧ i = .int .i64 k ∧ CRow wr B t (m.v.cells.take k) ∧ wr.ownsRow (w1.heap.size + 1) 3 1 (.slice A n c) n (m.v.cells.map fun c => .int .i64 (c.1 : Nat)) ∧ Below B w1 wr) (fun _ i _ => n - (Go.RowKit.intOf i).toNat)
  case atStart => exact ⟨0, Nat.zero_le _, rfl, by rw [List.take_zero]; exact hC3, Hrow3.out, hb3⟩
  case round =>
    clear hC3 hb3
    obtain ⟨k, hk, rfl, hC, hrow, hbr⟩ := hrel
    have hBr : B ≤ wr.heap.size := by have := hbr.size; rw [HB.out]; exact this
    by_cases hlt : k < n
    · have hd1 : decide ((k : Int) < (n : Int)) = true := by simp; omega
      obtain ⟨y, hy⟩ : ∃ y, m.v.cells[k]? = some y := ⟨m.v.cells[k]'(by rw [Hn.out]; exact hlt), List.getElem?_eq_getElem _⟩
      obtain ⟨gk, rfl, hglt, hcell⟩ := row_cellV hrow hlt (x := .int .i64 (y.1 : Nat)) (by rw [List.getElem?_map, hy]; rfl)
      have hvr : ImOk wr m := Hh1.out.kept (hbr.block _ hbbB)
      have hyo := hvr.ok.c y (List.mem_of_getElem? hy)
      have hAr := HA1.out.below hbr hgB
      have hcr : wr.cell? ⟨g, 2, none⟩ = some (.map (some m.bb)) := by
        rw [hAr.cell, ← HA1.out.cell]
        exact HC2.out
      have hlook := hvr.look1 (n := (y.1 : Nat)) (by omega) (by omega)
      rw [getB_at hvr.ok.rs hy] at hlook
      unfold blkV at hlook
      obtain ⟨DL, hDL⟩ : ∃ DL, DL = Lib.byteCells y.2 := ⟨_, rfl⟩
      rw [← hDL] at hlook
      have hDl : DL.length = 48 := by rw [hDL, Lib.byteCells_length]; exact hyo.2
      obtain ⟨yn, hyn⟩ : ∃ yn, y.1 = yn := ⟨_, rfl⟩
      rw [hyn] at hlook hcell
      have HBt := Lib.hid (cl_built (yn : Nat) DL hDl)
      have HVL : Hid ((Value.int .i64 (yn : Nat) :: DL) = cellC y) := by rw [hDL, ← hyn]; rfl
      have HVl := Lib.hid (show (Value.int .i64 (yn : Nat) :: DL).length = 49 by rw [List.length_cons, hDl])
      obtain ⟨CL, hCLe⟩ : ∃ CL, CL = (Value.int .i64 (yn : Nat) :: DL) := ⟨_, rfl⟩
      rw [← hCLe] at HBt HVL HVl
      have Hyo := Lib.hid hyo.2
      have htl : (m.v.cells.take k).length ≤ 2000000 := by rw [List.length_take]; have := Hh1.out.ok.le; have := Hh1.out.ok.q; omega
      have Hts := Lib.hid (show m.v.cells.take (k + 1) = m.v.cells.take k ++ [y] from by
        obtain ⟨hl, he⟩ := List.getElem?_eq_some_iff.1 hy
        rw [List.take_succ_eq_append_getElem hl, he])
      have hne := rows_apart hC.2 hrow (by decide)
      have hlt3 := hC.lt
      have hba : Below wr.heap.size wr (wr.alloc (.cells CL.toArray 108)) := (Below.refl _ _).alloc (Nat.le_refl _) _
      have hCa := hC.up hba
      have hrowa := World.ownsRow.alloc hrow (.cells CL.toArray 108)
      have hbra : Below B w1 (wr.alloc (.cells CL.toArray 108)) := hbr.trans (hba.mono hBr)
      have Ha := Lib.hid (Arr.new wr 108 CL)
      have hsza : B ≤ (wr.alloc (.cells CL.toArray 108)).heap.size := Nat.le_trans hBr hba.size
      clear hy hyo hyn hDl hDL hCLe hvr hC hrow hbr hba hAr
      go_wp2_with (first
        | (refine wpList_builtV rfl _ _ rfl _ rfl CL.toArray HBt.out ?_)
        | (refine wpList_build_cl rfl _ rfl CL HVl.out rfl ?_)
        | (refine wpList_append_cl rfl _ _ rfl hCa hsza rfl _ _ rfl y Hyo.out CL HVL.out Ha.out htl ?_))
      intro v' w' hC' hg'
      rw [← Hts.out] at hC'
      have hrow' := World.ownsRow.kept hrowa hg' (by
        rcases hob : u3.ownBlock with _ | g'
        · exact .inr (by simp [Value.ownBlock])
        · exact .inr fun e => hne g' hob e)
      have hb' : Below B w1 w' := hbra.grown hg' hsza fun g' hg => (hlt3 g' hg).1
      clear hg' hrowa hCa hbra Ha hsza hne hlt3
      go_wp2_with fail
      go_roundw
      case rel => exact ⟨k + 1, by omega, by go_num, hC', hrow', hb'⟩
      case measure => simp [Go.RowKit.intOf]; omega
    · obtain rfl : k = n := by omega
      have hd1 : decide (k < k) = false := by simp
      have hfin : CRow wr w.heap.size u3 m.v.cells := by
        have := hC
        rw [List.take_of_length_le (by rw [Hn.out]; exact Nat.le_refl _)] at this
        exact this.down hwB
      have hbf : Below w.heap.size w wr := Hb1.out.trans (hbr.mono hwB)
      clear hC hrow hbr
      go_wp2_with fail
      go_ret
      exact ⟨_, rfl, hfin, hbf⟩

end Go.Proofs.Ytcajhndhjlfmaaa

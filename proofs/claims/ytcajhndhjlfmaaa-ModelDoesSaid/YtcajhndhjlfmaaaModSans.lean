/-
  The document's SameAnswer, of two answers that are one.
-/
import Derived.Test.YtcajhndhjlfmaaaModSame
import Derived.Test.YtcajhndhjlfmaaaModDo
import Derived.Test.YtcajhndhjlfmaaaModSpeaks
namespace Go.Proofs.Ytcajhndhjlfmaaa
open Go.RowKit
set_option linter.unusedVariables false
set_option linter.unusedSimpArgs false

/-- Names in memory. -/
def NmAt (w : World) (A : Option Addr) (ns : List ByteArray) : Prop := ∀ (j : Nat) (s : ByteArray), ns[j]? = some s → ∃ b off, A = some ⟨b, off, none⟩ ∧ b < w.heap.size ∧ w.cell? ⟨b, off + j, none⟩ = some (.string s)
theorem NmsAt.slice {w : World} {B : Nat} {v : Value} {ns : List ByteArray} (h : NmsAt w B v ns) : ∃ A c, v = .slice A ns.length c ∧ ns.length ≤ c ∧ c ≤ maxLen ∧ NmAt w A ns := by
  rcases h.2 with ⟨rfl, hn⟩ | ⟨g, cap, cur, rfl, h1, hg, h2, h3, h4, h5⟩
  · exact ⟨none, 0, by rw [hn], by omega, by unfold maxLen; omega, fun i d hi => by have := (List.getElem?_eq_some_iff.1 hi).1; omega⟩
  · refine ⟨_, cap, rfl, h2, h3, fun j s hi => ⟨g, 0, rfl, (Array.getElem?_eq_some_iff.1 hg).1, ?_⟩⟩
    have hil := (List.getElem?_eq_some_iff.1 hi).1
    have hd : (ns.map Value.string)[j]? = some (.string s) := by rw [List.getElem?_map, hi]; rfl
    rw [← h5, Nat.mul_one, List.getElem?_take_of_lt hil] at hd
    rw [cell_of_row w g _ cur 9 (0, 0) hg, Nat.zero_add]
    simpa using hd
theorem NmAt.keep {w w' : World} {A : Option Addr} {ns : List ByteArray} (h : NmAt w A ns) (hb : Below w.heap.size w w') : NmAt w' A ns := fun j s hj => by
  obtain ⟨b, off, e, hlt, hc⟩ := h j s hj
  exact ⟨b, off, e, by have := hb.size; omega, (World.cell?_of_block (hb.block b hlt)).trans hc⟩

set_option maxHeartbeats 8000000 in
set_option maxRecDepth 100000 in
theorem sans_any (a : Ans) (h48 : a.blk.length = 48) (A B : Option Addr) (n c d : Nat) (hn : a.nms.length = n) (hc : n ≤ c ∧ c ≤ maxLen) (hd : n ≤ d ∧ d ≤ maxLen) (AL BL : List Value) (hA : AL = ansV a (.slice A n c)) (hB : BL = ansV a (.slice B n d)) (w : World) (hNA : NmAt w A a.nms) (hNB : NmAt w B a.nms) :
    Calls Try.prog 16 #[.agg AL.toArray, .agg BL.toArray] w fun e w' => e = .returned (.bool true) ∧ Below w.heap.size w w' := by
  obtain ⟨W1, hW1⟩ : ∃ z, z = (w.alloc (.cells AL.toArray 47)).alloc (.cells BL.toArray 47) := ⟨_, rfl⟩
  have hbA : Below w.heap.size w (w.alloc (.cells AL.toArray 47)) := (Below.refl _ _).alloc (Nat.le_refl _) _
  have hb1 : Below w.heap.size w W1 := by rw [hW1]; exact hbA.alloc hbA.size _
  obtain ⟨g, hg⟩ : ∃ z, z = w.heap.size := ⟨_, rfl⟩
  have hX1 : Arr W1 g 47 AL := by rw [hW1, hg]; exact (Arr.new w _ AL).up ((Below.refl _ _).alloc (Nat.le_refl _) _)
  have hY1 : Arr W1 (g + 1) 47 BL := by rw [hW1, hg]; have := Arr.new (w.alloc (.cells AL.toArray 47)) 47 BL; simpa using this
  obtain ⟨k, hk⟩ : ∃ z, a.k = z := ⟨_, rfl⟩
  obtain ⟨th, hth⟩ : ∃ z, a.th = z := ⟨_, rfl⟩
  obtain ⟨zb, hzb⟩ : ∃ z, a.blk = z := ⟨_, rfl⟩
  obtain ⟨ns, hns⟩ : ∃ z, a.nms = z := ⟨_, rfl⟩
  rw [hns] at hn hNA hNB
  rw [hzb] at h48
  unfold ansV at hA hB
  rw [hk, hth, hzb] at hA hB
  clear hk hth hzb hns
  have hlim : c ≤ 9223372036854775807 ∧ d ≤ 9223372036854775807 := by have h1 := hc.2; have h2 := hd.2; unfold maxLen at h1 h2; omega
  obtain ⟨ZB, hZB⟩ : ∃ z, z = Lib.byteCells zb := ⟨_, rfl⟩
  have hzl : (Lib.byteCells zb).length = 48 := by rw [Lib.byteCells_length, h48]
  have hr : ∀ (nv : Value) (j : Nat) (v : Value), ZB[j]? = some v → (ansC k th (Lib.byteCells zb) nv)[2 + j]? = some v := fun nv j v hj => by
    rw [hZB] at hj
    unfold ansC
    rw [show 2 + j = j + 1 + 1 by omega, List.getElem?_cons_succ, List.getElem?_cons_succ, List.getElem?_append_left (List.getElem?_eq_some_iff.1 hj).1]
    exact hj
  have hr3 : ∀ (nv : Value), (ansC k th (Lib.byteCells zb) nv)[50]? = some nv := fun nv => by
    unfold ansC
    rw [show 50 = 48 + 1 + 1 from rfl, List.getElem?_cons_succ, List.getElem?_cons_succ, List.getElem?_append_right (by omega), hzl]
    rfl
  have a0 : W1.cell? ⟨g, 0, none⟩ = some (.int .i64 k) := by rw [hX1.cell, hA]; rfl
  have a1 : W1.cell? ⟨g, 1, none⟩ = some (.bool th) := by rw [hX1.cell, hA]; rfl
  have a3 : W1.cell? ⟨g, 50, none⟩ = some (.slice A n c) := by rw [hX1.cell, hA]; exact hr3 _
  have b0 : W1.cell? ⟨g + 1, 0, none⟩ = some (.int .i64 k) := by rw [hY1.cell, hB]; rfl
  have b1 : W1.cell? ⟨g + 1, 1, none⟩ = some (.bool th) := by rw [hY1.cell, hB]; rfl
  have b3 : W1.cell? ⟨g + 1, 50, none⟩ = some (.slice B n d) := by rw [hY1.cell, hB]; exact hr3 _
  have a2 : W1.rangeAt g 2 ZB := fun j v hj => by rw [hX1.cell, hA]; exact hr _ j v hj
  have b2 : W1.rangeAt (g + 1) 2 ZB := fun j v hj => by rw [hY1.cell, hB]; exact hr _ j v hj
  have HZn := Lib.hid (show (Try.prog.info? 42).map (·.size) = some ZB.length by rw [hZB, hzl]; exact blkSize)
  have Hzq := Lib.hid (fun w : World => show (Op.equalIn 10000 42 (.agg ZB.toArray) (.agg ZB.toArray)).run Try.prog w = .ok true w by have := eqv_at Try.underlying42 zb zb h48 h48 ZB ZB hZB hZB w; simpa using this)
  have HN : Hid (NmAt W1 A ns ∧ NmAt W1 B ns) := ⟨hNA.keep hb1, hNB.keep hb1⟩
  have hkk : (k != k) = false := by simp
  have htt : (th != th) = false := by simp
  have hn0 : ((n : Int) != (n : Int)) = false := by simp
  have HW1 := Lib.hid hW1
  have Hg := Lib.hid hg
  have Hn := Lib.hid hn
  have Hb1 := Lib.hid hb1
  have hc1 := hc.1
  have hd1 := hd.1
  clear hW1 hbA hg hX1 hY1 hZB hr hr3 hA hB hzl hNA hNB hn hb1 hc hd
  go_enter Try.func16, Try.ntmps16
  go_upto_region 1 with fail
  rw [← HW1.out, ← Hg.out]
  clear HW1
  go_upto_region 3 with (first | ((with_reducible refine wpList_at 20 (by rfl) ?_); refine wpList_load_mid_ifC (by rfl) 42 _ rfl g 2 rfl ZB _ a2 Try.underlying42 rfl HZn.out ?_) | ((with_reducible refine wpList_at 22 (by rfl) ?_); refine wpList_load_mid_ifC (by rfl) 42 _ rfl (g + 1) 2 rfl ZB _ b2 Try.underlying42 rfl HZn.out ?_) | ((with_reducible refine wpList_at 23 (by rfl) ?_); refine wpList_neq_ifC (by rfl) 42 _ _ _ rfl ZB ZB rfl rfl true Hzq.out gtB ?_))
  clear a0 a1 a2 b0 b1 b2 hkk htt hn0
  go_wp2_with fail
  go_loopw [5] (fun i wr => ∃ j : Nat, j ≤ n ∧ i = .int .i64 j ∧ Drawn W1 wr) (fun i _ => n - (Go.RowKit.intOf i).toNat)
  case atStart => exact ⟨0, Nat.zero_le _, rfl, Drawn.refl _⟩
  case round =>
    obtain ⟨j, hj, rfl, hD⟩ := hrel
    have c3 := ((Drawn.refl W1).cells hD _).trans a3
    have d3 := ((Drawn.refl W1).cells hD _).trans b3
    have HD := Lib.hid hD
    by_cases hlt : j < n
    · have hq1 : decide ((j : Int) < (n : Int)) = true := by simp; omega
      obtain ⟨s, hs⟩ : ∃ s, ns[j]? = some s := ⟨ns[j]'(by rw [Hn.out]; exact hlt), List.getElem?_eq_getElem _⟩
      obtain ⟨ab, aoff, rfl, _, hac⟩ := HN.out.1 j s hs
      obtain ⟨bb, boff, rfl, _, hbc⟩ := HN.out.2 j s hs
      have ca := ((Drawn.refl W1).cells hD _).trans hac
      have cb := ((Drawn.refl W1).cells hD _).trans hbc
      have hq := ba_eq (rfl : s = s)
      clear hs hac hbc hD a3 b3
      go_upto_region 6 with fail
      go_quiet (fail)
      go_wp2_with fail
      go_roundw
      case rel => exact ⟨j + 1, by omega, by go_num, HD.out.drewN _⟩
      case measure => simp [Go.RowKit.intOf]; omega
    · obtain rfl : j = n := by omega
      have hq1 : decide ((j : Int) < (j : Int)) = false := by simp
      have Hbf : Hid (Below w.heap.size w wr) := by
        obtain ⟨dn, e⟩ := HD.out
        rw [e]
        exact Below.dN Hb1.out dn
      clear hD a3 b3 d3
      go_wp2_with fail
      go_ret
      exact ⟨rfl, Hbf.out⟩

end Go.Proofs.Ytcajhndhjlfmaaa

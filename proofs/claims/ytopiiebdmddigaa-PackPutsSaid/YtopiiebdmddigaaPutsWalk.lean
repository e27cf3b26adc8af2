/-
  PackPuts answers true, and writes nothing that was there.
-/
import Derived.Test.YtopiiebdmddigaaGreat
import Derived.Test.YtopiiebdmddigaaRefNum
import Derived.Test.YtopiiebdmddigaaBytes
import Derived.Test.YtopiiebdmddigaaSpeaks
import Derived.Deep.RegionHeld3
namespace Go.Proofs.Ytopiiebdmddigaa
open Go.RowKit
set_option linter.unusedVariables false

/-- Two rows that don't share a block. -/
def Apart (u v : Value) : Prop := ∀ k, u.ownBlock = some k → v.ownBlock ≠ some k

theorem Apart.grew {w w' : World} {u u' v : Value} (h : Apart u v) (hg : Grew w w' u u') (hv : ∀ k, v.ownBlock = some k → k < w.heap.size) : Apart u' v := by
  intro k hk e
  rcases hg.2 with h2 | ⟨g, h2, hle⟩
  · exact h k (h2.symm.trans hk) e
  · rw [h2] at hk
    injection hk with hk
    have := hv k e
    omega

theorem Apart.symm {u v : Value} (h : Apart u v) : Apart v u := fun k hk e => h k e hk

/-- Of two rows that grow one behind the other both stand in the end. -/
theorem both_grow {w w1 w2 : World} {B : Nat} {T : TypeId} {a a' b b' : Value} {l la lb : List UInt8} (ha : Owns w B T a l) (hb : Owns w B T b l) (hap : Apart a b)
    (ha1 : Owns w1 B T a' la) (hg1 : Grew w w1 a a') (hg2 : Grew w1 w2 b b') : Owns w1 B T b l ∧ Owns w2 B T a' la ∧ Apart a' b' := by
  have hb1 : Owns w1 B T b l := hb.apart hg1.1 (fun k hk e => hap k e hk)
  have hap1 : Apart a' b := hap.grew hg1 (fun k hk => (hb.lt k hk).2)
  exact ⟨hb1, ha1.apart hg2.1 (fun k hk e => hap1 k hk e), (hap1.symm.grew hg2 (fun k hk => (ha1.lt k hk).2)).symm⟩

set_option maxHeartbeats 16000000 in
set_option maxRecDepth 100000 in
theorem puts_walk (A : Option Addr) (n cap : Nat) (f : Nat → Thing) (hc : n ≤ cap) (hm : cap ≤ maxLen) (W : World) (hA : Things W W.heap.size A n f) :
    Calls Try.prog 3 #[.slice A n cap] W fun e w' => e = .returned (.bool true) ∧ Below W.heap.size W w' := by
  have hm63 : cap ≤ 9223372036854775807 := by unfold maxLen at hm; omega
  go_enter Try.func3, Try.ntmps3
  go_wp2_with fail
  refine (speaks_true _).mono ?_
  rintro e w1 ⟨rfl, hb1⟩
  go_wp2_with fail
  refine (great_any A n cap f w1 ((hA.below hb1 (Nat.le_refl _)).more hb1.size) hc hm).mono ?_
  rintro e w2 ⟨g, rfl, hgr, hb2⟩
  have hbW := hb1.trans (hb2.mono hb1.size)
  cases g with
  | true =>
    go_wp2_with fail
    go_ret
    exact ⟨rfl, hbW⟩
  | false =>
    obtain ⟨hn60, hlen⟩ := hgr rfl
    have Hlen := Lib.hid hlen
    clear hgr hlen
    have hW2 := hbW.size
    go_wp2_with fail
    go_loopw [3, 4, 15] (fun va vb i wr => ∃ (k : Nat) (l : List UInt8), i = .int .i64 k ∧ k ≤ n ∧ l.length ≤ 520 * k ∧ Owns wr w2.heap.size 5 va l ∧ Owns wr w2.heap.size 5 vb l ∧ Apart va vb ∧ Below w2.heap.size w2 wr) (fun _ _ i _ => n - (intOf i).toNat)
    case atStart =>
      refine ⟨0, [], rfl, Nat.zero_le _, by simp, ?_, ?_, ?_, ((Below.refl _ _).alloc (Nat.le_refl _) _).alloc (by simp) _⟩
      · refine World.ownsRow.alloc ?_ _
        exact ⟨by simp [Lib.byteCells], .inr ⟨w2.heap.size, 0, #[], rfl, Nat.le_refl _, heap_alloc_new w2 _, Nat.le_refl _, by unfold maxLen; omega, by simp, by simp [Lib.byteCells]⟩⟩
      · exact ⟨by simp [Lib.byteCells], .inr ⟨w2.heap.size + 1, 0, #[], rfl, by omega, by simpa using heap_alloc_new (w2.alloc (.cells #[] 5)) (.cells #[] 5), Nat.le_refl _, by unfold maxLen; omega, by simp, by simp [Lib.byteCells]⟩⟩
      · intro k hk e
        simp [Value.ownBlock] at hk e
        omega
    case round =>
      obtain ⟨k, l, rfl, hk, hll, hoa, hob, hap, hb⟩ := hrel
      by_cases hlt : k < n
      · obtain ⟨blk, off, rfl, hbl, ht⟩ := (hA.below (hbW.trans (hb.mono hW2)) (Nat.le_refl _)) (by omega)
        obtain ⟨hfit, Ab, cb, g0, g1, g2, g3, g4, g5, g6, g7⟩ := ht k hlt
        have hl5 := Hlen.out k hlt
        generalize hx : f k = x at *
        obtain ⟨xk, xn, xv, xm, xb⟩ := x
        simp only at g0 g1 g2 g3 g4 g5 g6 g7 hl5
        obtain ⟨_, _, _, _, hv, _⟩ := hfit
        simp only at hv
        have hsz := hb.size
        clear hx ht
        by_cases hk0 : xk = 0
        · have hk0b : (xk == 0) = true := by rw [beq_iff_eq]; exact hk0
          clear hk0
          go_wp2_with fail
          have hla : ∀ k, u3.ownBlock = some k → some wr.heap.size ≠ some k := fun k hk e => by have := (hoa.lt k hk).2; injection e with e; omega
          have hlb : ∀ k, u4.ownBlock = some k → some wr.heap.size ≠ some k := fun k hk e => by have := (hob.lt k hk).2; injection e with e; omega
          have Hla := Lib.hid hla
          have Hlb := Lib.hid hlb
          have Hap := Lib.hid hap
          clear hla hlb hap
          go_region_held3 (fun w' => w'.cell? ⟨wr.heap.size, 2, none⟩ = some (.int .u64 xv)) (first | go_keep | assumption)
            (first
              | (go_at_call 11
                 refine (number_any w2.heap.size xv hv u3 l _ (by exact World.ownsRow.alloc hoa _) (by simp; omega) (by omega)).mono ?_
                 rintro e w3 ⟨va', rfl, hoa', hga⟩
                 have hS3 : w3.cell? ⟨wr.heap.size, 2, none⟩ = some (.int .u64 xv) := hga.1.cell (by first | go_keep | (rw [cell_of_row _ wr.heap.size 2 _ _ (0, 0) (heap_alloc_new wr _)]; rfl)) (fun e => Hla.out _ e.symm rfl)
                 have hsz3 : wr.heap.size + 1 ≤ w3.heap.size := by simpa using hga.1.size
                 have hob3 : Owns w3 w2.heap.size 5 u4 l := Owns.apart (by exact World.ownsRow.alloc hob _) hga.1 (fun k hk e => Hap.out k e hk))
              | (go_at_call 12
                 refine (rnumber_any w2.heap.size xv hv u4 l _ (by exact hob3) (by omega) (by omega)).mono ?_
                 rintro e w4 ⟨vb', rfl, hob', hgb⟩
                 have hS4 : w4.cell? ⟨wr.heap.size, 2, none⟩ = some (.int .u64 xv) := hgb.1.cell (by first | go_keep | assumption) (fun e => Hlb.out _ e.symm rfl)))
          have hap3 : Apart va' u4 := Apart.grew Hap.out hga (fun k hk => (by exact World.ownsRow.alloc hob _ : Owns _ w2.heap.size 5 u4 l).lt k hk |>.2)
          have hoa4 := hoa'.apart hgb.1 (fun k hk e => hap3 k hk e)
          have hap4 : Apart va' vb' := (Apart.grew hap3.symm hgb (fun k hk => (hoa'.lt k hk).2)).symm
          have hb3 : Below w2.heap.size w2 w3 := by
            have h1 := hga.below (B := w2.heap.size) (by simp; omega) (fun k hk => (hoa.lt k hk).1)
            first | exact (hb.alloc hsz _).trans h1 | exact (hb.alloc hsz _).drew.trans h1
          have hb4 : Below w2.heap.size w2 w4 := by
            have h1 := hgb.below (B := w2.heap.size) (by first | exact hb3.size | (simp; omega)) (fun k hk => (hob.lt k hk).1)
            first | exact hb3.trans h1 | exact hb3.drew.trans h1
          have hLl : (l ++ Lib.uvarint xv).length ≤ 520 * (k + 1) := by have := Lib.uvarint_length64 hv; rw [List.length_append]; omega
          generalize l ++ Lib.uvarint xv = L at *
          have hwl : L.length ≤ 140737488355328 := by omega
          obtain ⟨A3, c3, rfl, _, _, hs3⟩ := hoa4.slice
          obtain ⟨A4, c4, rfl, _, _, hs4⟩ := hob'.slice
          clear hga hgb Hla Hlb
          go_wp2_with fail
          refine (same_n _ _ A3 A4 c3 c4 L.length L.length L L w4 true hs3 hs4 rfl rfl (by unfold maxLen; omega) (by unfold maxLen; omega) (decide_eq_true rfl)).mono ?_
          rintro e w5 ⟨rfl, k5, rfl⟩
          go_wp2_with fail
          exact ⟨⟨k + 1, L, by go_num, by omega, hLl, hoa4, hob', hap4, Below.dN hb4 _⟩, by simp [intOf]; omega⟩
        · have hk0b : (xk == 0) = false := by rw [beq_eq_false_iff_ne]; exact hk0
          clear hk0
          go_wp2_with fail
          have hbb : Bs (wr.alloc (.cells #[.int .i64 xk, .int .i64 xn, .int .u64 xv, .int .u64 xm, .slice Ab xb.length cb] 28)) w2.heap.size Ab xb := (g7.more hW2).alloc hsz _
          have hla : ∀ k, u3.ownBlock = some k → some wr.heap.size ≠ some k := fun k hk e => by have := (hoa.lt k hk).2; injection e with e; omega
          have hlb : ∀ k, u4.ownBlock = some k → some wr.heap.size ≠ some k := fun k hk e => by have := (hob.lt k hk).2; injection e with e; omega
          have Hla := Lib.hid hla
          have Hlb := Lib.hid hlb
          have Hap := Lib.hid hap
          clear hla hlb hap
          go_region_held3 (fun w' => w'.cell? ⟨wr.heap.size, 4, none⟩ = some (.slice Ab xb.length cb)) (first | go_keep | assumption)
            (first
              | (go_at_call 13
                 refine (bytes_any w2.heap.size u3 l xb Ab cb _ (by exact World.ownsRow.alloc hoa _) (by simp; omega) (by exact hbb) g5 (by omega)).mono ?_
                 rintro e w3 ⟨va', rfl, hoa', hga⟩
                 have hS3 : w3.cell? ⟨wr.heap.size, 4, none⟩ = some (.slice Ab xb.length cb) := hga.1.cell (by first | go_keep | (rw [cell_of_row _ wr.heap.size 4 _ _ (0, 0) (heap_alloc_new wr _)]; rfl)) (fun e => Hla.out _ e.symm rfl)
                 have hbb3 : Bs w3 w2.heap.size Ab xb := Bs.below (by exact hbb) (hga.below (by simp; omega) (fun k hk => (hoa.lt k hk).1)) (Nat.le_refl _)
                 have hsz3 : wr.heap.size + 1 ≤ w3.heap.size := by simpa using hga.1.size
                 have hob3 : Owns w3 w2.heap.size 5 u4 l := Owns.apart (by exact World.ownsRow.alloc hob _) hga.1 (fun k hk e => Hap.out k e hk))
              | (go_at_call 14
                 refine (rbytes_any w2.heap.size u4 l xb Ab cb _ (by exact hob3) (by omega) (by exact hbb3) (by omega)).mono ?_
                 rintro e w4 ⟨vb', rfl, hob', hgb⟩
                 have hS4 : w4.cell? ⟨wr.heap.size, 4, none⟩ = some (.slice Ab xb.length cb) := hgb.1.cell (by first | go_keep | assumption) (fun e => Hlb.out _ e.symm rfl)))
          have hap3 : Apart va' u4 := Apart.grew Hap.out hga (fun k hk => (by exact World.ownsRow.alloc hob _ : Owns _ w2.heap.size 5 u4 l).lt k hk |>.2)
          have hoa4 := hoa'.apart hgb.1 (fun k hk e => hap3 k hk e)
          have hap4 : Apart va' vb' := (Apart.grew hap3.symm hgb (fun k hk => (hoa'.lt k hk).2)).symm
          have hb3 : Below w2.heap.size w2 w3 := by
            have h1 := hga.below (B := w2.heap.size) (by simp; omega) (fun k hk => (hoa.lt k hk).1)
            first | exact (hb.alloc hsz _).trans h1 | exact (hb.alloc hsz _).drew.trans h1
          have hb4 : Below w2.heap.size w2 w4 := by
            have h1 := hgb.below (B := w2.heap.size) (by first | exact hb3.size | (simp; omega)) (fun k hk => (hob.lt k hk).1)
            first | exact hb3.trans h1 | exact hb3.drew.trans h1
          have hLl : (l ++ (Lib.uvarint xb.length ++ xb)).length ≤ 520 * (k + 1) := by have := Lib.uvarint_length64 (x := xb.length) (by omega); simp only [List.length_append]; omega
          generalize l ++ (Lib.uvarint xb.length ++ xb) = L at *
          have hwl : L.length ≤ 140737488355328 := by omega
          obtain ⟨A3, c3, rfl, _, _, hs3⟩ := hoa4.slice
          obtain ⟨A4, c4, rfl, _, _, hs4⟩ := hob'.slice
          clear hga hgb Hla Hlb
          go_wp2_with fail
          refine (same_n _ _ A3 A4 c3 c4 L.length L.length L L w4 true hs3 hs4 rfl rfl (by unfold maxLen; omega) (by unfold maxLen; omega) (decide_eq_true rfl)).mono ?_
          rintro e w5 ⟨rfl, k5, rfl⟩
          go_wp2_with fail
          exact ⟨⟨k + 1, L, by go_num, by omega, hLl, hoa4, hob', hap4, Below.dN hb4 _⟩, by simp [intOf]; omega⟩
      · obtain rfl : k = n := by omega
        go_wp2_with fail
        go_ret
        exact ⟨rfl, hbW.trans (hb.mono hW2)⟩

end Go.Proofs.Ytopiiebdmddigaa

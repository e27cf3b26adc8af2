/-
  The document's own In: Number.
-/
import Derived.Test.YtfelacpaaialfaaDoorTakesMath
import Derived.Test.YtfelacpaaialfaaDoorRefNum
import Derived.Test.YtfelacpaaialfaaDoorSame
import Derived.Deep.RegionHeld3
import Derived.Outline
import Derived.IntWalk
namespace Go.Proofs.YtfelacpaaialfaaDoor
open Go.RowKit
set_option linter.unusedVariables false

/-- Block q is the document's In: the bytes L, of which o are taken; l is what is left, as long as it hasn't gone wrong. -/
def RIn (w : World) (q : Nat) (L : List UInt8) (A : Option Addr) (c o : Nat) (wr : Bool) : Prop :=
  w.heap[q]? = some (.cells #[.slice A L.length c, .int .i64 o, .bool wr] 59 (0, 0))

structure RFix (w : World) (q : Nat) (L : List UInt8) (A : Option Addr) (c : Nat) : Prop where
  le : L.length ≤ c
  lim : L.length ≤ 1000000
  cap : c ≤ maxLen
  bytes : Bs w q A L

theorem RIn.cells {w : World} {q : Nat} {L : List UInt8} {A : Option Addr} {c o : Nat} {wr : Bool} (h : RIn w q L A c o wr) :
    w.cell? ⟨q, 0, none⟩ = some (.slice A L.length c) ∧ w.cell? ⟨q, 1, none⟩ = some (.int .i64 o) ∧ w.cell? ⟨q, 2, none⟩ = some (.bool wr) ∧ w.frozen? ⟨q, 0, none⟩ = false ∧ w.frozen? ⟨q, 1, none⟩ = false ∧ w.frozen? ⟨q, 2, none⟩ = false := by
  refine ⟨?_, ?_, ?_, frozen_of_row w q 0 _ _ h, frozen_of_row w q 1 _ _ h, frozen_of_row w q 2 _ _ h⟩
  · rw [cell_of_row w q 0 _ _ (0, 0) h]; rfl
  · rw [cell_of_row w q 1 _ _ (0, 0) h]; rfl
  · rw [cell_of_row w q 2 _ _ (0, 0) h]; rfl

theorem RIn.lt {w : World} {q : Nat} {L : List UInt8} {A : Option Addr} {c o : Nat} {wr : Bool} (h : RIn w q L A c o wr) : q < w.heap.size := (Array.getElem?_eq_some_iff.1 h).1

theorem RIn.bad {w : World} {q : Nat} {L : List UInt8} {A : Option Addr} {c o : Nat} {wr : Bool} (h : RIn w q L A c o wr) : RIn (w.setCell ⟨q, 2, none⟩ (.bool true)) q L A c o true := by
  unfold RIn
  rw [heap_setCell_same w q 2 _ _ _ h]; rfl

theorem RIn.step {w : World} {q : Nat} {L : List UInt8} {A : Option Addr} {c o : Nat} {wr : Bool} (h : RIn w q L A c o wr) (o' : Nat) : RIn (w.setCell ⟨q, 1, none⟩ (.int .i64 o')) q L A c o' wr := by
  unfold RIn
  rw [heap_setCell_same w q 1 _ _ _ h]; rfl

theorem getD_drop (L : List UInt8) (o j : Nat) : (L.drop o).getD j 0 = L.getD (o + j) 0 := by simp [List.getD, List.getElem?_drop]

/-- One step of the sum, from behind. -/
theorem uval_step {t : List UInt8} {j x : Nat} (hj : j < t.length) (hx : (t.getD j 0).toNat = x) : uval (t.drop j) = x % 128 + 128 * uval (t.drop (j + 1)) := by
  rw [List.drop_eq_getElem_cons hj]
  simp only [uval]
  have : t.getD j 0 = t[j] := by simp [List.getD, hj]
  rw [← this, hx]

theorem sum_wrap (u x : Nat) : IntKind.u64.wrap (IntKind.u64.wrap (((u % 18446744073709551616 : Nat) : Int) * 128) + (x : Int) % 128) = (((x % 128 + 128 * u) % 18446744073709551616 : Nat) : Int) := by
  have hw : ∀ n : Int, IntKind.u64.wrap n = n % 18446744073709551616 := fun n => by simp [IntKind.wrap_u64]
  rw [hw, hw]
  omega

/-- What the document's Number leaves: the number, what is left, whether it has gone wrong. -/
def rnF (most : Nat) (L : List UInt8) (o : Nat) (wr : Bool) : Nat × Nat × Bool :=
  if wr = true ∨ (numF most (L.drop o)).2.2 = true then (0, o, true) else ((numF most (L.drop o)).1, L.length - (numF most (L.drop o)).2.1.length, false)

def RNumPost (q most : Nat) (L : List UInt8) (A : Option Addr) (c o : Nat) (wr : Bool) (w : World) (e : Ending) (w' : World) : Prop :=
  e = .returned (.int .u64 (rnF most L o wr).1) ∧ RIn w' q L A c (rnF most L o wr).2.1 (rnF most L o wr).2.2 ∧ Turn q w w'

set_option maxHeartbeats 16000000 in
set_option maxRecDepth 100000 in
theorem rnumber_in (q most : Nat) (L : List UInt8) (A : Option Addr) (c o : Nat) (wr : Bool) (w : World) (h : RIn w q L A c o wr) (hf : RFix w q L A c) (ho : o ≤ L.length) (hm : most < 18446744073709551616) :
    Calls Tryd.prog 22 #[.pointer (some ⟨q, 0, none⟩), .int .u64 most] w (RNumPost q most L A c o wr w) := by
  have hq := h.lt
  have hbad := h.bad
  have hstep := fun o' => h.step o'
  obtain ⟨c0, c1, c2, f0, f1, f2⟩ := h.cells
  obtain ⟨hle, hlim, hcap, hb⟩ := hf
  have hc63 : c ≤ 9223372036854775807 := by unfold maxLen at hcap; omega
  have hdl : (L.drop o).length = L.length - o := List.length_drop
  have hfl := fstS_le (L.drop o)
  have hbig := fstS_big (L.drop o)
  have hsmall := fstS_small (L.drop o)
  have hrF : rnF most L o wr = if wr = true ∨ (rNum most (L.drop o)).2.2 = true then (0, o, true) else ((rNum most (L.drop o)).1, L.length - (rNum most (L.drop o)).2.1.length, false) := by rw [rNum_eq]; rfl
  have hrN : rNum most (L.drop o) = rNum most (L.drop o) := rfl
  rw [show rNum most (L.drop o) = if (L.drop o).length ≤ fstS (L.drop o) ∨ 9 < fstS (L.drop o) then (0, [], true)
    else if Lib.uvarint (uval ((L.drop o).take (fstS (L.drop o) + 1)) % 18446744073709551616) ≠ (L.drop o).take (fstS (L.drop o) + 1) ∨ most < uval ((L.drop o).take (fstS (L.drop o) + 1)) % 18446744073709551616 then (0, [], true)
    else (uval ((L.drop o).take (fstS (L.drop o) + 1)) % 18446744073709551616, (L.drop o).drop (fstS (L.drop o) + 1), false) from rfl] at hrF
  generalize hm0 : fstS (L.drop o) = m at *
  rw [hdl] at hfl hsmall hrF
  have Hbig := Lib.hid hbig
  have Hsmall := Lib.hid hsmall
  have HrF := Lib.hid hrF
  have Hdl := Lib.hid hdl
  have Hbad := Lib.hid hbad
  have Hstep := Lib.hid hstep
  have Hh := Lib.hid h
  clear hbig hsmall hrF hrN hdl hm0 hbad hstep h
  go_enter Tryd.func22, Tryd.ntmps22
  go_wp2
  go_loop [5] (fun i => ∃ j : Nat, i = .int .i64 (o + j : Nat) ∧ j ≤ m) (fun i => L.length - (intOf i).toNat)
  case atStart => exact ⟨0, rfl, by omega⟩
  case round =>
    obtain ⟨j, rfl, hj⟩ := hrel
    by_cases hlt : j < m
    · obtain ⟨b, off, x, rfl, hbB, hc, hx, Hx⟩ := hb.at_ (show o + j < L.length by omega)
      have hx128 : 128 ≤ x := by
        have := Hbig.out j hlt
        rw [getD_drop, Hx.out] at this
        exact this
      go_wp2
      go_round
      case rel => exact ⟨j + 1, by go_num, by omega⟩
      case measure => simp [intOf]; omega
    · obtain rfl : j = m := by omega
      clear hlt hj
      by_cases hend : o + j < L.length
      · obtain ⟨b, off, x, rfl, hbB, hc, hx, Hx⟩ := hb.at_ hend
        have hx128 : x < 128 := by
          have := Hsmall.out (by omega)
          rw [getD_drop, Hx.out] at this
          exact this
        by_cases hF : wr = true ∨ 9 < j
        · have hr : rnF most L o wr = (0, o, true) := by
            rw [HrF.out]
            rcases hF with hF | hF
            · rw [if_pos (.inl hF)]
            · rw [if_pos (.inr (by rw [if_pos (.inr hF)]))]
          have Hr := Lib.hid hr
          clear hr
          cases wr with
          | true =>
            clear hF
            go_wp2
            go_ret
            exact ⟨by rw [Hr.out]; rfl, by rw [Hr.out]; exact Hbad.out, Turn.set q 2 _ _⟩
          | false =>
            have h9 : 9 < j := by simpa using hF
            clear hF
            go_wp2
            go_ret
            exact ⟨by rw [Hr.out]; rfl, by rw [Hr.out]; exact Hbad.out, Turn.set q 2 _ _⟩
        · obtain rfl : wr = false := by cases wr <;> simp_all
          have h9 : j ≤ 9 := by simp at hF; omega
          have hr2 : ¬ (L.length - o ≤ j ∨ 9 < j) := by omega
          have hr := HrF.out
          rw [if_neg hr2] at hr
          have Hr := Lib.hid hr
          clear hF HrF hr hr2
          obtain ⟨U, hU0, hUe, hUs⟩ : ∃ U : Nat → Nat, Hid (U 0 = uval ((L.drop o).take (j + 1)) % 18446744073709551616) ∧ U (j + 1) = 0 ∧
              Hid (∀ s x, s ≤ j → (L.getD (o + s) 0).toNat = x → IntKind.u64.wrap (IntKind.u64.wrap ((U (s + 1) : Int) * 128) + (x : Int) % 128) = (U s : Int)) := by
            have htl : ((L.drop o).take (j + 1)).length = j + 1 := by rw [List.length_take, Hdl.out]; omega
            refine ⟨fun t => uval (((L.drop o).take (j + 1)).drop t) % 18446744073709551616, rfl, ?_, ?_⟩
            · have : ((L.drop o).take (j + 1)).drop (j + 1) = [] := List.drop_of_length_le (by omega)
              simp only [this, uval]
            · intro s x hs hx
              have hg : (((L.drop o).take (j + 1)).getD s 0).toNat = x := by
                rw [← hx, ← getD_drop]
                congr 1
                simp [List.getD, show s < j + 1 from by omega]
              have := uval_step (t := (L.drop o).take (j + 1)) (j := s) (by omega) hg
              simp only [this]
              exact sum_wrap _ _
          have hUlt : ∀ t, U t = U t := fun _ => rfl
          clear hUlt
          go_wp2
          go_loop [6, 7] (fun v i => (∃ s : Nat, i = .int .i64 (o + s : Nat) ∧ s ≤ j ∧ v = .int .u64 (U (s + 1) : Nat)) ∨ (i = .int .i64 ((o : Int) - 1) ∧ v = .int .u64 (U 0 : Nat))) (fun _ i => (intOf i - o + 1).toNat)
          case atStart => exact .inl ⟨j, by go_num, by omega, by rw [hUe]; rfl⟩
          case round =>
            rcases hrel with ⟨s, rfl, hs, rfl⟩ | ⟨rfl, rfl⟩
            · obtain ⟨b', off', y, e, hbB', hc', hy, Hy⟩ := hb.at_ (show o + s < L.length by omega)
              cases e
              have hsum := hUs.out s y hs Hy.out
              clear hUe
              cases s with
              | zero =>
                rw [Nat.add_zero] at hc'
                rw [Nat.zero_add] at hsum
                go_wp2
                go_round
                case rel => exact .inr ⟨by go_num, rfl⟩
                case measure => simp [intOf]; omega
              | succ s =>
                go_wp2
                go_round
                case rel => exact .inl ⟨s, by go_num, by omega, rfl⟩
                case measure => simp [intOf]; omega
            · obtain ⟨V, hV0⟩ : ∃ V, U 0 = V := ⟨_, rfl⟩
              have hVe := hU0.out
              rw [hV0] at hVe ⊢
              have hV : V < 18446744073709551616 := by rw [hVe]; exact Nat.mod_lt _ (by omega)
              have hrC := Hr.out
              rw [← hVe] at hrC
              have hTlen : ((L.drop o).take (j + 1)).length = j + 1 := by rw [List.length_take, Hdl.out]; omega
              have HTl := Lib.hid hTlen
              have hT : Bs w q (some ⟨b, off + o, none⟩) ((L.drop o).take (j + 1)) := by
                obtain ⟨b', off', e, hd⟩ := hb.drop (show o < L.length by omega)
                cases e
                exact hd.take
              have hUl := Lib.uvarint_length64 hV
              have hdd : ((L.drop o).drop (j + 1)).length = L.length - o - (j + 1) := by rw [List.length_drop, List.length_drop]
              have Hdd := Lib.hid hdd
              clear hVe hTlen hdd hUs hUe hU0 hV0 Hr
              by_cases hS : Lib.uvarint V = (L.drop o).take (j + 1)
              · have HS := Lib.hid (decide_eq_true hS)
                by_cases hmv : most < V
                · have hrD : rnF most L o false = (0, o, true) := by rw [hrC, if_pos (.inr (by rw [if_pos (.inr hmv)]))]
                  have HrC := Lib.hid hrD
                  clear hrC hrD hS
                  have Hh' := Hh.out
                  have hw : IntKind.i64.wrap ((o : Int) + (j : Int) + 1) = (o : Int) + (j : Int) + 1 := IntWalk.i64_in _ (by omega)
                  have i0 : (0 : Int) ≤ (o : Int) := by omega
                  have i1 : (o : Int) ≤ (o : Int) + (j : Int) + 1 := by omega
                  have i2 : (o : Int) + (j : Int) + 1 ≤ (c : Int) := by omega
                  have i3 : (0 : Int) ≤ (o : Int) + (j : Int) + 1 := by omega
                  have i4 : ((o : Int) + (j : Int) + 1).toNat = o + j + 1 := by omega
                  have i5 : ¬ (c = o) := by omega
                  go_wp2_with fail
                  go_region_held3 (fun w' => w'.cell? ⟨q, 0, none⟩ = some (.slice (some ⟨b, off, none⟩) L.length c) ∧ w'.cell? ⟨q, 1, none⟩ = some (.int .i64 o)) (first | go_keep | (go_split_ands; refine ⟨?_, ?_⟩ <;> first | go_keep | assumption))
                    (first
                      | (go_at_call 34
                         refine (rnumber_any w.heap.size V hV (.slice (some ⟨w.heap.size, 0, none⟩) 0 0) [] _ (by exact ⟨by simp [Lib.byteCells], .inr ⟨w.heap.size, 0, #[], rfl, Nat.le_refl _, heap_alloc_new w _, Nat.le_refl _, by unfold maxLen; omega, by simp, by simp [Lib.byteCells]⟩⟩) (by simp) (by simp)).mono ?_
                         rintro e w1 ⟨v1, rfl, hown1, hg1⟩
                         rw [List.nil_append] at hown1
                         have hb0 := hg1.below (B := w.heap.size) (by simp) (fun k hk => by simp [Value.ownBlock] at hk; omega)
                         have hB1 : Below w.heap.size w w1 := by first | exact ((Below.refl _ w).alloc (Nat.le_refl _) _).trans hb0 | exact ((Below.refl _ w).alloc (Nat.le_refl _) _).drew.trans hb0 | exact (Below.dN ((Below.refl _ w).alloc (Nat.le_refl _) _) _).trans hb0
                         have hR1 : RIn w1 q L (some ⟨b, off, none⟩) c o false := (hB1.block q hq).trans Hh.out
                         obtain ⟨d0, d1, d2, e0, e1, e2⟩ := hR1.cells
                         have hT1 : Bs w1 q (some ⟨b, off + o, none⟩) ((L.drop o).take (j + 1)) := hT.below hB1 (by omega)
                         have hbad1 := hR1.bad
                         have hstep1 := hR1.step (o + j + 1)
                         have hTu : Turn q w w1 := (Below.grew hB1 (.slice (some ⟨q, 0, none⟩) 0 0)).1
                         have Hbad1 := Lib.hid hbad1
                         have Hstep1 := Lib.hid hstep1
                         obtain ⟨A1, k1, rfl, hk1, hkm, hbs1⟩ := hown1.slice
                         clear hbad1 hstep1)
                      | (go_at_call 9
                         refine (same_n _ _ A1 (some ⟨b, off + o, none⟩) k1 _ _ _ (Lib.uvarint V) ((L.drop o).take (j + 1)) _ true (by exact hbs1) (by exact hT1) rfl (by rw [HTl.out]; omega) (by unfold maxLen; omega) (by unfold maxLen; omega) HS.out).mono ?_
                         rintro e w2 ⟨rfl, k2, rfl⟩))
                  go_wp2_with fail
                  go_ret
                  exact ⟨by rw [HrC.out]; rfl, by rw [HrC.out]; exact Hbad1.out, (hTu.drewN _).trans (Turn.set q 2 _ _)⟩
                · have hrD : rnF most L o false = (V, o + j + 1, false) := by
                    rw [hrC, if_neg (by simp [hS, hmv])]
                    rw [if_neg (by simp [hS, hmv])]
                    simp only [Hdd.out, Prod.mk.injEq, true_and, and_true]
                    omega
                  have HrC := Lib.hid hrD
                  have hmv' : V ≤ most := by omega
                  clear hrC hrD hS hmv
                  have Hh' := Hh.out
                  have hw : IntKind.i64.wrap ((o : Int) + (j : Int) + 1) = (o : Int) + (j : Int) + 1 := IntWalk.i64_in _ (by omega)
                  have i0 : (0 : Int) ≤ (o : Int) := by omega
                  have i1 : (o : Int) ≤ (o : Int) + (j : Int) + 1 := by omega
                  have i2 : (o : Int) + (j : Int) + 1 ≤ (c : Int) := by omega
                  have i3 : (0 : Int) ≤ (o : Int) + (j : Int) + 1 := by omega
                  have i4 : ((o : Int) + (j : Int) + 1).toNat = o + j + 1 := by omega
                  have i5 : ¬ (c = o) := by omega
                  go_wp2_with fail
                  go_region_held3 (fun w' => w'.cell? ⟨q, 0, none⟩ = some (.slice (some ⟨b, off, none⟩) L.length c) ∧ w'.cell? ⟨q, 1, none⟩ = some (.int .i64 o)) (first | go_keep | (go_split_ands; refine ⟨?_, ?_⟩ <;> first | go_keep | assumption))
                    (first
                      | (go_at_call 34
                         refine (rnumber_any w.heap.size V hV (.slice (some ⟨w.heap.size, 0, none⟩) 0 0) [] _ (by exact ⟨by simp [Lib.byteCells], .inr ⟨w.heap.size, 0, #[], rfl, Nat.le_refl _, heap_alloc_new w _, Nat.le_refl _, by unfold maxLen; omega, by simp, by simp [Lib.byteCells]⟩⟩) (by simp) (by simp)).mono ?_
                         rintro e w1 ⟨v1, rfl, hown1, hg1⟩
                         rw [List.nil_append] at hown1
                         have hb0 := hg1.below (B := w.heap.size) (by simp) (fun k hk => by simp [Value.ownBlock] at hk; omega)
                         have hB1 : Below w.heap.size w w1 := by first | exact ((Below.refl _ w).alloc (Nat.le_refl _) _).trans hb0 | exact ((Below.refl _ w).alloc (Nat.le_refl _) _).drew.trans hb0 | exact (Below.dN ((Below.refl _ w).alloc (Nat.le_refl _) _) _).trans hb0
                         have hR1 : RIn w1 q L (some ⟨b, off, none⟩) c o false := (hB1.block q hq).trans Hh.out
                         obtain ⟨d0, d1, d2, e0, e1, e2⟩ := hR1.cells
                         have hT1 : Bs w1 q (some ⟨b, off + o, none⟩) ((L.drop o).take (j + 1)) := hT.below hB1 (by omega)
                         have hbad1 := hR1.bad
                         have hstep1 := hR1.step (o + j + 1)
                         have hTu : Turn q w w1 := (Below.grew hB1 (.slice (some ⟨q, 0, none⟩) 0 0)).1
                         have Hbad1 := Lib.hid hbad1
                         have Hstep1 := Lib.hid hstep1
                         obtain ⟨A1, k1, rfl, hk1, hkm, hbs1⟩ := hown1.slice
                         clear hbad1 hstep1)
                      | (go_at_call 9
                         refine (same_n _ _ A1 (some ⟨b, off + o, none⟩) k1 _ _ _ (Lib.uvarint V) ((L.drop o).take (j + 1)) _ true (by exact hbs1) (by exact hT1) rfl (by rw [HTl.out]; omega) (by unfold maxLen; omega) (by unfold maxLen; omega) HS.out).mono ?_
                         rintro e w2 ⟨rfl, k2, rfl⟩))
                  go_wp2_with fail
                  go_ret
                  exact ⟨by rw [HrC.out]; rfl, by rw [HrC.out]; exact Hstep1.out, (hTu.drewN _).trans (Turn.set q 1 _ _)⟩
              · have HS := Lib.hid (decide_eq_false hS)
                have hrD : rnF most L o false = (0, o, true) := by rw [hrC, if_pos (.inr (by rw [if_pos (.inl hS)]))]
                have HrC := Lib.hid hrD
                clear hrC hrD hS
                have Hh' := Hh.out
                have hw : IntKind.i64.wrap ((o : Int) + (j : Int) + 1) = (o : Int) + (j : Int) + 1 := IntWalk.i64_in _ (by omega)
                have i0 : (0 : Int) ≤ (o : Int) := by omega
                have i1 : (o : Int) ≤ (o : Int) + (j : Int) + 1 := by omega
                have i2 : (o : Int) + (j : Int) + 1 ≤ (c : Int) := by omega
                have i3 : (0 : Int) ≤ (o : Int) + (j : Int) + 1 := by omega
                have i4 : ((o : Int) + (j : Int) + 1).toNat = o + j + 1 := by omega
                have i5 : ¬ (c = o) := by omega
                go_wp2_with fail
                first | (go_region_held (fun w' => w'.cell? ⟨q, 0, none⟩ = some (.slice (some ⟨b, off, none⟩) L.length c) ∧ w'.cell? ⟨q, 1, none⟩ = some (.int .i64 o)) (first | go_keep | (go_split_ands; refine ⟨?_, ?_⟩ <;> first | go_keep | assumption))
                  (first
                    | (go_at_call 34
                       refine (rnumber_any w.heap.size V hV (.slice (some ⟨w.heap.size, 0, none⟩) 0 0) [] _ (by exact ⟨by simp [Lib.byteCells], .inr ⟨w.heap.size, 0, #[], rfl, Nat.le_refl _, heap_alloc_new w _, Nat.le_refl _, by unfold maxLen; omega, by simp, by simp [Lib.byteCells]⟩⟩) (by simp) (by simp)).mono ?_
                       rintro e w1 ⟨v1, rfl, hown1, hg1⟩
                       rw [List.nil_append] at hown1
                       have hb0 := hg1.below (B := w.heap.size) (by simp) (fun k hk => by simp [Value.ownBlock] at hk; omega)
                       have hB1 : Below w.heap.size w w1 := by first | exact ((Below.refl _ w).alloc (Nat.le_refl _) _).trans hb0 | exact ((Below.refl _ w).alloc (Nat.le_refl _) _).drew.trans hb0 | exact (Below.dN ((Below.refl _ w).alloc (Nat.le_refl _) _) _).trans hb0
                       have hR1 : RIn w1 q L (some ⟨b, off, none⟩) c o false := (hB1.block q hq).trans Hh.out
                       obtain ⟨d0, d1, d2, e0, e1, e2⟩ := hR1.cells
                       have hT1 : Bs w1 q (some ⟨b, off + o, none⟩) ((L.drop o).take (j + 1)) := hT.below hB1 (by omega)
                       have hbad1 := hR1.bad
                       have hstep1 := hR1.step (o + j + 1)
                       have hTu : Turn q w w1 := (Below.grew hB1 (.slice (some ⟨q, 0, none⟩) 0 0)).1
                       have Hbad1 := Lib.hid hbad1
                       have Hstep1 := Lib.hid hstep1
                       obtain ⟨A1, k1, rfl, hk1, hkm, hbs1⟩ := hown1.slice
                       clear hbad1 hstep1)
                    | (go_at_call 9
                       refine (same_n _ _ A1 (some ⟨b, off + o, none⟩) k1 _ _ _ (Lib.uvarint V) ((L.drop o).take (j + 1)) _ false (by exact hbs1) (by exact hT1) rfl (by rw [HTl.out]; omega) (by unfold maxLen; omega) (by unfold maxLen; omega) HS.out).mono ?_
                       rintro e w2 ⟨rfl, k2, rfl⟩))) | fail
                all_goals
                  go_wp2_with fail
                  go_ret
                  exact ⟨by rw [HrC.out]; rfl, by rw [HrC.out]; exact Hbad1.out, (hTu.drewN _).trans (Turn.set q 2 _ _)⟩
      · have hr : rnF most L o wr = (0, o, true) := by
          rw [HrF.out]
          rw [if_pos (.inr (by rw [if_pos (.inl (by omega))]))]
        have Hr := Lib.hid hr
        have hje : L.length ≤ o + j := by omega
        clear hr hend
        cases wr with
        | true =>
          go_wp2
          go_ret
          exact ⟨by rw [Hr.out]; rfl, by rw [Hr.out]; exact Hbad.out, Turn.set q 2 _ _⟩
        | false =>
          go_wp2
          go_ret
          exact ⟨by rw [Hr.out]; rfl, by rw [Hr.out]; exact Hbad.out, Turn.set q 2 _ _⟩

end Go.Proofs.YtfelacpaaialfaaDoor

/-
  The walk of SpaceCalls.
-/
import Derived.Test.YtejmojldfffbnacSpaceTwin
import Derived.Test.YtejmojldfffbnacSpaceRef
import Derived.Test.YtejmojldfffbnacCallsArg
import Derived.Deep.DeepCutAuto
import Derived.Deep.CutBlock
import Derived.Deep.LoopGhost
namespace Go.Proofs.Ytejmojldfffbnac
open Go.RowKit
set_option linter.unusedVariables false

theorem rturn_at (g a n l : Nat) (b : Bool) (L : List Bool) (c : Nat) (w : World) (hl : L.length = l) (h : Arr w g 4 (boolCells L)) (hc : l ≤ c) (hm : c ≤ 9223372036854775807) (han : a + n ≤ l) :
    Calls Try.prog 28 #[.slice (some ⟨g, 0, none⟩) l c, .int .i64 (a : Nat), .int .i64 (n : Nat), .bool b] w (TurnPost g a n b L w) := by
  subst hl; exact rturn_yes g a n b L c w h hc hm han
theorem rturn_nat (g : Nat) (a n : Int) (l : Nat) (b : Bool) (L : List Bool) (c : Nat) (w : World) (hl : L.length = l) (hc : l ≤ c) (hm : c ≤ 9223372036854775807) (ha : a ≤ 9223372036854775807) (hx : n < 0 ∨ a < 0 ∨ (l : Int) - a < n) :
    Calls Try.prog 28 #[.slice (some ⟨g, 0, none⟩) l c, .int .i64 a, .int .i64 n, .bool b] w fun e w' => e = .returned (.int .i64 2) ∧ w = w' := by
  subst hl; exact rturn_no g a n b L c w hc hm ha hx
theorem rfree_at (g l : Nat) (L : List Bool) (c : Nat) (w : World) (hl : L.length = l) (h : Arr w g 4 (boolCells L)) (hc : l ≤ c) (hm : c ≤ 9223372036854775807) :
    Calls Try.prog 34 #[.slice (some ⟨g, 0, none⟩) l c] w fun e w' => e = .returned (.int .i64 (freeF L : Nat)) ∧ w = w' := by
  subst hl; exact rfree_any g L c w h hc hm
theorem rtake_yes (g n a l : Nat) (L : List Bool) (c : Nat) (w : World) (hl : L.length = l) (h : Arr w g 4 (boolCells L)) (hc : l ≤ c) (hm : c ≤ 9223372036854775807) (hn : 1 ≤ n) (hn2 : n ≤ 9223372036854775807) (hR : roomF L n = some a) :
    Calls Try.prog 32 #[.slice (some ⟨g, 0, none⟩) l c, .int .i64 (n : Nat)] w fun e w' => e = .returned (.tuple #[.int .i64 (a : Nat), .int .i64 0]) ∧ w = w' := by
  subst hl
  refine (rtake_any g n L c w h hc hm hn hn2).mono ?_
  rintro e w' ⟨rfl, rfl⟩
  rw [hR]
  exact ⟨rfl, rfl⟩
theorem rtake_no (g n l : Nat) (L : List Bool) (c : Nat) (w : World) (hl : L.length = l) (h : Arr w g 4 (boolCells L)) (hc : l ≤ c) (hm : c ≤ 9223372036854775807) (hn : 1 ≤ n) (hn2 : n ≤ 9223372036854775807) (hR : roomF L n = none) :
    Calls Try.prog 32 #[.slice (some ⟨g, 0, none⟩) l c, .int .i64 (n : Nat)] w fun e w' => e = .returned (.tuple #[.int .i64 0, .int .i64 4]) ∧ w = w' := by
  subst hl
  refine (rtake_any g n L c w h hc hm hn hn2).mono ?_
  rintro e w' ⟨rfl, rfl⟩
  rw [hR]
  exact ⟨rfl, rfl⟩

theorem freeF_full : ∀ (L : List Bool), (∀ j, j < L.length → L.getD j true = true) → freeF L = 0
  | [], _ => rfl
  | x :: L, h => by
    have hx : x = true := by simpa using h 0 (by simp)
    subst hx
    have := freeF_full L fun j hj => by simpa using h (j + 1) (by simpa using hj)
    simp [freeF, this]
theorem setF_full {L : List Bool} {n : Nat} (h : L.length = n) : freeF (setF 0 true n L) = 0 := by
  refine freeF_full _ fun j hj => ?_
  rw [setF_length] at hj
  rw [setF_get hj, if_pos (by omega)]

set_option maxHeartbeats 8000000 in
set_option maxRecDepth 100000 in
theorem spaceCalls_many (s f : Int) (A : Option Addr) (len cap : Nat) (hc : len ≤ cap) (hm : cap ≤ 9223372036854775807) (w : World) (h60 : 60 < len) :
    Calls Try.prog 8 #[.int .i64 s, .int .i64 f, .slice A len cap] w fun e w' => e = .returned (.bool true) ∧ Below w.heap.size w w' := by
  have hd : decide ((60 : Int) < (len : Int)) = true := by simp; omega
  go_enter Try.func8, Try.ntmps8
  go_wp2_with fail
  refine Calls.mono (spaceSpeaks_true w) ?_
  rintro e w1 ⟨rfl, hb⟩
  go_wp2_with fail
  go_ret
  exact ⟨rfl, hb⟩

set_option maxHeartbeats 8000000 in
set_option maxRecDepth 100000 in
theorem spaceCalls_bad (s f : Int) (A : Option Addr) (len cap : Nat) (hc : len ≤ cap) (hm : cap ≤ 9223372036854775807) (w : World) (h60 : len ≤ 60) (hbad : s < 1 ∨ 65536 < s ∨ f < 0 ∨ s < f) :
    Calls Try.prog 8 #[.int .i64 s, .int .i64 f, .slice A len cap] w fun e w' => e = .returned (.bool true) ∧ Below w.heap.size w w' := by
  have hd : decide ((60 : Int) < (len : Int)) = false := by simp; omega
  have hB := Lib.hid hbad
  have hd2 : decide (s < 1) = true ∨ (decide (s < 1) = false ∧ decide (65536 < s) = true) ∨ (decide (s < 1) = false ∧ decide (65536 < s) = false ∧ decide (f < 0) = true) ∨ (decide (s < 1) = false ∧ decide (65536 < s) = false ∧ decide (f < 0) = false ∧ decide (s < f) = true) := by
    simp only [decide_eq_true_eq, decide_eq_false_iff_not]
    omega
  clear hbad
  rcases hd2 with h1 | ⟨h1, h2⟩ | ⟨h1, h2, h3⟩ | ⟨h1, h2, h3, h4⟩
  all_goals
    go_enter Try.func8, Try.ntmps8
    go_wp2_with fail
    refine Calls.mono (spaceSpeaks_true w) ?_
    rintro e w1 ⟨rfl, hb⟩
    go_wp2_with fail
    refine Calls.mono (new_no s f w1 hB.out) ?_
    rintro e w2 ⟨rfl, rfl⟩
    go_wp2_with fail
    go_ret
    exact ⟨rfl, hb⟩

set_option maxHeartbeats 40000000 in
set_option maxRecDepth 100000 in
theorem spaceCalls_good (s f : Nat) (A : Option Addr) (len cap : Nat) (cl : Nat → Cl) (hc : len ≤ cap) (hm : cap ≤ 9223372036854775807) (w : World) (hcl : ClsAt w w.heap.size A len cl) (h60 : len ≤ 60) (hs1 : 1 ≤ s) (hs2 : s ≤ 65536) (hfs : f ≤ s) :
    Calls Try.prog 8 #[.int .i64 (s : Nat), .int .i64 (f : Nat), .slice A len cap] w fun e w' => e = .returned (.bool true) ∧ Below w.heap.size w w' := by
  have h0 : decide ((60 : Int) < (len : Int)) = false := by simp; omega
  have h1 : decide ((s : Int) < 1) = false := by simp; omega
  have h2 : decide ((65536 : Int) < (s : Int)) = false := by simp; omega
  have h3 : decide ((f : Int) < 0) = false := by simp
  have h4 : decide ((s : Int) < (f : Int)) = false := by simp; omega
  have hfree := firstF_free (n := s) (k := f) hfs
  obtain ⟨f', hf'⟩ : ∃ f' : Nat, s - f = f' := ⟨_, rfl⟩
  have hfI : (s : Int) - (f : Int) = (f' : Int) := by omega
  rw [hf'] at hfree
  have Hfree := Lib.hid hfree
  have hmk := run_make_bools s hs2
  obtain ⟨C, hC⟩ : ∃ C, C = (boolCells (List.replicate s false)).toArray := ⟨_, rfl⟩
  rw [← hC] at hmk
  have HC := Lib.hid hC
  clear hf' hfree hC
  go_enter Try.func8, Try.ntmps8
  go_wp2_with fail
  refine Calls.mono (spaceSpeaks_true w) ?_
  rintro e w1 ⟨rfl, hb1⟩
  go_wp2_with fail
  refine Calls.mono (new_first s f w1 hs1 (by omega) hfs) ?_
  rintro e w2 ⟨p, g, m, rfl, hp, hg, hS, hF, hb2⟩
  have hb := hb1.trans (hb2.mono hb1.size)
  have hcl2 := Lib.hid (hcl.below hb (Nat.le_refl _))
  have hpw : w.heap.size ≤ p := Nat.le_trans hb1.size hp
  have hgw : w.heap.size ≤ g := Nat.le_trans hb1.size hg
  have hp2 := hS.hp.lt
  have hg2 := hS.hg.lt
  have hS' := hS
  rw [Hfree.out] at hS'
  clear hcl hb1 hb2 hp hg
  go_wp2_with fail
  refine Calls.mono (free_any p g _ _ _ s [] w2 hS') ?_
  rintro e w3 ⟨rfl, rfl⟩
  by_cases h300 : 300 < s
  · have hd : decide ((300 : Int) < (s : Int)) = true := by simp; omega
    go_wp2_with fail
    go_ret
    exact ⟨rfl, hb⟩
  · have hd : decide ((300 : Int) < (s : Int)) = false := by simp; omega
    have hs300 : s ≤ 300 := by omega
    clear h300 hS'
    go_wp2_with fail
    obtain ⟨gl, hgl⟩ : ∃ gl, gl = w2.heap.size := ⟨_, rfl⟩
    have hA0 : Arr (w2.alloc (.cells C 4)) w2.heap.size 4 (boolCells (List.replicate s false)) := by rw [HC.out]; exact Arr.new w2 _ _
    have hbA : Below w.heap.size w (w2.alloc (.cells C 4)) := hb.alloc hb.size _
    have hSA : SpT (w2.alloc (.cells C 4)) p g (firstF s f) (freeF (firstF s f)) m s [] := hS.up ((Below.refl _ w2).alloc (Nat.le_refl _) _)
    have hwgl : w.heap.size ≤ w2.heap.size := hb.size
    rw [← hgl] at hA0 hp2 hg2 hwgl ⊢
    obtain ⟨wA, hwA⟩ : ∃ x, x = w2.alloc (.cells C 4) := ⟨_, rfl⟩
    rw [← hwA] at hA0 hbA hSA ⊢
    clear hwA hS hgl hmk
    refine Calls.mono (rturn_at gl 0 f s true _ s wA (by simp) hA0 (Nat.le_refl _) (by omega) (by omega)) ?_
    rintro e w4 ⟨rfl, hA4, hO4, -⟩
    have hA4' : Arr w4 gl 4 (boolCells (firstF s f)) := hA4
    have hS4 := hSA.only hO4 (by omega) (by omega)
    have hb4 := hbA.trans (hO4.below hbA.size (by rintro i rfl; exact hwgl))
    have hL4 : Hid ((firstF s f).length = s) := firstF_length s f
    clear hA4 hA0 hSA hO4
    go_wp2_with fail
    go_loopg [74] len (fun gk i wr => ∃ (k m : Nat) (L : List Bool), k ≤ len ∧ gk = len - k ∧ i = .int .i64 k ∧ SpT wr p g L (freeF L) m s [] ∧ Full L m ∧ Hid (L.length = s) ∧ Arr wr gl 4 (boolCells L) ∧ Below w.heap.size w wr)
    case atStart => exact ⟨0, m, firstF s f, Nat.zero_le _, rfl, rfl, hS4, hF, hL4, hA4', hb4⟩
    case round =>
      clear hA4' hS4 hb4 hL4 hF hbA
      obtain ⟨k, m, L, hk, rfl, rfl, hS, hF, HL, hA, hbr⟩ := hrel
      by_cases hlt : k < len
      · obtain ⟨b, off, rfl, hbB, hcs⟩ := hcl2.out (by omega)
        obtain ⟨⟨hw1, hw2, ha1, ha2, hn1, hn2⟩, hk0, hk1, hk2⟩ := hcs k hlt
        obtain ⟨cw, hcw⟩ : ∃ x, (cl k).what = x := ⟨_, rfl⟩
        obtain ⟨ca, hca⟩ : ∃ x, (cl k).pos = x := ⟨_, rfl⟩
        obtain ⟨cn, hcn⟩ : ∃ x, (cl k).n = x := ⟨_, rfl⟩
        rw [hcw] at hw1 hw2 hk0
        rw [hca] at ha1 ha2 hk1
        rw [hcn] at hn1 hn2 hk2
        have hq : ∀ o, wr.cell? ⟨b, o, none⟩ = w2.cell? ⟨b, o, none⟩ := fun o => World.cell?_of_block ((hbr.block b hbB).trans (hb.block b hbB).symm)
        rw [← hq] at hk0 hk1 hk2
        have HF := Lib.hid hF
        clear hcw hca hcn hcs hq hF
        go_wp2_with fail
        obtain ⟨xb, hxb⟩ : ∃ x, x = wr.heap.size := ⟨_, rfl⟩
        obtain ⟨W, hW⟩ : ∃ x, x = wr.alloc (.cells #[.int .i64 cw, .int .i64 ca, .int .i64 cn] 66) := ⟨_, rfl⟩
        have hup : Below wr.heap.size wr W := by rw [hW]; exact (Below.refl _ wr).alloc (Nat.le_refl _) _
        have hXW : Arr W xb 66 [.int .i64 cw, .int .i64 ca, .int .i64 cn] := by rw [hW, hxb]; exact Arr.new wr _ _
        have hSW := hS.up hup
        have hAW := Arr.below hA hup hA.lt
        have hbW := hbr.trans (hup.mono hbr.size)
        have hxp : p < xb := by rw [hxb]; exact hS.hp.lt
        have hxg : g < xb := by rw [hxb]; exact hS.hg.lt
        have hxl : gl < xb := by rw [hxb]; exact hA.lt
        rw [← hW, ← hxb]
        clear hW hxb hup hS hA hbr hk0 hk1 hk2
        refine Calls.mono (twin_any p g L _ m s [] W hSW (by rw [HL.out]; omega) (by rw [HL.out]; omega)) ?_
        rintro e w5 ⟨tp, tg, tc, trest, rfl, htp, htg, hT5, hb5⟩
        have hS5 := hSW.up hb5
        have hA5 := Arr.below hAW hb5 hAW.lt
        have hX5 := Arr.below hXW hb5 hXW.lt
        have hB5 := hbW.trans (hb5.mono hbW.size)
        have hxt : xb < tp := Nat.lt_of_lt_of_le hXW.lt htp
        have hxu : xb < tg := Nat.lt_of_lt_of_le hXW.lt htg
        clear hSW hAW hXW hbW hb5 htp htg
        go_wp2_with fail
        refine Calls.mono (mark_yes tp tg 0 s L m tc trest w5 hT5 HF.out (by rw [HL.out]; omega)) ?_
        rintro e w6 ⟨rfl, mt, hT6, hFt, hO6⟩
        rw [setF_full HL.out] at hT6
        have hS6 := hS5.only hO6 (by omega) (by omega)
        have hA6 := Arr.only hA5 hO6 (by omega)
        have hX6 := Arr.only hX5 hO6 (by omega)
        have hB6 := hB5.trans (hO6.below hB5.size (by rintro i (rfl | rfl) <;> omega))
        obtain ⟨Lt, hLt⟩ : ∃ Lt, Lt = setF 0 true s L := ⟨_, rfl⟩
        rw [← hLt] at hT6
        clear hS5 hA5 hX5 hB5 hO6 hT5 hFt hLt
        have hx0 : w6.cell? ⟨xb, 0, none⟩ = some (.int .i64 cw) := hX6.cell 0
        have hx1 : w6.cell? ⟨xb, 1, none⟩ = some (.int .i64 ca) := hX6.cell 1
        have hx2 : w6.cell? ⟨xb, 2, none⟩ = some (.int .i64 cn) := hX6.cell 2
        go_upto_block 2 with fail
        go_cut [12] (fun s12 wx => s12 = .pointer (some ⟨tp, 0, none⟩) ∧ ∃ (m : Nat) (L : List Bool), SpT wx p g L (freeF L) m s [] ∧ Full L m ∧ Hid (L.length = s) ∧ Arr wx gl 4 (boolCells L) ∧ Below w.heap.size w wx ∧ SpT wx tp tg Lt 0 mt tc trest)
        case first =>
          by_cases hc0 : cw = 0
          · subst hc0
            by_cases hn0 : cn < 1
            · have hd1 : decide (cn < 1) = true := by simpa using hn0
              go_wp2_with fail
              refine Calls.mono (take_bad p g cn w6 hn0) ?_
              rintro e w7 ⟨rfl, rfl⟩
              go_wp2_with fail
              refine Calls.mono (rtake_bad gl cn s s w6 hn0) ?_
              rintro e w7 ⟨rfl, rfl⟩
              go_wp2_with fail
              go_meet
              exact ⟨rfl, m, L, hS6, HF.out, HL, hA6, hB6, hT6⟩
            · obtain ⟨q, rfl⟩ : ∃ q : Nat, cn = (q : Nat) := ⟨cn.toNat, by omega⟩
              have hq1 : 1 ≤ q := by omega
              have hq2 : q ≤ 9223372036854775807 := by omega
              clear hn0 hn1 hn2
              rcases hR : roomF L q with _ | at0
              · have HR := Lib.hid hR
                clear hR
                go_wp2_with fail
                refine Calls.mono (take_no p g q L m s [] w6 hS6 HF.out hq1 hq2 HR.out) ?_
                rintro e w7 ⟨rfl, nd, rfl⟩
                go_wp2_with fail
                refine Calls.mono (rtake_no gl q s L s _ HL.out (hA6.drewN nd) (Nat.le_refl _) (by omega) hq1 hq2 HR.out) ?_
                rintro e w8 ⟨rfl, rfl⟩
                go_wp2_with fail
                go_meet
                exact ⟨rfl, m, L, hS6.drewN nd, HF.out, HL, hA6.drewN nd, Below.dN hB6 nd, hT6.drewN nd⟩
              · have hfit := okF_fits hq1 (roomF_is hR).1
                rw [HL.out] at hfit
                have HR := Lib.hid hR
                clear hR
                go_wp2_with fail
                refine Calls.mono (take_yes p g q at0 L m s [] w6 hS6 HF.out hq1 hq2 HR.out) ?_
                rintro e w7 ⟨rfl, m7, hS7, hF7, hO7⟩
                have hF7 := Lib.hid hF7
                have hA7 := Arr.only hA6 hO7 (by omega)
                have hB7 := hB6.trans (hO7.below hB6.size (by rintro i (rfl | rfl) <;> omega))
                have hT7 := hT6.only hO7 (by omega) (by omega)
                have hx7 : w7.cell? ⟨xb, 2, none⟩ = some (.int .i64 (q : Nat)) := (Arr.only hX6 hO7 (by omega)).cell 2
                clear hS6 hA6 hB6 hT6 hO7 hx0 hx1 hx2 hX6
                go_wp2_with fail
                refine Calls.mono (rtake_yes gl q at0 s L s w7 HL.out hA7 (Nat.le_refl _) (by omega) hq1 hq2 HR.out) ?_
                rintro e w8 ⟨rfl, rfl⟩
                go_wp2_with fail
                refine Calls.mono (rturn_at gl at0 q s true L s w7 HL.out hA7 (Nat.le_refl _) (by omega) hfit) ?_
                rintro e w8 ⟨rfl, hA8, hO8, -⟩
                go_wp2_with fail
                go_meet
                exact ⟨rfl, m7, _, hS7.only hO8 (by omega) (by omega), hF7.out, by show _ = _; rw [setF_length, HL.out], hA8, hB7.trans (hO8.below hB7.size (by rintro i rfl; omega)), hT7.only hO8 (by omega) (by omega)⟩
          · by_cases hc1 : cw = 1
            · have hw0 : (cw == 0) = false := by rw [beq_eq_false_iff_ne]; exact hc0
              have hw1 : (cw == 1) = true := by rw [beq_iff_eq]; exact hc1
              clear hc0 hc1
              by_cases hv : 0 ≤ ca ∧ 0 ≤ cn ∧ cn ≤ (s : Int) - ca
              · obtain ⟨a, rfl⟩ : ∃ a : Nat, ca = (a : Nat) := ⟨ca.toNat, by omega⟩
                obtain ⟨q, rfl⟩ : ∃ q : Nat, cn = (q : Nat) := ⟨cn.toNat, by omega⟩
                have hans : a + q ≤ s := by omega
                have hanL : a + q ≤ L.length := by rw [HL.out]; exact hans
                have hse : s ≤ s := Nat.le_refl _
                have hsm : s ≤ 9223372036854775807 := by omega
                have hF6 := HF.out
                have hS6d : SpT w6.drew p g L (freeF L) m s [] := hS6.drewN 1
                have hA6d : Arr w6.drew gl 4 (boolCells L) := hA6.drewN 1
                have hB6d : Below w.heap.size w w6.drew := hB6.trans ⟨rfl, rfl, rfl, Nat.le_refl _, fun _ _ => rfl⟩
                have hT6d : SpT w6.drew tp tg Lt 0 mt tc trest := hT6.drewN 1
                have hlen := HL.out
                have Hlen := Lib.hid hlen
                clear hlen
                have hgap : p < xb ∧ g < xb ∧ gl < xb ∧ xb < tp ∧ xb < tg := ⟨hxp, hxg, hxl, hxt, hxu⟩
                have hne1 : gl ≠ p ∧ gl ≠ g ∧ tp ≠ p ∧ tp ≠ g ∧ tg ≠ p ∧ tg ≠ g ∧ xb ≠ p ∧ xb ≠ g := by omega
                have hne2 : p ≠ gl ∧ g ≠ gl ∧ tp ≠ gl ∧ tg ≠ gl ∧ xb ≠ gl := by omega
                have Hne1 := Lib.hid hne1
                have Hne2 := Lib.hid hne2
                clear hgap hne1 hne2 hv
                go_wp2_with fail
                go_region_held3 (fun w' => w'.cell? ⟨xb, 1, none⟩ = some (.int .i64 (a : Nat)) ∧ w'.cell? ⟨xb, 2, none⟩ = some (.int .i64 (q : Nat))) (first | exact ⟨hx1, hx2⟩ | exact ⟨kx1, kx2⟩ | exact ⟨ky1, ky2⟩ | exact ⟨kz1, kz2⟩)
                  (first
                    | (go_at_call 30; (with_reducible refine Calls.mono (mark_yes p g a q L m s [] w6.drew hS6d hF6 hanL) ?_); rintro e w7 ⟨rfl, m7, hS7, hF7, hO7⟩; have hA7 := Arr.only hA6d hO7 (by rintro (h | h); exact Hne1.out.1 h; exact Hne1.out.2.1 h); have hT7 := hT6d.only hO7 (by rintro (h | h); exact Hne1.out.2.2.1 h; exact Hne1.out.2.2.2.1 h) (by rintro (h | h); exact Hne1.out.2.2.2.2.1 h; exact Hne1.out.2.2.2.2.2.1 h); have hB7 := hB6d.trans (hO7.below hB6d.size (by rintro i (rfl | rfl) <;> assumption)); have hX7 : Arr w7 xb 66 [.int .i64 cw, .int .i64 (a : Nat), .int .i64 (q : Nat)] := Arr.only (w := w6.drew) (hX6.drewN 1) hO7 (by rintro (h | h); exact Hne1.out.2.2.2.2.2.2.1 h; exact Hne1.out.2.2.2.2.2.2.2 h); have kx1 : w7.cell? ⟨xb, 1, none⟩ = some (.int .i64 (a : Nat)) := hX7.cell 1; have kx2 : w7.cell? ⟨xb, 2, none⟩ = some (.int .i64 (q : Nat)) := hX7.cell 2)
                    | (go_at_call 28; (with_reducible refine Calls.mono (rturn_at gl a q s true L s w6.drew Hlen.out hA6d hse hsm hans) ?_); rintro e w8 ⟨rfl, hA8, hO8, -⟩; have hS8 := hS6d.only hO8 Hne2.out.1 Hne2.out.2.1; have hT8 := hT6d.only hO8 Hne2.out.2.2.1 Hne2.out.2.2.2.1; have hB8 := hB6d.trans (hO8.below hB6d.size (by rintro i rfl; exact hwgl)); have hX8 : Arr w8 xb 66 [.int .i64 cw, .int .i64 (a : Nat), .int .i64 (q : Nat)] := Arr.only (w := w6.drew) (hX6.drewN 1) hO8 Hne2.out.2.2.2.2; have ky1 : w8.cell? ⟨xb, 1, none⟩ = some (.int .i64 (a : Nat)) := hX8.cell 1; have ky2 : w8.cell? ⟨xb, 2, none⟩ = some (.int .i64 (q : Nat)) := hX8.cell 2)
                    | (go_at_call 28; (with_reducible refine Calls.mono (rturn_at gl a q s true L s w7 Hlen.out hA7 hse hsm hans) ?_); rintro e w9 ⟨rfl, hA9, hO9, -⟩; have hS9 := hS7.only hO9 Hne2.out.1 Hne2.out.2.1; have hF9 := hF7; have hT9 := hT7.only hO9 Hne2.out.2.2.1 Hne2.out.2.2.2.1; have hB9 := hB7.trans (hO9.below hB7.size (by rintro i rfl; exact hwgl)); have hX9 := Arr.only hX7 hO9 Hne2.out.2.2.2.2; have kz1 : w9.cell? ⟨xb, 1, none⟩ = some (.int .i64 (a : Nat)) := hX9.cell 1; have kz2 : w9.cell? ⟨xb, 2, none⟩ = some (.int .i64 (q : Nat)) := hX9.cell 2)
                    | (go_at_call 30; (with_reducible refine Calls.mono (mark_yes p g a q L m s [] w8 hS8 hF6 hanL) ?_); rintro e w9 ⟨rfl, m9, hS9, hF9, hO9⟩; have hA9 := Arr.only hA8 hO9 (by rintro (h | h); exact Hne1.out.1 h; exact Hne1.out.2.1 h); have hT9 := hT8.only hO9 (by rintro (h | h); exact Hne1.out.2.2.1 h; exact Hne1.out.2.2.2.1 h) (by rintro (h | h); exact Hne1.out.2.2.2.2.1 h; exact Hne1.out.2.2.2.2.2.1 h); have hB9 := hB8.trans (hO9.below hB8.size (by rintro i (rfl | rfl) <;> assumption)); have hX9 := Arr.only hX8 hO9 (by rintro (h | h); exact Hne1.out.2.2.2.2.2.2.1 h; exact Hne1.out.2.2.2.2.2.2.2 h); have kz1 : w9.cell? ⟨xb, 1, none⟩ = some (.int .i64 (a : Nat)) := hX9.cell 1; have kz2 : w9.cell? ⟨xb, 2, none⟩ = some (.int .i64 (q : Nat)) := hX9.cell 2))
                all_goals
                  go_wp2_with fail
                  go_meet
                  exact ⟨rfl, _, _, hS9, hF9, by show _ = _; rw [setF_length, HL.out], hA9, hB9, hT9⟩
              · have hx : cn < 0 ∨ ca < 0 ∨ (s : Int) - ca < cn := by omega
                have hxL : cn < 0 ∨ ca < 0 ∨ (L.length : Int) - ca < cn := by rw [HL.out]; exact hx
                have HX := Lib.hid hx
                have HXL := Lib.hid hxL
                clear hx hxL hv
                go_wp2_with fail
                go_quiet ((first
                  | (go_at_call 30; exact Calls.quiet_of_same ((mark_no p g ca cn L _ m s [] _ (hS6.drewN _) ha2 HXL.out).mono fun _ _ h => ⟨h.1, h.2.symm⟩))
                  | (go_at_call 28; exact Calls.quiet_of_same ((rturn_nat gl ca cn s true L s _ HL.out (Nat.le_refl _) (by omega) ha2 HX.out).mono fun _ _ h => ⟨h.1, h.2.symm⟩))))
                go_wp2_with fail
                go_meet
                exact ⟨rfl, m, L, hS6.drewN _, HF.out, HL, hA6.drewN _, Below.dN hB6 _, hT6.drewN _⟩
            · have hw0 : (cw == 0) = false := by rw [beq_eq_false_iff_ne]; exact hc0
              have hw1 : (cw == 1) = false := by rw [beq_eq_false_iff_ne]; exact hc1
              clear hc0 hc1
              by_cases hv : 0 ≤ ca ∧ 0 ≤ cn ∧ cn ≤ (s : Int) - ca
              · obtain ⟨a, rfl⟩ : ∃ a : Nat, ca = (a : Nat) := ⟨ca.toNat, by omega⟩
                obtain ⟨q, rfl⟩ : ∃ q : Nat, cn = (q : Nat) := ⟨cn.toNat, by omega⟩
                have hans : a + q ≤ s := by omega
                have hanL : a + q ≤ L.length := by rw [HL.out]; exact hans
                have hse : s ≤ s := Nat.le_refl _
                have hsm : s ≤ 9223372036854775807 := by omega
                have hF6 := HF.out
                have hS6d : SpT w6.drew p g L (freeF L) m s [] := hS6.drewN 1
                have hA6d : Arr w6.drew gl 4 (boolCells L) := hA6.drewN 1
                have hB6d : Below w.heap.size w w6.drew := hB6.trans ⟨rfl, rfl, rfl, Nat.le_refl _, fun _ _ => rfl⟩
                have hT6d : SpT w6.drew tp tg Lt 0 mt tc trest := hT6.drewN 1
                have hlen := HL.out
                have Hlen := Lib.hid hlen
                clear hlen
                have hgap : p < xb ∧ g < xb ∧ gl < xb ∧ xb < tp ∧ xb < tg := ⟨hxp, hxg, hxl, hxt, hxu⟩
                have hne1 : gl ≠ p ∧ gl ≠ g ∧ tp ≠ p ∧ tp ≠ g ∧ tg ≠ p ∧ tg ≠ g ∧ xb ≠ p ∧ xb ≠ g := by omega
                have hne2 : p ≠ gl ∧ g ≠ gl ∧ tp ≠ gl ∧ tg ≠ gl ∧ xb ≠ gl := by omega
                have Hne1 := Lib.hid hne1
                have Hne2 := Lib.hid hne2
                clear hgap hne1 hne2 hv
                go_wp2_with fail
                go_region_held3 (fun w' => w'.cell? ⟨xb, 1, none⟩ = some (.int .i64 (a : Nat)) ∧ w'.cell? ⟨xb, 2, none⟩ = some (.int .i64 (q : Nat))) (first | exact ⟨hx1, hx2⟩ | exact ⟨kx1, kx2⟩ | exact ⟨ky1, ky2⟩ | exact ⟨kz1, kz2⟩)
                  (first
                    | (go_at_call 33; (with_reducible refine Calls.mono (release_yes p g a q L m s [] w6.drew hS6d hF6 hanL) ?_); rintro e w7 ⟨rfl, m7, hS7, hF7, hO7⟩; have hA7 := Arr.only hA6d hO7 (by rintro (h | h); exact Hne1.out.1 h; exact Hne1.out.2.1 h); have hT7 := hT6d.only hO7 (by rintro (h | h); exact Hne1.out.2.2.1 h; exact Hne1.out.2.2.2.1 h) (by rintro (h | h); exact Hne1.out.2.2.2.2.1 h; exact Hne1.out.2.2.2.2.2.1 h); have hB7 := hB6d.trans (hO7.below hB6d.size (by rintro i (rfl | rfl) <;> assumption)); have hX7 : Arr w7 xb 66 [.int .i64 cw, .int .i64 (a : Nat), .int .i64 (q : Nat)] := Arr.only (w := w6.drew) (hX6.drewN 1) hO7 (by rintro (h | h); exact Hne1.out.2.2.2.2.2.2.1 h; exact Hne1.out.2.2.2.2.2.2.2 h); have kx1 : w7.cell? ⟨xb, 1, none⟩ = some (.int .i64 (a : Nat)) := hX7.cell 1; have kx2 : w7.cell? ⟨xb, 2, none⟩ = some (.int .i64 (q : Nat)) := hX7.cell 2)
                    | (go_at_call 28; (with_reducible refine Calls.mono (rturn_at gl a q s false L s w6.drew Hlen.out hA6d hse hsm hans) ?_); rintro e w8 ⟨rfl, hA8, hO8, -⟩; have hS8 := hS6d.only hO8 Hne2.out.1 Hne2.out.2.1; have hT8 := hT6d.only hO8 Hne2.out.2.2.1 Hne2.out.2.2.2.1; have hB8 := hB6d.trans (hO8.below hB6d.size (by rintro i rfl; exact hwgl)); have hX8 : Arr w8 xb 66 [.int .i64 cw, .int .i64 (a : Nat), .int .i64 (q : Nat)] := Arr.only (w := w6.drew) (hX6.drewN 1) hO8 Hne2.out.2.2.2.2; have ky1 : w8.cell? ⟨xb, 1, none⟩ = some (.int .i64 (a : Nat)) := hX8.cell 1; have ky2 : w8.cell? ⟨xb, 2, none⟩ = some (.int .i64 (q : Nat)) := hX8.cell 2)
                    | (go_at_call 28; (with_reducible refine Calls.mono (rturn_at gl a q s false L s w7 Hlen.out hA7 hse hsm hans) ?_); rintro e w9 ⟨rfl, hA9, hO9, -⟩; have hS9 := hS7.only hO9 Hne2.out.1 Hne2.out.2.1; have hF9 := hF7; have hT9 := hT7.only hO9 Hne2.out.2.2.1 Hne2.out.2.2.2.1; have hB9 := hB7.trans (hO9.below hB7.size (by rintro i rfl; exact hwgl)); have hX9 := Arr.only hX7 hO9 Hne2.out.2.2.2.2; have kz1 : w9.cell? ⟨xb, 1, none⟩ = some (.int .i64 (a : Nat)) := hX9.cell 1; have kz2 : w9.cell? ⟨xb, 2, none⟩ = some (.int .i64 (q : Nat)) := hX9.cell 2)
                    | (go_at_call 33; (with_reducible refine Calls.mono (release_yes p g a q L m s [] w8 hS8 hF6 hanL) ?_); rintro e w9 ⟨rfl, m9, hS9, hF9, hO9⟩; have hA9 := Arr.only hA8 hO9 (by rintro (h | h); exact Hne1.out.1 h; exact Hne1.out.2.1 h); have hT9 := hT8.only hO9 (by rintro (h | h); exact Hne1.out.2.2.1 h; exact Hne1.out.2.2.2.1 h) (by rintro (h | h); exact Hne1.out.2.2.2.2.1 h; exact Hne1.out.2.2.2.2.2.1 h); have hB9 := hB8.trans (hO9.below hB8.size (by rintro i (rfl | rfl) <;> assumption)); have hX9 := Arr.only hX8 hO9 (by rintro (h | h); exact Hne1.out.2.2.2.2.2.2.1 h; exact Hne1.out.2.2.2.2.2.2.2 h); have kz1 : w9.cell? ⟨xb, 1, none⟩ = some (.int .i64 (a : Nat)) := hX9.cell 1; have kz2 : w9.cell? ⟨xb, 2, none⟩ = some (.int .i64 (q : Nat)) := hX9.cell 2))
                all_goals
                  go_wp2_with fail
                  go_meet
                  exact ⟨rfl, _, _, hS9, hF9, by show _ = _; rw [setF_length, HL.out], hA9, hB9, hT9⟩
              · have hx : cn < 0 ∨ ca < 0 ∨ (s : Int) - ca < cn := by omega
                have hxL : cn < 0 ∨ ca < 0 ∨ (L.length : Int) - ca < cn := by rw [HL.out]; exact hx
                have HX := Lib.hid hx
                have HXL := Lib.hid hxL
                clear hx hxL hv
                go_wp2_with fail
                go_quiet ((first
                  | (go_at_call 33; exact Calls.quiet_of_same ((release_no p g ca cn L _ m s [] _ (hS6.drewN _) ha2 HXL.out).mono fun _ _ h => ⟨h.1, h.2.symm⟩))
                  | (go_at_call 28; exact Calls.quiet_of_same ((rturn_nat gl ca cn s false L s _ HL.out (Nat.le_refl _) (by omega) ha2 HX.out).mono fun _ _ h => ⟨h.1, h.2.symm⟩))))
                go_wp2_with fail
                go_meet
                exact ⟨rfl, m, L, hS6.drewN _, HF.out, HL, hA6.drewN _, Below.dN hB6 _, hT6.drewN _⟩
        case rest =>
          clear hS6 hA6 hB6 hT6 hx0 hx1 hx2 hX6 HF HL
          obtain ⟨rfl, m, L, hS, hF, HL, hA, hB, hT⟩ := hcut
          have hLs : (L.length : Int) ≤ (s : Int) := by rw [HL.out]; omega
          have HLs := Lib.hid hLs
          clear hLs
          go_wp2_with fail
          refine Calls.mono (free_any p g L _ m s [] wc hS) ?_
          rintro e w7 ⟨rfl, rfl⟩
          go_wp2_with fail
          refine Calls.mono (rfree_at gl s L s wc HL.out hA (Nat.le_refl _) (by omega)) ?_
          rintro e w7 ⟨rfl, rfl⟩
          go_wp2_with fail
          refine Calls.mono (free_any tp tg Lt 0 mt tc trest wc hT) ?_
          rintro e w7 ⟨rfl, rfl⟩
          go_wp2_with fail
          refine Calls.mono (taken_low p g (-1) wc (by omega)) ?_
          rintro e w7 ⟨rfl, rfl⟩
          go_wp2_with fail
          refine Calls.mono (taken_high p g s L _ m s [] wc hS HLs.out) ?_
          rintro e w7 ⟨rfl, rfl⟩
          go_wp2_with fail
          go_loopg [165] s (fun gk i wr => wr = wc ∧ ∃ j : Nat, j ≤ s ∧ gk = s - j ∧ i = .int .i64 j)
          case atStart => exact ⟨rfl, 0, Nat.zero_le _, rfl, rfl⟩
          case round =>
            obtain ⟨rfl, j, hj, rfl, rfl⟩ := hrel
            by_cases hjs : j < s
            · have hjL : j < L.length := by rw [HL.out]; exact hjs
              have gj := bool_at hA hjL false
              obtain ⟨x, hx⟩ : ∃ x, L.getD j false = x := ⟨_, rfl⟩
              rw [hx] at gj
              have Hx := Lib.hid hx
              clear hx
              cases x
              all_goals
                go_wp2_with fail
                refine Calls.mono (taken_in p g j L _ m s [] _ hS hjL) ?_
                rintro e w7 ⟨rfl, rfl⟩
                rw [Hx.out]
                go_wp2_with fail
                go_roundg (s - (j + 1))
                case measure => omega
                case rel => exact ⟨rfl, j + 1, by omega, rfl, by go_num⟩
            · go_wp2_with fail
              go_roundg (len - (k + 1))
              case measure => omega
              case rel => exact ⟨k + 1, m, L, by omega, rfl, by go_num, hS, hF, HL, hA, hB⟩
      · go_wp2_with fail
        go_ret
        exact ⟨rfl, hbr⟩

theorem spaceCalls_walk (s : Int) (hs1 : -9223372036854775808 ≤ s) (hs2 : s ≤ 9223372036854775807) (f : Int) (hf1 : -9223372036854775808 ≤ f) (hf2 : f ≤ 9223372036854775807) (A : Option Addr) (len cap : Nat) (cl : Nat → Cl) (h00 : 0 = 0) (hc : len ≤ cap) (hm : cap ≤ maxLen) (w : World) (hcl : ClsAt w w.heap.size A len cl) :
    Calls Try.prog 8 #[.int .i64 s, .int .i64 f, .slice A len cap] w fun e w' => e = .returned (.bool true) ∧ Below w.heap.size w w' := by
  unfold maxLen at hm
  by_cases h60 : 60 < len
  · exact spaceCalls_many s f A len cap hc (by omega) w h60
  · by_cases hbad : s < 1 ∨ 65536 < s ∨ f < 0 ∨ s < f
    · exact spaceCalls_bad s f A len cap hc (by omega) w (by omega) hbad
    · obtain ⟨n, rfl⟩ : ∃ n : Nat, s = (n : Nat) := ⟨s.toNat, by omega⟩
      obtain ⟨k, rfl⟩ : ∃ k : Nat, f = (k : Nat) := ⟨f.toNat, by omega⟩
      exact spaceCalls_good n k A len cap cl hc (by omega) w hcl (by omega) (by omega) (by omega) (by omega)

end Go.Proofs.Ytejmojldfffbnac

/-
  The document's own In: take, Bytes, Done.
-/
import Derived.Test.YtfelacpaaialfaaDoorRefIn
import Derived.Deep.AppendLies
namespace Go.Proofs.YtfelacpaaialfaaDoor
open Go.RowKit
set_option linter.unusedVariables false

def takeF (n : Nat) (L : List UInt8) (o : Nat) (wr : Bool) : List UInt8 × Nat × Bool :=
  if wr = true ∨ L.length - o < n then ([], o, true) else ((L.drop o).take n, o + n, false)

def TakePost (q n : Nat) (L : List UInt8) (A : Option Addr) (c o : Nat) (wr : Bool) (w : World) (e : Ending) (w' : World) : Prop :=
  ∃ v, e = .returned v ∧ Owns w' w.heap.size 5 v (takeF n L o wr).1 ∧ RIn w' q L A c (takeF n L o wr).2.1 (takeF n L o wr).2.2 ∧ Turn q w w'

theorem TakePost.dr {q n : Nat} {L : List UInt8} {A : Option Addr} {c o : Nat} {wr : Bool} {w w' : World} {e : Ending} (h : TakePost q n L A c o wr w e w') (k : Nat) : TakePost q n L A c o wr w e (w'.drewN k) := by
  obtain ⟨v, h1, h2, h3, h4⟩ := h
  exact ⟨v, h1, h2, h3, h4.drewN k⟩

theorem owns_empty (w : World) (B : Nat) (hB : B ≤ w.heap.size) : Owns (w.alloc (.cells #[] 5)) B 5 (.slice (some ⟨w.heap.size, 0, none⟩) 0 0) [] :=
  ⟨by simp [Lib.byteCells], .inr ⟨w.heap.size, 0, #[], rfl, hB, heap_alloc_new w _, Nat.le_refl _, by unfold maxLen; omega, by simp, by simp [Lib.byteCells]⟩⟩

theorem Owns.kept_set {w : World} {B q i : Nat} {T : TypeId} {v u : Value} {l : List UInt8} (h : Owns w B T v l) (hq : q < B) : Owns (w.setCell ⟨q, i, none⟩ u) B T v l :=
  h.apart (row := some q) ⟨rfl, rfl, rfl, by simp [World.setCell], fun k _ hk => Below.heap_setCell w _ u k (fun e => hk (by rw [e]))⟩ (fun k hk e => by have := (h.lt k hk).1; injection e with e; omega)

theorem RIn.alloc {w : World} {q : Nat} {L : List UInt8} {A : Option Addr} {c o : Nat} {wr : Bool} (h : RIn w q L A c o wr) (ob : Obj) : RIn (w.alloc ob) q L A c o wr := (Below.heap_alloc w ob q h.lt).trans h

theorem TakePost.mk' {q n : Nat} {L l : List UInt8} {A : Option Addr} {c o o' i : Nat} {wr : Bool} {w w1 : World} {v u : Value} {k : Nat} (hr : takeF n L o wr = (l, o', false)) (hown : Owns w1 w.heap.size 5 v l) (ht : Turn q w w1) (hq : q < w.heap.size)
    (hR : RIn ((w1.drewN k).setCell ⟨q, i, none⟩ u) q L A c o' false) : TakePost q n L A c o wr w (.returned v) ((w1.drewN k).setCell ⟨q, i, none⟩ u) :=
  ⟨v, rfl, by rw [hr]; exact Owns.kept_set (by exact hown) hq, by rw [hr]; exact hR, (ht.drewN _).trans (Turn.set q i _ _)⟩

theorem TakePost.mk0 {q n : Nat} {L l : List UInt8} {A : Option Addr} {c o o' i : Nat} {wr : Bool} {w w1 : World} {v u : Value} (hr : takeF n L o wr = (l, o', false)) (hown : Owns w1 w.heap.size 5 v l) (ht : Turn q w w1) (hq : q < w.heap.size)
    (hR : RIn (w1.setCell ⟨q, i, none⟩ u) q L A c o' false) : TakePost q n L A c o wr w (.returned v) (w1.setCell ⟨q, i, none⟩ u) :=
  ⟨v, rfl, by rw [hr]; exact Owns.kept_set (by exact hown) hq, by rw [hr]; exact hR, ht.trans (Turn.set q i _ _)⟩

set_option maxHeartbeats 16000000 in
set_option maxRecDepth 100000 in
theorem take_in (q n : Nat) (L : List UInt8) (A : Option Addr) (c o : Nat) (wr : Bool) (w : World) (h : RIn w q L A c o wr) (hf : RFix w q L A c) (ho : o ≤ L.length) (hn : n < 9223372036854775808) :
    Calls Tryd.prog 35 #[.pointer (some ⟨q, 0, none⟩), .int .i64 n] w (TakePost q n L A c o wr w) := by
  have hq := h.lt
  have Hh := Lib.hid h
  have Hbad := Lib.hid h.bad
  have hcells := h.cells
  obtain ⟨c0, c1, c2, f0, f1, f2⟩ := hcells
  obtain ⟨hle, hlim, hcap, hb⟩ := hf
  have hc63 : c ≤ 9223372036854775807 := by unfold maxLen at hcap; omega
  have htF : takeF n L o wr = if wr = true ∨ L.length - o < n then ([], o, true) else ((L.drop o).take n, o + n, false) := rfl
  have HF := Lib.hid htF
  clear htF h
  have fin : Hid (takeF n L o wr = ([], o, true) → TakePost q n L A c o wr w (.returned (.slice (some ⟨w.heap.size, 0, none⟩) 0 0)) ((w.setCell ⟨q, 2, none⟩ (.bool true)).alloc (.cells #[] 5))) := by
    intro hr
    have hs : (w.setCell ⟨q, 2, none⟩ (.bool true)).heap.size = w.heap.size := by simp [World.setCell]
    refine ⟨_, rfl, ?_, by rw [hr]; exact Hbad.out.alloc _, by exact (Turn.set q 2 w _).alloc _⟩
    rw [hr]
    have := owns_empty (w.setCell ⟨q, 2, none⟩ (.bool true)) w.heap.size (by omega)
    rwa [hs] at this
  have hn0 : (0 : Int) ≤ (n : Int) := by omega
  have hnn : decide ((n : Int) < 0) = false := by simp
  cases wr with
  | true =>
    have hr := HF.out
    rw [if_pos (.inl rfl)] at hr
    have Hr := Lib.hid hr
    clear hr
    go_enter Tryd.func35, Tryd.ntmps35
    go_wp2
    go_quiet (fail)
    go_wp2
    go_ret
    exact (fin.out Hr.out).dr _
  | false =>
    by_cases hlt : L.length - o < n
    · have hr := HF.out
      rw [if_pos (.inr hlt)] at hr
      have Hr := Lib.hid hr
      have hsub : IntKind.i64.wrap ((L.length : Int) - (o : Int)) = (L.length : Int) - (o : Int) := IntWalk.i64_in _ (by omega)
      have hd : decide ((L.length : Int) - (o : Int) < (n : Int)) = true := by simp; omega
      clear hr hlt
      go_enter Tryd.func35, Tryd.ntmps35
      go_wp2
      go_quiet (fail)
      go_wp2
      go_ret
      exact (fin.out Hr.out).dr _
    · have hr := HF.out
      rw [if_neg (by simp; omega)] at hr
      have Hr := Lib.hid hr
      have hsub : IntKind.i64.wrap ((L.length : Int) - (o : Int)) = (L.length : Int) - (o : Int) := IntWalk.i64_in _ (by omega)
      have hd : decide ((L.length : Int) - (o : Int) < (n : Int)) = false := by simp; omega
      have hle2 : o + n ≤ L.length := by omega
      clear hr hlt fin HF
      rcases A with _ | ⟨b, off, spot⟩
      · have hL0 : L.length = 0 := by
          rcases Nat.eq_zero_or_pos L.length with e | e
          · exact e
          · obtain ⟨_, _, e, _⟩ := hb e; cases e
        obtain rfl : L = [] := List.eq_nil_of_length_eq_zero hL0
        obtain rfl : o = 0 := by omega
        obtain rfl : n = 0 := by omega
        obtain ⟨i0, hi, hz0, hz1, hz2⟩ := info_parts byteInfo
        have c0' : w.cell? ⟨q, 0, none⟩ = some (.slice none 0 c) := c0
        have c1' : w.cell? ⟨q, 1, none⟩ = some (.int .i64 0) := c1
        have hT : Bs w q none [] := Bs.nil _ _ _
        have Hr0 : Hid (takeF 0 [] 0 false = ([], 0, false)) := rfl
        have hw0 : IntKind.i64.wrap 0 = 0 := rfl
        clear c0 c1 hsub hd Hr
        go_enter Tryd.func35, Tryd.ntmps35
        go_wp2
        go_quiet (fail)
        go_wp2
        go_region_held3 (fun w' => w'.cell? ⟨q, 0, none⟩ = some (.slice none 0 c) ∧ w'.cell? ⟨q, 1, none⟩ = some (.int .i64 0)) (first | go_keep | (go_split_ands; refine ⟨?_, ?_⟩ <;> first | go_keep | assumption))
          (first
            | (refine step_append_bs (by rfl) _ _ _ (by rfl) w.heap.size 5 i0 (.int .u8 0) Tryd.underlying22 hi hz0 hz1 hz2 rfl (.slice (some ⟨w.heap.size, 0, none⟩) 0 0) [] (by rfl) (by exact owns_empty w w.heap.size (Nat.le_refl _)) q _ _ _ [] (by rfl) (by rfl) (by exact Bs.nil _ _ _) (by simp) (by simp) ?_
               intro v1 w1 hown1 hg1
               rw [List.nil_append] at hown1
               have hb0 := hg1.below (B := w.heap.size) (by simp) (fun k hk => by simp [Value.ownBlock] at hk; omega)
               have hB1 : Below w.heap.size w w1 := by first | exact ((Below.refl _ w).alloc (Nat.le_refl _) _).trans hb0 | exact ((Below.refl _ w).alloc (Nat.le_refl _) _).drew.trans hb0 | exact (Below.dN ((Below.refl _ w).alloc (Nat.le_refl _) _) _).trans hb0
               have hR1 : RIn w1 q [] none c 0 false := (hB1.block q hq).trans Hh.out
               have dd := hR1.cells
               have d0 : w1.cell? ⟨q, 0, none⟩ = some (.slice none 0 c) := dd.1
               have d1 : w1.cell? ⟨q, 1, none⟩ = some (.int .i64 0) := dd.2.1
               have e1 := dd.2.2.2.2.1
               have Hstep1 := Lib.hid (hR1.step 0)
               have Hown1 := Lib.hid hown1
               have hTu : Turn q w w1 := (Below.grew hB1 (.slice (some ⟨q, 0, none⟩) 0 0)).1
               clear dd))
        go_wp2_with fail
        go_ret
        first | refine TakePost.mk' Hr0.out Hown1.out hTu hq ?_ | refine TakePost.mk0 Hr0.out Hown1.out hTu hq ?_
        exact Hstep1.out
      · by_cases hL0 : L.length = 0
        · obtain rfl : L = [] := List.eq_nil_of_length_eq_zero hL0
          obtain rfl : o = 0 := by omega
          obtain rfl : n = 0 := by omega
          obtain ⟨i0, hi, hz0, hz1, hz2⟩ := info_parts byteInfo
          have c0' : w.cell? ⟨q, 0, none⟩ = some (.slice (some ⟨b, off, spot⟩) 0 c) := c0
          have c1' : w.cell? ⟨q, 1, none⟩ = some (.int .i64 0) := c1
          have hT : Bs w q (some ⟨b, off, spot⟩) [] := Bs.nil _ _ _
          have Hr0 : Hid (takeF 0 [] 0 false = ([], 0, false)) := rfl
          have hw0 : IntKind.i64.wrap 0 = 0 := rfl
          clear c0 c1 hsub hd Hr
          go_enter Tryd.func35, Tryd.ntmps35
          go_wp2
          go_quiet (fail)
          go_wp2
          go_region_held3 (fun w' => w'.cell? ⟨q, 0, none⟩ = some (.slice (some ⟨b, off, spot⟩) 0 c) ∧ w'.cell? ⟨q, 1, none⟩ = some (.int .i64 0)) (first | go_keep | (go_split_ands; refine ⟨?_, ?_⟩ <;> first | go_keep | assumption))
            (first
              | (refine step_append_bs (by rfl) _ _ _ (by rfl) w.heap.size 5 i0 (.int .u8 0) Tryd.underlying22 hi hz0 hz1 hz2 rfl (.slice (some ⟨w.heap.size, 0, none⟩) 0 0) [] (by rfl) (by exact owns_empty w w.heap.size (Nat.le_refl _)) q _ _ _ [] (by rfl) (by rfl) (by exact Bs.nil _ _ _) (by simp) (by simp) ?_
                 intro v1 w1 hown1 hg1
                 rw [List.nil_append] at hown1
                 have hb0 := hg1.below (B := w.heap.size) (by simp) (fun k hk => by simp [Value.ownBlock] at hk; omega)
                 have hB1 : Below w.heap.size w w1 := by first | exact ((Below.refl _ w).alloc (Nat.le_refl _) _).trans hb0 | exact ((Below.refl _ w).alloc (Nat.le_refl _) _).drew.trans hb0 | exact (Below.dN ((Below.refl _ w).alloc (Nat.le_refl _) _) _).trans hb0
                 have hR1 : RIn w1 q [] (some ⟨b, off, spot⟩) c 0 false := (hB1.block q hq).trans Hh.out
                 have dd := hR1.cells
                 have d0 : w1.cell? ⟨q, 0, none⟩ = some (.slice (some ⟨b, off, spot⟩) 0 c) := dd.1
                 have d1 : w1.cell? ⟨q, 1, none⟩ = some (.int .i64 0) := dd.2.1
                 have e1 := dd.2.2.2.2.1
                 have Hstep1 := Lib.hid (hR1.step 0)
                 have Hown1 := Lib.hid hown1
                 have hTu : Turn q w w1 := (Below.grew hB1 (.slice (some ⟨q, 0, none⟩) 0 0)).1
                 clear dd))
          go_wp2_with fail
          go_ret
          first | refine TakePost.mk' Hr0.out Hown1.out hTu hq ?_ | refine TakePost.mk0 Hr0.out Hown1.out hTu hq ?_
          exact Hstep1.out
        · obtain ⟨b', off', e, _, _⟩ := hb (by omega)
          cases e
          by_cases hco : c = o
          · have hn0' : n ≤ 0 := by omega
            subst hco
            have hT : Bs w q (some ⟨b, off, none⟩) ((L.drop c).take n) := by
              obtain rfl : n = 0 := by omega
              exact Bs.nil _ _ _
            obtain ⟨i0, hi, hz0, hz1, hz2⟩ := info_parts byteInfo
            have hoc : (c : Int) ≤ (c : Int) + (n : Int) := by omega
            have hoc2 : (c : Int) + (n : Int) ≤ (c : Int) := by omega
            have hw : IntKind.i64.wrap ((c : Int) + (n : Int)) = (c : Int) + (n : Int) := IntWalk.i64_in _ (by omega)
            have hp0 : (0 : Int) ≤ (c : Int) := by omega
            have hp1 : (0 : Int) ≤ (c : Int) + (n : Int) := by omega
            have htn : ((c : Int) + (n : Int)).toNat = c + n := by omega
            have hTl : ((L.drop c).take n).length = n := by rw [List.length_take, List.length_drop]; omega
            have HTl := Lib.hid hTl
            clear hTl
            go_enter Tryd.func35, Tryd.ntmps35
            go_wp2
            go_quiet (fail)
            go_wp2
            go_region_held3 (fun w' => w'.cell? ⟨q, 0, none⟩ = some (.slice (some ⟨b, off, none⟩) L.length c) ∧ w'.cell? ⟨q, 1, none⟩ = some (.int .i64 c)) (first | go_keep | (go_split_ands; refine ⟨?_, ?_⟩ <;> first | go_keep | assumption))
              (first
                | (refine step_append_bs (by rfl) _ _ _ (by rfl) w.heap.size 5 i0 (.int .u8 0) Tryd.underlying22 hi hz0 hz1 hz2 rfl (.slice (some ⟨w.heap.size, 0, none⟩) 0 0) [] (by rfl) (by exact owns_empty w w.heap.size (Nat.le_refl _)) q _ _ _ ((L.drop c).take n) (by rfl) (HTl.out.trans (by omega)) (by exact hT.alloc (Nat.le_of_lt hq) _) (by simp; omega) (by simp) ?_
                   intro v1 w1 hown1 hg1
                   rw [List.nil_append] at hown1
                   have hb0 := hg1.below (B := w.heap.size) (by simp) (fun k hk => by simp [Value.ownBlock] at hk; omega)
                   have hB1 : Below w.heap.size w w1 := by first | exact ((Below.refl _ w).alloc (Nat.le_refl _) _).trans hb0 | exact ((Below.refl _ w).alloc (Nat.le_refl _) _).drew.trans hb0 | exact (Below.dN ((Below.refl _ w).alloc (Nat.le_refl _) _) _).trans hb0
                   have hR1 : RIn w1 q L (some ⟨b, off, none⟩) c c false := (hB1.block q hq).trans Hh.out
                   obtain ⟨d0, d1, d2, e0, e1, e2⟩ := hR1.cells
                   have Hstep1 := Lib.hid (hR1.step (c + n))
                   have Hown1 := Lib.hid hown1
                   have hTu : Turn q w w1 := (Below.grew hB1 (.slice (some ⟨q, 0, none⟩) 0 0)).1))
            go_wp2_with fail
            go_ret
            first | refine TakePost.mk' Hr.out Hown1.out hTu hq ?_ | refine TakePost.mk0 Hr.out Hown1.out hTu hq ?_
            exact Hstep1.out
          · have hT : Bs w q (some ⟨b, off + o, none⟩) ((L.drop o).take n) := by
              by_cases hol : o < L.length
              · obtain ⟨b2, off2, e, hd⟩ := hb.drop hol
                cases e
                exact hd.take
              · rw [List.drop_of_length_le (by omega), List.take_nil]
                exact Bs.nil _ _ _
            obtain ⟨i0, hi, hz0, hz1, hz2⟩ := info_parts byteInfo
            have hoc : (o : Int) ≤ (o : Int) + (n : Int) := by omega
            have hoc2 : (o : Int) + (n : Int) ≤ (c : Int) := by omega
            have hw : IntKind.i64.wrap ((o : Int) + (n : Int)) = (o : Int) + (n : Int) := IntWalk.i64_in _ (by omega)
            have hp0 : (0 : Int) ≤ (o : Int) := by omega
            have hp1 : (0 : Int) ≤ (o : Int) + (n : Int) := by omega
            have htn : ((o : Int) + (n : Int)).toNat = o + n := by omega
            have hTl : ((L.drop o).take n).length = n := by rw [List.length_take, List.length_drop]; omega
            have HTl := Lib.hid hTl
            clear hTl
            go_enter Tryd.func35, Tryd.ntmps35
            go_wp2
            go_quiet (fail)
            go_wp2
            go_region_held3 (fun w' => w'.cell? ⟨q, 0, none⟩ = some (.slice (some ⟨b, off, none⟩) L.length c) ∧ w'.cell? ⟨q, 1, none⟩ = some (.int .i64 o)) (first | go_keep | (go_split_ands; refine ⟨?_, ?_⟩ <;> first | go_keep | assumption))
              (first
                | (refine step_append_bs (by rfl) _ _ _ (by rfl) w.heap.size 5 i0 (.int .u8 0) Tryd.underlying22 hi hz0 hz1 hz2 rfl (.slice (some ⟨w.heap.size, 0, none⟩) 0 0) [] (by rfl) (by exact owns_empty w w.heap.size (Nat.le_refl _)) q _ _ _ ((L.drop o).take n) (by rfl) (HTl.out.trans (by omega)) (by exact hT.alloc (Nat.le_of_lt hq) _) (by simp; omega) (by simp) ?_
                   intro v1 w1 hown1 hg1
                   rw [List.nil_append] at hown1
                   have hb0 := hg1.below (B := w.heap.size) (by simp) (fun k hk => by simp [Value.ownBlock] at hk; omega)
                   have hB1 : Below w.heap.size w w1 := by first | exact ((Below.refl _ w).alloc (Nat.le_refl _) _).trans hb0 | exact ((Below.refl _ w).alloc (Nat.le_refl _) _).drew.trans hb0 | exact (Below.dN ((Below.refl _ w).alloc (Nat.le_refl _) _) _).trans hb0
                   have hR1 : RIn w1 q L (some ⟨b, off, none⟩) c o false := (hB1.block q hq).trans Hh.out
                   obtain ⟨d0, d1, d2, e0, e1, e2⟩ := hR1.cells
                   have Hstep1 := Lib.hid (hR1.step (o + n))
                   have Hown1 := Lib.hid hown1
                   have hTu : Turn q w w1 := (Below.grew hB1 (.slice (some ⟨q, 0, none⟩) 0 0)).1))
            go_wp2_with fail
            go_ret
            first | refine TakePost.mk' Hr.out Hown1.out hTu hq ?_ | refine TakePost.mk0 Hr.out Hown1.out hTu hq ?_
            exact Hstep1.out

end Go.Proofs.YtfelacpaaialfaaDoor

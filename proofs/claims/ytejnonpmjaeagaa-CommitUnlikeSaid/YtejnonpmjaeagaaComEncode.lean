/-
  A commit as bytes.
-/
import Derived.Test.YtejnonpmjaeagaaComRows
namespace Go.Proofs.Ytejnonpmjaeagaa
open Go.RowKit
set_option linter.unusedVariables false
set_option linter.unusedSimpArgs false


theorem refs3_built (X Y Z : List Value) (hX : X.length = 34) (hY : Y.length = 34) (hZ : Z.length = 34) : Try.prog.built 50 [(0, .agg X.toArray), (1, .agg Y.toArray), (2, .agg Z.toArray)] = some (X ++ (Y ++ Z)).toArray := by
  have h : ∀ parts, Try.prog.built 50 parts = Instr.fill (fun i => some (i * 34, 34)) (refZ ++ (refZ ++ refZ)).toArray parts := fun parts => by kernel_rfl
  rw [h]
  exact fill_ref3 X Y Z hX hY hZ _ (by rfl)
theorem refs3_index (X Y Z : List Value) (hX : X.length = 34) (hY : Y.length = 34) (hZ : Z.length = 34) (k : Nat) (hk : k < 3) (w : World) : (Instr.index 50 (.agg (X ++ (Y ++ Z)).toArray) (.int .i64 (k : Nat))).run Try.prog w = .ok (.agg ((([X, Y, Z] : List (List Value)).getD k []).toArray)) w := by
  have hs := refSize
  have hu3 := Try.underlying50
  have hu := Try.underlying26
  cases hq : Try.prog.info? 26 with
  | none => simp [hq] at hs
  | some i0 =>
    have h1 : i0.size = 34 := by simpa [hq] using hs
    have e : (((X ++ (Y ++ Z)).drop (k * 34)).take 34) = (([X, Y, Z] : List (List Value)).getD k []) := by
      match k, hk with
      | 0, _ => simp [← hX]
      | 1, _ =>
        rw [show 1 * 34 = X.length from by omega, List.drop_left, ← hY, List.take_left]
        rfl
      | 2, _ =>
        rw [← List.append_assoc, show 2 * 34 = (X ++ Y).length from by rw [List.length_append]; omega, List.drop_left, List.take_of_length_le (by omega)]
        rfl
    have hk' : (k : Int) < 3 := by omega
    simp [Instr.index, asIntOf, run_underlying hu3, run_underlying hu, sizeOf, typeInfo, hq, h1, part, isAgg, hk']
    rw [if_pos hk, e]
    rfl
/-- What Encode answers. -/
def EncPost (c : Com) (w : World) (e : Ending) (w' : World) : Prop :=
  ∃ v k, e = .returned (.tuple #[v, .int .i64 k]) ∧ Below w.heap.size w w' ∧ ((¬ MayC c ∧ k = 1 ∧ v = .slice none 0 0) ∨ (MayC c ∧ 65536 < (encC c).length ∧ k = 4 ∧ v = .slice none 0 0) ∨ (MayC c ∧ (encC c).length ≤ 65536 ∧ k = 0 ∧ Owns w' w.heap.size 5 v (encC c)))
/-- The head's bytes behind k Refs. -/
def headP (c : Com) : Nat → List UInt8
  | 0 => Lib.uvarint c.ep
  | 1 => Lib.uvarint c.ep ++ encR c.r1
  | 2 => Lib.uvarint c.ep ++ (encR c.r1 ++ encR c.r2)
  | _ => encH c
theorem headP_step (c : Com) (k : Nat) (hk : k < 3) : headP c (k + 1) = headP c k ++ encR (([c.r1, c.r2, c.r3] : List RefF).getD k zR) := by
  match k, hk with
  | 0, _ => rfl
  | 1, _ => simp [headP]
  | 2, _ => simp [headP, encH]
theorem refB_out (out d : List UInt8) (a n : Int) : refB out d a n = out ++ encR ⟨d, a, n⟩ := by unfold encR refB; simp

set_option maxHeartbeats 8000000 in
set_option maxRecDepth 100000 in
theorem enc_any (x : Cx) (VL : List Value) (hVL : VL = comC x) (w : World) (h : CxOk w w.heap.size x) (hlb : x.c.bins.length ≤ 100000) (hle : x.c.evs.length ≤ 100000) (hel : ∀ e ∈ x.c.evs, e.length ≤ 1000000) :
    Calls Try.prog 9 #[.agg VL.toArray] w (EncPost x.c w) := by
  obtain ⟨i0, hi, hz0, hz1, hz2⟩ := info_parts byteInfo
  have Hi := Lib.hid (show (Try.prog.info? 5) = some i0 ∧ i0.zero = some (.int .u8 0) ∧ i0.size = 1 ∧ i0.bytes = 1 from ⟨hi, hz0, hz1, hz2⟩)
  obtain ⟨W1, hW1⟩ : ∃ z, z = w.alloc (.cells VL.toArray 30) := ⟨_, rfl⟩
  have hR1 : Arr W1 w.heap.size 30 VL := by rw [hW1]; exact Arr.new w _ _
  have hb0 : Below w.heap.size w W1 := by rw [hW1]; exact (Below.refl _ w).alloc (Nat.le_refl _) _
  have hsz : W1.heap.size = w.heap.size + 1 := by rw [hW1]; simp
  have HVi := Lib.hid (show (Try.prog.info? 30).map (·.size) = some VL.toArray.size by rw [List.size_toArray, hVL, comC_length h]; exact comSize)
  have Hcom := Lib.hid (fun (w' : World) (hA : Arr w' w.heap.size 30 VL) => Arr.com (by rw [hVL] at hA; exact hA) (rC_length h.r1) (rC_length h.r2) (rC_length h.r3) (by rw [Lib.byteCells_length, h.st]))
  have Hok := Lib.hid h
  have HVL := Lib.hid hVL
  have HW1 := Lib.hid hW1
  obtain ⟨b, hb⟩ : ∃ b : Bool, b = true ↔ MayC x.c := by classical exact ⟨decide _, decide_eq_true_iff⟩
  have Hb := Lib.hid hb
  have Hlb := Lib.hid hlb
  have Hle := Lib.hid hle
  have Hel := Lib.hid hel
  clear hVL hW1 h hb hi hz0 hz1 hz2 hlb hle hel
  go_enter Try.func9, Try.ntmps9
  go_upto_region 1 with fail
  change Code.wp _ _ _ _ (w.alloc (.cells VL.toArray 30))
  rw [← HW1.out]
  clear HW1
  go_wp2_with (refine wpList_load_row rfl _ _ rfl w.heap.size rfl 30 VL.toArray (0, 0) _ hR1 Try.underlying30 rfl HVi.out ?_)
  refine Calls.mono (may_any x VL HVL.out W1 ((Hok.out.below hb0 (Nat.le_refl _)).more hb0.size) (Nat.le_trans Hlb.out (by omega)) b Hb.out) ?_
  rintro e w2 ⟨rfl, hb2⟩
  have hR2 := hR1.up hb2
  have hb2w := hb0.trans (hb2.mono hb0.size)
  have h2s := hb2.size
  clear hR1 hb2 hb0
  cases b with
  | false =>
    have Hno := Lib.hid (show ¬ MayC x.c from fun h => by have := Hb.out.2 h; cases this)
    clear Hb
    go_wp2_with fail
    go_ret2
    exact ⟨_, _, rfl, hb2w, .inl ⟨Hno.out, rfl, rfl⟩⟩
  | true =>
    have Hmay := Lib.hid (Hb.out.1 rfl)
    obtain ⟨p0, p1, p2, p3, p4, p5, p6⟩ := Hcom.out w2 hR2
    obtain ⟨ep, hep⟩ : ∃ z, x.c.ep = z := ⟨_, rfl⟩
    rw [hep] at p0
    have hepl : ep < 18446744073709551616 := by rw [← hep]; exact Hok.out.ep
    have Hep := Lib.hid hep
    have hlt2 := hR2.lt
    obtain ⟨B, hB⟩ : ∃ z, z = W1.heap.size := ⟨_, rfl⟩
    rw [← hB] at h2s hsz
    have hwB : w.heap.size < B := by omega
    obtain ⟨R1, hr1⟩ : ∃ z, z = rC x.c.r1 := ⟨_, rfl⟩
    obtain ⟨R2, hr2⟩ : ∃ z, z = rC x.c.r2 := ⟨_, rfl⟩
    obtain ⟨R3, hr3⟩ : ∃ z, z = rC x.c.r3 := ⟨_, rfl⟩
    have l1 : R1.length = 34 := by rw [hr1]; exact rC_length Hok.out.r1
    have l2 : R2.length = 34 := by rw [hr2]; exact rC_length Hok.out.r2
    have l3 : R3.length = 34 := by rw [hr3]; exact rC_length Hok.out.r3
    have HI1 := Lib.hid (show (Try.prog.info? 26).map (·.size) = some R1.length by rw [l1]; exact refSize)
    have HI2 := Lib.hid (show (Try.prog.info? 26).map (·.size) = some R2.length by rw [l2]; exact refSize)
    have HI3 := Lib.hid (show (Try.prog.info? 26).map (·.size) = some R3.length by rw [l3]; exact refSize)
    have HL := Lib.hid (show R1.length = 34 ∧ R2.length = 34 ∧ R3.length = 34 from ⟨l1, l2, l3⟩)
    have HRs := Lib.hid (show R1 = rC x.c.r1 ∧ R2 = rC x.c.r2 ∧ R3 = rC x.c.r3 from ⟨hr1, hr2, hr3⟩)
    have HR2 := Lib.hid hR2
    have Hb2w := Lib.hid hb2w
    clear hep Hb p1 p2 p3 p4 p5 p6 hr1 hr2 hr3 l1 l2 l3 hR2 hb2w hB
    go_wp2_with fail
    refine Calls.mono (number_own B ep hepl _ [] w2 (Owns.nil _ _ _) h2s (by simp)) ?_
    rintro e w3 ⟨v3, rfl, hO3, hb3⟩
    rw [List.nil_append] at hO3
    have hR3 := HR2.out.below hb3 hwB
    obtain ⟨_, p1, p2, p3, _, _, _⟩ := Hcom.out w3 hR3
    rw [← HRs.out.1] at p1
    rw [← HRs.out.2.1] at p2
    rw [← HRs.out.2.2] at p3
    have hb3w : Below w.heap.size w w3 := Hb2w.out.trans (hb3.mono (by omega))
    have h3s : B ≤ w3.heap.size := by have := hb3.size; omega
    have hO3' : Owns w3 B 5 v3 (headP x.c 0) := by show Owns w3 B 5 v3 (Lib.uvarint x.c.ep); rw [Hep.out]; exact hO3
    have HR3 := Lib.hid hR3
    have HO3 := Lib.hid hO3'
    have Hb3w := Lib.hid hb3w
    clear p0 hR3 hO3 hO3' hb3 hb3w
    go_wp2_with (first
      | (refine wpList_load_mid rfl _ _ rfl w.heap.size 1 rfl R1 _ p1 Try.underlying26 rfl HI1.out ?_)
      | (refine wpList_load_mid rfl _ _ rfl w.heap.size 35 rfl R2 _ p2 Try.underlying26 rfl HI2.out ?_)
      | (refine wpList_load_mid rfl _ _ rfl w.heap.size 69 rfl R3 _ p3 Try.underlying26 rfl HI3.out ?_)
      | (refine wpList_builtD rfl _ _ rfl _ rfl _ (refs3_built R1 R2 R3 HL.out.1 HL.out.2.1 HL.out.2.2) ?_))
    obtain ⟨ZL, hZL⟩ : ∃ z, z = refZ := ⟨_, rfl⟩
    have HZ := Lib.hid (fun w : World => show (zeroValue 26).run Try.prog w = .ok (.agg ZL.toArray) w by rw [hZL]; exact refZero w)
    have HZl := Lib.hid (show ZL.length = 34 by rw [hZL]; rfl)
    clear p1 p2 p3 hZL
    go_loopw [4, 20] (fun v i wr => ∃ k : Nat, k ≤ 3 ∧ i = .int .i64 k ∧ Owns wr B 5 v (headP x.c k) ∧ Hid ((headP x.c k).length ≤ 10 + 100 * k) ∧ Below B w3 wr) (fun _ i _ => 3 - (Go.RowKit.intOf i).toNat)
    case atStart => exact ⟨0, by omega, rfl, HO3.out, Lib.hid (by have := Lib.uvarint_length64 Hok.out.ep; exact this), Below.refl _ _⟩
    case round =>
      obtain ⟨k, hk, rfl, hO, Hl, hbr⟩ := hrel
      have hrB : B ≤ wr.heap.size := by have := hbr.size; omega
      by_cases hlt : k < 3
      · have hd1 : decide ((k : Int) < (3 : Int)) = true := by simp; omega
        obtain ⟨r, hr⟩ : ∃ z, ([x.c.r1, x.c.r2, x.c.r3] : List RefF).getD k zR = z := ⟨_, rfl⟩
        obtain ⟨RL, hRL⟩ : ∃ z, ([R1, R2, R3] : List (List Value)).getD k [] = z := ⟨_, rfl⟩
        have hidx := refs3_index R1 R2 R3 HL.out.1 HL.out.2.1 HL.out.2.2 k hlt
        rw [hRL] at hidx
        have hrr : RL = rC r ∧ RefW r := by
          rw [← hRL, ← hr]
          match k, hlt with
          | 0, _ => exact ⟨HRs.out.1, Hok.out.r1⟩
          | 1, _ => exact ⟨HRs.out.2.1, Hok.out.r2⟩
          | 2, _ => exact ⟨HRs.out.2.2, Hok.out.r3⟩
        have hstep := headP_step x.c k hlt
        rw [hr] at hstep
        have hlen := Hl.out
        obtain ⟨o, ho⟩ : ∃ z, headP x.c k = z := ⟨_, rfl⟩
        rw [ho] at hO hstep hlen
        have hRl : RL.length = 34 := by rw [hrr.1]; exact rC_length hrr.2
        have HRi := Lib.hid (show (Try.prog.info? 26).map (·.size) = some RL.toArray.size by rw [List.size_toArray, hRl]; exact refSize)
        have HR1 := Lib.hid (show RL.toArray.all (·.oneCell') = true by rw [hrr.1]; exact all_oneC (rC_one r))
        have HRz := Lib.hid (show ZL.toArray.size = RL.toArray.size by rw [List.size_toArray, List.size_toArray, HZl.out, hRl])
        obtain ⟨wa, hwa⟩ : ∃ W, W = (wr.alloc (.cells ZL.toArray 26)).setRow wr.heap.size RL.toArray := ⟨_, rfl⟩
        obtain ⟨hXa, hbra⟩ := alloc_row wr 26 ZL.toArray RL
        rw [← hwa] at hXa hbra
        have hba : Below B w3 wa := hbr.trans (hbra.mono hrB)
        have hOa := hO.below hbra fun g hg => (hO.lt g hg).2
        have haB : B ≤ wa.heap.size := by have := hba.size; omega
        obtain ⟨Ao, co, rfl, hoc, hom, hobs⟩ := hOa.slice
        obtain ⟨lo, hlo⟩ : ∃ z, o.length = z := ⟨_, rfl⟩
        rw [hlo] at hoc hlen ⊢
        have hom' : co ≤ 9223372036854775807 := by unfold maxLen at hom; omega
        have Hwa := Lib.hid hwa
        have Hrr := Lib.hid hrr
        have Hstep := Lib.hid hstep
        have Hlo := Lib.hid hlo
        have Hobs := Lib.hid hobs
        have hd32 : Hid (r.d.length = 32) := Lib.hid hrr.2.d
        clear hwa hbra hrr hstep hlo hobs hO hOa hRl hr hRL ho Hl
        go_upto_region 7 with (first
          | (refine wpList_allocZC rfl 26 rfl ZL.toArray (HZ.out _) ?_)
          | (refine wpList_store_row rfl _ _ _ rfl wr.heap.size RL.toArray rfl rfl 26 ZL.toArray (heap_alloc_new wr _) HRi.out HRz.out HR1.out ?_; rw [← Hwa.out]))
        clear hidx
        go_wp2_with (refine wpList_load_row rfl _ _ rfl wr.heap.size rfl 26 RL.toArray (0, 0) _ hXa Try.underlying26 rfl HRi.out ?_)
        refine Calls.mono (bput_any o r.d hd32.out r.a r.n RL Hrr.out.1 Ao lo co wa Hlo.out (by omega) hoc hom Hobs.out) ?_
        rintro e w4 ⟨v4, rfl, hO4, hb4⟩
        rw [refB_out] at hO4
        have hO4' : Owns w4 B 5 v4 (headP x.c (k + 1)) := by rw [Hstep.out]; exact hO4.base haB
        have hb4w : Below B w3 w4 := hba.trans (hb4.mono haB)
        have Hl4 : Hid ((headP x.c (k + 1)).length ≤ 10 + 100 * (k + 1)) := Lib.hid (by
          rw [Hstep.out, List.length_append, Hlo.out]
          have := encR_lim r
          have := hd32.out
          omega)
        clear hO4 hb4 hXa
        go_wp2_with fail
        go_roundw
        case rel => exact ⟨k + 1, by omega, by go_num, hO4', Hl4, hb4w⟩
        case measure => simp [Go.RowKit.intOf]; omega
      · obtain rfl : k = 3 := by omega
        have hd1 : decide ((3 : Int) < (3 : Int)) = false := by simp
        have hRr := HR3.out.below hbr hwB
        obtain ⟨_, _, _, _, p4, _, _⟩ := Hcom.out wr hRr
        obtain ⟨nb, hnb⟩ : ∃ z, x.c.bins.length = z := ⟨_, rfl⟩
        obtain ⟨ne, hne⟩ : ∃ z, x.c.evs.length = z := ⟨_, rfl⟩
        obtain ⟨Ab, hAb⟩ : ∃ z, x.Ab = z := ⟨_, rfl⟩
        obtain ⟨cb, hcb⟩ : ∃ z, x.cb = z := ⟨_, rfl⟩
        obtain ⟨Ae, hAe⟩ : ∃ z, x.Ae = z := ⟨_, rfl⟩
        obtain ⟨ce, hce⟩ : ∃ z, x.ce = z := ⟨_, rfl⟩
        rw [hAb, hnb, hcb] at p4
        have Hbin := Lib.hid (show x.c.bins.length = nb ∧ nb ≤ cb ∧ cb ≤ maxLen ∧ nb ≤ 1000000 ∧ (∀ w', Below w.heap.size w w' → RowOf bC 35 w' B Ab x.c.bins) from ⟨hnb, by rw [← hnb, ← hcb]; exact Hok.out.lb, by rw [← hcb]; exact Hok.out.mb, by rw [← hnb]; exact Nat.le_trans Hlb.out (by omega), fun w' hb => by rw [← hAb]; exact (Hok.out.bins.below hb (Nat.le_refl _)).more (by omega)⟩)
        have Hevs := Lib.hid (show x.c.evs.length = ne ∧ ne ≤ ce ∧ ce ≤ maxLen ∧ ne ≤ 1000000 ∧ (∀ w', Below w.heap.size w w' → RowsAt w' B Ae x.c.evs) from ⟨hne, by rw [← hne, ← hce]; exact Hok.out.le, by rw [← hce]; exact Hok.out.me, by rw [← hne]; exact Nat.le_trans Hle.out (by omega), fun w' hb => by rw [← hAe]; exact (Hok.out.evs.below hb (Nat.le_refl _)).more (by omega)⟩)
        have hbrw : Below w.heap.size w wr := Hb3w.out.trans (hbr.mono (by omega))
        have hO' : Owns wr B 5 u4 (encH x.c) := hO
        have HOr := Lib.hid hO'
        have Hbrw := Lib.hid hbrw
        have HRr := Lib.hid hRr
        have hhl : (encH x.c).length ≤ 310 := Hl.out
        have Hhl := Lib.hid hhl
        have HnE := Lib.hid (show x.Ae = Ae ∧ x.ce = ce from ⟨hAe, hce⟩)
        clear hO hO' hbrw hRr Hl hnb hne hAb hcb hAe hce hhl hbr
        go_wp2_with fail
        refine Calls.mono (nrow_any B _ (encH x.c) Ab nb cb x.c.bins Hbin.out.1 Hbin.out.2.1 Hbin.out.2.2.1 Hbin.out.2.2.2.1 wr HOr.out hrB (by have := Hhl.out; omega) (Hbin.out.2.2.2.2 wr Hbrw.out) Hok.out.bw) ?_
        rintro e w5 ⟨v5, rfl, hO5, hb5⟩
        have hb5w : Below w.heap.size w w5 := Hbrw.out.trans (hb5.mono (by omega))
        have hR5 := HRr.out.below hb5 hwB
        have h5B : B ≤ w5.heap.size := by have := hb5.size; omega
        obtain ⟨_, _, _, _, _, p5, p6⟩ := Hcom.out w5 hR5
        have HR5 := Lib.hid hR5
        have hst5 : Bs w5 w5.heap.size (some ⟨w.heap.size, 104, none⟩) x.c.st := fun _ => ⟨w.heap.size, 104, rfl, by omega, fun j hj => p5 j _ (byteCells_get hj)⟩
        have hul := Lib.uvarint_length64 (x := nb) (by have := Hbin.out.2.2.2.1; omega)
        have hl5 : (rowsP encN x.c.bins (encH x.c ++ Lib.uvarint nb)).length ≤ 66000 := by
          have := rowsP_lim encN 72 x.c.bins (encH x.c ++ Lib.uvarint nb) (fun b hb => by have := encN_lim b; have := (Hok.out.bw b hb).d; omega)
          rw [List.length_append] at this
          have := Hhl.out
          omega
        obtain ⟨o5, ho5⟩ : ∃ z, rowsP encN x.c.bins (encH x.c ++ Lib.uvarint nb) = z := ⟨_, rfl⟩
        rw [ho5] at hO5 hl5
        have Ho5 := Lib.hid ho5
        have HO5 := Lib.hid hO5
        have Hst5 := Lib.hid hst5
        have Hl5 := Lib.hid hl5
        clear p4 p5 p6 hO5 hb5 hR5 hst5 ho5 hl5 hul
        go_upto_region 11 with (refine wpList_append_bs rfl _ _ 33 rfl B 5 i0 (.int .u8 0) Try.underlying33 Hi.out.1 Hi.out.2.1 Hi.out.2.2.1 Hi.out.2.2.2 rfl _ o5 rfl HO5.out w5.heap.size (some ⟨w.heap.size, 104, none⟩) 32 32 x.c.st rfl Hok.out.st Hst5.out (by have := Hl5.out; omega) h5B ?_; intro v6 w6 hO6 hg6)
        have hb6 : Below B w5 w6 := hg6.below h5B fun g hg => (HO5.out.lt g hg).1
        have hb6w : Below w.heap.size w w6 := hb5w.trans (hb6.mono (by omega))
        have hR6 := HR5.out.below hb6 hwB
        have h6B : B ≤ w6.heap.size := by have := hb6.size; omega
        obtain ⟨_, _, _, _, _, _, p6⟩ := Hcom.out w6 hR6
        rw [HnE.out.1, Hevs.out.1, HnE.out.2] at p6
        have HO6 := Lib.hid hO6
        clear hg6 hb6 hR6 hO6 hb5w
        go_wp2_with fail
        refine Calls.mono (erow_any B v6 (o5 ++ x.c.st) Ae ne ce x.c.evs Hevs.out.1 Hevs.out.2.1 Hevs.out.2.2.1 Hevs.out.2.2.2.1 w6 HO6.out h6B (by rw [List.length_append, Hok.out.st]; have := Hl5.out; omega) (Hevs.out.2.2.2.2 w6 hb6w) Hel.out) ?_
        rintro e w7 ⟨v7, rfl, hO7, hb7⟩
        have hb7w : Below w.heap.size w w7 := hb6w.trans (hb7.mono (by omega))
        have hout : rowsP encT x.c.evs (o5 ++ x.c.st ++ Lib.uvarint ne) = outC x.c := by unfold outC; rw [← Ho5.out, Hbin.out.1, Hevs.out.1]
        rw [hout] at hO7
        obtain ⟨A7, c7, rfl, h7c, h7m, _⟩ := hO7.slice
        obtain ⟨l7, hl7⟩ : ∃ z, (outC x.c).length = z := ⟨_, rfl⟩
        rw [hl7] at h7c hO7 ⊢
        have h7m' : c7 ≤ 9223372036854775807 := by unfold maxLen at h7m; omega
        have HO7 := Lib.hid hO7
        have Hl7 := Lib.hid hl7
        clear p6 hb6w hb7 hout hO7 hl7
        by_cases hbig : 65536 < l7
        · have hq1 : decide ((65536 : Int) < (l7 : Int)) = true := by simp; omega
          have Hbig := Lib.hid (show 65536 < (encC x.c).length by
            rcases outC_is x.c with e | ⟨_, e⟩
            · rw [← e, Hl7.out]; exact hbig
            · exact e)
          clear hbig
          go_wp2_with fail
          go_ret2
          exact ⟨_, _, rfl, hb7w, .inr (.inl ⟨Hmay.out, Hbig.out, rfl, rfl⟩)⟩
        · have hq1 : decide ((65536 : Int) < (l7 : Int)) = false := by simp; omega
          have Heq := Lib.hid (show outC x.c = encC x.c by
            rcases outC_is x.c with e | ⟨e, _⟩
            · exact e
            · rw [Hl7.out] at e; exact absurd e hbig)
          have Hsm := Lib.hid (show (encC x.c).length ≤ 65536 by rw [← Heq.out, Hl7.out]; omega)
          clear hbig
          go_wp2_with fail
          go_ret2
          exact ⟨_, _, rfl, hb7w, .inr (.inr ⟨Hmay.out, Hsm.out, rfl, by rw [← Heq.out]; exact HO7.out.base (by omega)⟩)⟩

end Go.Proofs.Ytejnonpmjaeagaa

/-
  The volumes of bytes: the document's Decode.
-/
import Derived.Test.YtcajhndhjlfmaaaVrRFl
import Derived.Test.YtcajhndhjlfmaaaGen
import Derived.Deep.MidRow
import Derived.Laws.Cover1
namespace Go.Proofs.Ytcajhndhjlfmaaa
open Go.RowKit
set_option linter.unusedVariables false
set_option linter.unusedSimpArgs false

set_option maxRecDepth 100000
theorem wpList_at {P : Program} {ops : Array Oper} {rest : List Oper} {o : Oper} {a : Act} {w : World} {Q : Exit → Act → World → Prop} (n : Nat) (hd : o.dst = some n) (h : wpList P ops Q (o :: rest) a w) : wpList P ops Q (o :: rest) a w := h
theorem Arr.setIn {g : Nat} {T : TypeId} : ∀ (vs : List Value) (off : Nat) (cs : List Value) (w : World), Arr w g T cs → off + vs.length ≤ cs.length → Arr (w.setCells g off vs) g T (cs.take off ++ (vs ++ cs.drop (off + vs.length)))
  | [], off, cs, w, h, hl => by
    show Arr w g T _
    simpa using h
  | v :: r, off, cs, w, h, hl => by
    have h1 := Arr.setIn r (off + 1) (cs.set off v) (w.setCell ⟨g, off, none⟩ v) (h.set off v) (by simp at hl ⊢; omega)
    have hlt : off < cs.length := by simp at hl; omega
    have e : (cs.set off v).take (off + 1) ++ (r ++ (cs.set off v).drop (off + 1 + r.length)) = cs.take off ++ (v :: r ++ cs.drop (off + (v :: r).length)) := by
      rw [List.take_succ_eq_append_getElem (by simpa using hlt), List.take_set_of_le (Nat.le_refl _), List.drop_set_of_lt (by omega)]
      simp
      congr 1
      omega
    rw [e] at h1
    exact h1

theorem Only.setIn {R : Nat → Prop} {a : World} {g : Nat} (hg : R g) : ∀ (vs : List Value) (off : Nat) (b : World), Only R a b → Only R a (b.setCells g off vs)
  | [], _, _, h => h
  | v :: r, off, b, h => Only.setIn hg r (off + 1) _ (h.setCell (p := ⟨g, off, none⟩) (.inl hg) v)

theorem setCells_size (g : Nat) : ∀ (vs : List Value) (off : Nat) (w : World), (w.setCells g off vs).heap.size = w.heap.size
  | [], _, _ => rfl
  | v :: r, off, w => by rw [World.setCells, setCells_size g r]; simp [World.setCell]

theorem there_of_arr {w : World} {g : Nat} {T : TypeId} {cs : List Value} (h : Arr w g T cs) {off n : Nat} (hn : off + n ≤ cs.length) : w.there g off n := fun j hj => ⟨by rw [h.cell, List.getElem?_eq_getElem (by omega)]; rfl, h.frozen _⟩
theorem bytesLess_before : ∀ (x y : List UInt8), Op.bytesLess x y = bytesBefore x y
  | [], [] => rfl
  | _ :: _, [] => rfl
  | [], _ :: _ => rfl
  | a :: x, b :: y => by simp only [Op.bytesLess, bytesBefore, bytesLess_before x y]

theorem ba_less (a b : ByteArray) : Op.bytesLess a.toList b.toList = bytesBefore a.data.toList b.data.toList := by
  rw [bytesLess_before, ba_toList, ba_toList]
theorem wpList_convert {P : Program} {ops : Array Oper} {rest : List Oper} {o : Oper} {a : Act} {w : World} {Q : Exit → Act → World → Prop} (hg : o.guard = none) (src dst : TypeId) (x : Operand) (ho : o.op = .convert src dst x) (X v : Value) (hx : a.eval x = X) (hr : (convert src dst X).run P w = .ok v w)
    (h : wpList P ops Q rest (a.put o.dst v) w) : wpList P ops Q (o :: rest) a w := by
  refine wpList_plain hg fun K hK => ?_
  unfold Oper.wp execOp
  simp only [ho, hx, Sem.run_bind, hr, Result.andThen_ok]
  exact hK _ _ h
theorem nm_len (s : St) : (nmV s).1.length ≤ 20 := by
  unfold nmV bytS bytesF
  rw [if_neg (by omega)]
  simp only [Int.reduceToNat]
  unfold cutF
  have h1 := numF_le' 20 s.1
  split
  · simp
  · rw [List.length_take]; omega

theorem vlZeroR (w : World) : (zeroValue 83).run Try.prog w = .ok (.agg #[.string ⟨#[]⟩, .int .i64 0, .bool false, .slice none 0 0]) w := by kernel_rfl
theorem clZeroR (w : World) : (zeroValue 85).run Try.prog w = .ok (.agg clZ.toArray) w := by kernel_rfl
theorem wpList_allocZV {P : Program} {ops : Array Oper} {rest : List Oper} {o : Oper} {a : Act} {w : World} {Q : Exit → Act → World → Prop} (hg : o.guard = none) (t : TypeId) (ho : o.op = .alloc t) (Z : Array Value) (hz : (zeroValue t).run P w = .ok (.agg Z) w)
    (h : wpList P ops Q rest (a.put o.dst (.pointer (some ⟨w.heap.size, 0, none⟩))) (w.alloc (.cells Z t))) : wpList P ops Q (o :: rest) a w := by
  refine wpList_plain hg fun K hK => ?_
  unfold Oper.wp execOp
  simp only [ho, Instr.alloc, Sem.run_bind, hz, Result.andThen_ok]
  exact hK _ _ h
theorem vl_builtN (nm : ByteArray) : Try.prog.built 83 [(0, .string nm)] = some #[.string nm, .int .i64 0, .bool false, .slice none 0 0] := by kernel_rfl
theorem cl_built0 (n : Int) : Try.prog.built 85 [(0, .int .i64 n)] = some (Value.int .i64 n :: Lib.byteCells zeros).toArray := by kernel_rfl
theorem cells_bad {m : Nat} {acc : List Cl} {s : St} {N : Nat} {vs : List Vol} {nm : List UInt8} {q : Nat} {f : Bool} (h : s.2 = true) : contV N vs nm q f (cellsS m (acc, s)) = none := by
  cases m with
  | zero => exact contV_wrong h
  | succ m =>
    rw [cellsS_step, if_pos (.inl (by unfold cellS; exact digS_bad (numS_bad h)))]
    rfl
def RDecPost (b : List UInt8) (w : World) (e : Ending) (w' : World) : Prop :=
  Below w.heap.size w w' ∧ ((decV 1073741824 b = none ∧ e = .returned (.tuple #[.slice none 0 0, .int .i64 3])) ∨
    ∃ A' n' c' xs, decV 1073741824 b = some (xs.map (·.v)) ∧ e = .returned (.tuple #[.slice A' n' c', .int .i64 0]) ∧ xs.length = n' ∧ n' ≤ c' ∧ c' ≤ maxLen ∧ VsAt w' (fun b => w.heap.size ≤ b) A' xs)

set_option maxHeartbeats 16000000 in
theorem rdec12_any (A : Option Addr) (n c : Nat) (b : List UInt8) (hn : b.length = n) (hc : n ≤ c) (hm : c ≤ maxLen) (hlim : n ≤ 65536) (w : World) (hb : Bs w w.heap.size A b) :
    Calls Try.prog 7 #[.slice A n c] w (RDecPost b w) := by
  obtain ⟨VZ, hVZ⟩ : ∃ CZ, CZ = [Value.string ⟨#[]⟩, .int .i64 0, .bool false, .slice none 0 0] := ⟨_, rfl⟩
  have HVZ := Lib.hid (fun w : World => show (zeroValue 83).run Try.prog w = .ok (.agg VZ.toArray) w by rw [hVZ]; exact vlZeroR w)
  have HVZl := Lib.hid (show VZ.length = 4 by rw [hVZ]; rfl)
  obtain ⟨KZ, hKZ⟩ : ∃ CZ, CZ = clZ := ⟨_, rfl⟩
  have HKZ := Lib.hid (fun w : World => show (zeroValue 85).run Try.prog w = .ok (.agg KZ.toArray) w by rw [hKZ]; exact clZeroR w)
  have HKl := Lib.hid (show KZ.length = 33 by rw [hKZ]; rfl)
  obtain ⟨q, hq⟩ : ∃ z, z = w.heap.size := ⟨_, rfl⟩
  obtain ⟨W1, hW1⟩ : ∃ z, z = w.alloc (.cells #[.slice A n c, .int .i64 0, .bool false] 80) := ⟨_, rfl⟩
  have hb1 : Below w.heap.size w W1 := by rw [hW1]; exact (Below.refl _ _).alloc (Nat.le_refl _) _
  have hri : RIn W1 q b A c 0 false := by
    unfold RIn
    rw [hW1, hq, hn]
    exact heap_alloc_new w _
  have hst : RSt W1 q b A c ((b, false) : St) := ⟨⟨by rw [hn]; exact hc, by omega, hm, (hb.below hb1 (Nat.le_refl _)).more (by omega)⟩, 0, hri, (fun _ => rfl), (fun h => by cases h), Nat.zero_le _⟩
  obtain ⟨R, hR⟩ : ∃ z, decV 1073741824 b = z := ⟨_, rfl⟩
  have HR := Lib.hid hR
  obtain ⟨N, hN⟩ : ∃ z, (numS 1073741824 (b, false)).1 = z := ⟨_, rfl⟩
  obtain ⟨s1, hs1⟩ : ∃ z, (numS 1073741824 (b, false)).2 = z := ⟨_, rfl⟩
  have HRv := Lib.hid (show finV (volsS N ([], s1)) = R by rw [← hR, ← hN, ← hs1]; rfl)
  have hNn : N ≤ 1073741824 := by rw [← hN]; exact numS_le _ _
  have Hs1l := Lib.hid (show s1.1.length ≤ n by rw [← hs1, ← hn]; exact numS_len 1073741824 (b, false))
  have HN := Lib.hid hN
  have Hs1 := Lib.hid hs1
  have Hst := Lib.hid hst
  have HW1 := Lib.hid hW1
  have Hq := Lib.hid hq
  clear hN hs1 hR hW1 hri hst hb hVZ hKZ hn hq
  go_enter Try.func7, Try.ntmps7
  go_upto_region 2 with fail
  change Code.wp _ _ _ _ (w.alloc (.cells #[.slice A n c, .int .i64 0, .bool false] 80))
  rw [← HW1.out, ← Hq.out]
  clear HW1
  go_wp2_with fail
  refine Calls.mono (rnumber_fl q 1073741824 (b, false) W1 Hst.out (by omega)) ?_
  rintro e w2 ⟨rfl, hS2, ht2⟩
  rw [Hs1.out] at hS2
  rw [HN.out]
  have hbw2 : Below w.heap.size w w2 := hb1.trans (ht2.below hb1.size (by have := Hq.out; omega))
  have hq2 := hS2.lt
  clear ht2 hb1 HN Hs1 Hst
  go_upto_region 4 with fail
  obtain ⟨w3, hw3⟩ : ∃ z, z = w2.alloc (.cells #[] 83) := ⟨_, rfl⟩
  change Code.wp _ _ _ _ (w2.alloc (.cells #[] 83))
  rw [← hw3]
  have hb23 : Below w2.heap.size w2 w3 := by rw [hw3]; exact (Below.refl _ _).alloc (Nat.le_refl _) _
  have hV3 : VRow w3 (q + 1) (fun b => q + 1 ≤ b) (.slice (some ⟨w2.heap.size, 0, none⟩) 0 0) [] := by rw [hw3]; exact VRow.empty w2 (q + 1) _ (by omega)
  have hS3 : RSt w3 q b A c s1 := hS2.low ⟨hb23.size, fun i hi => hb23.block i (by omega)⟩
  have hbw3 : Below w.heap.size w w3 := hbw2.trans (hb23.mono hbw2.size)
  clear hw3 hb23 hS2 hbw2
  go_wp2_with fail
  go_loopw [6, 7] (fun ov iv wr => ∃ (k : Nat) (xs : List Vx) (s4 : St), k ≤ N ∧ iv = .int .u64 (k : Nat) ∧ VRow wr (q + 1) (fun b => q + 1 ≤ b) ov xs ∧ RSt wr q b A c s4 ∧ Hid ((s4.2 = false → finV (volsS (N - k) (xs.map (·.v), s4)) = R) ∧ (s4.2 = true → R = none)) ∧ Hid (xs.length = k ∧ (s4.2 = false → k + s4.1.length ≤ n)) ∧ Below w.heap.size w wr) (fun _ iv _ => N - (Go.RowKit.intOf iv).toNat)
  case atStart =>
    refine ⟨0, [], s1, Nat.zero_le _, rfl, hV3, hS3, Lib.hid ⟨fun _ => HRv.out, fun h => ?_⟩, Lib.hid ⟨rfl, fun _ => by have := Hs1l.out; omega⟩, hbw3⟩
    rw [← HRv.out]
    cases hf : finV (volsS N ([], s1)) with
    | none => rfl
    | some L =>
      obtain ⟨t, e1, e2, _⟩ := finV_some hf
      have := (volsS_sound _ _ _ _ _ e1 e2).1
      rw [h] at this; cases this
  case round =>
    clear hV3 hS3 hbw3
    obtain ⟨k, xs, s4, hk, rfl, hV, hS, Hcont, Hlen, hbw⟩ := hrel
    have hwc := hS.wrong
    obtain ⟨wf, hwf⟩ : ∃ z, s4.2 = z := ⟨_, rfl⟩
    rw [hwf] at hwc
    by_cases hlt : k < N
    · have hd1 : decide ((k : Int) < (N : Int)) = true := by simp; omega
      have hd2 : decide (k < N) = true := by simp; omega
      cases wf with
      | true =>
        have Hno := Lib.hid (Hcont.out.2 hwf)
        have hdf : doneF s4.1 s4.2 = 3 := if_pos (.inl hwf)
        clear hwf
        go_wp2_with fail
        refine Calls.mono (rdone_fl q s4 wr hS) ?_
        rintro e w5 ⟨rfl, j5, rfl⟩
        rw [hdf]
        clear hdf
        go_wp2_with fail
        go_ret2
        exact ⟨Below.dN hbw j5, .inl ⟨by rw [HR.out]; exact Hno.out, rfl⟩⟩
      | false =>
        go_upto_region 7 with fail
        clear hwc
        have hcont := Hcont.out.1 hwf
        rw [show N - k = (N - (k + 1)) + 1 by omega, volsS_cont] at hcont
        have hnl := nm_len s4
        have hl5 := nmV_len (s := s4)
        have Hby := Lib.hid (rbytes_fl q s4 wr hS)
        have Hlk := Lib.hid (Hlen.out.2 hwf)
        obtain ⟨nm, hnm⟩ : ∃ z, (nmV s4).1 = z := ⟨_, rfl⟩
        obtain ⟨s5, hs5⟩ : ∃ z, (nmV s4).2 = z := ⟨_, rfl⟩
        obtain ⟨td, htd⟩ : ∃ z, (numS 2097153 s5).1 = z := ⟨_, rfl⟩
        obtain ⟨s6, hs6⟩ : ∃ z, (numS 2097153 s5).2 = z := ⟨_, rfl⟩
        obtain ⟨qv, hqv⟩ : ∃ z, td / 2 = z := ⟨_, rfl⟩
        obtain ⟨f, hf⟩ : ∃ z, decide (td % 2 = 1) = z := ⟨_, rfl⟩
        obtain ⟨m, hm2⟩ : ∃ z, (numS qv s6).1 = z := ⟨_, rfl⟩
        obtain ⟨s7, hs7⟩ : ∃ z, (numS qv s6).2 = z := ⟨_, rfl⟩
        rw [hnm, hs5] at hcont Hby
        rw [htd, hs6, hqv, hf, hm2, hs7] at hcont
        rw [hnm] at hnl
        rw [hs5] at hl5
        have htd2 : td ≤ 2097153 := by rw [← htd]; exact numS_le _ _
        have hqv20 : qv ≤ 1048576 := by omega
        have hmq : m ≤ qv := by rw [← hm2]; exact numS_le _ _
        have Hl7 := Lib.hid (show s7.2 = false → k + 1 + s7.1.length ≤ n from fun h => by
          have h6 : s6.2 = false := by cases hh : s6.2 with | false => rfl | true => have := numS_bad (most := qv) hh; rw [hs7, h] at this; cases this
          have h5 : s5.2 = false := by cases hh : s5.2 with | false => rfl | true => have := numS_bad (most := 2097153) hh; rw [hs6, h6] at this; cases this
          have e1 := hl5 h5
          have e2 := numS_len 2097153 s5
          have e3 := numS_len qv s6
          rw [hs6] at e2
          rw [hs7] at e3
          have e4 := Hlk.out
          omega)
        have Hct := Lib.hid hcont
        have Hn1 := Lib.hid (fun (w' : World) (h : RSt w' q b A c s5) => show Calls Try.prog 35 #[.pointer (some ⟨q, 0, none⟩), .int .u64 2097153] w' fun e w2 => e = .returned (.int .u64 (td : Nat)) ∧ RSt w2 q b A c s6 ∧ Turn q w' w2 by have := rnumber_fl q 2097153 s5 w' h (by omega); rw [htd, hs6] at this; exact this)
        have Hn2 := Lib.hid (fun (w' : World) (h : RSt w' q b A c s6) => show Calls Try.prog 35 #[.pointer (some ⟨q, 0, none⟩), .int .u64 (qv : Nat)] w' fun e w2 => e = .returned (.int .u64 (m : Nat)) ∧ RSt w2 q b A c s7 ∧ Turn q w' w2 by have := rnumber_fl q qv s6 w' h (by omega); rw [hm2, hs7] at this; exact this)
        have hqi : (td : Int) / 2 = (qv : Int) := by omega
        have Hqe := Lib.hid (show ((td : Int) % 2 == 1) = f by rw [← hf, Bool.eq_iff_iff]; simp; omega)
        obtain ⟨ln, hln⟩ : ∃ z, nm.length = z := ⟨_, rfl⟩
        rw [hln] at Hby hnl
        have Hln := Lib.hid hln
        have HVr := Lib.hid hV
        have Hbw := Lib.hid hbw
        have hqr := hS.lt
        clear hcont hnm hs5 htd hs6 hqv hf hm2 hs7 hl5 hln hV hbw hS
        go_wp2_with fail
        refine Calls.mono Hby.out ?_
        rintro e w4 ⟨An, cn, rfl, hn1, hn2, hBs, _, hS4, ht4⟩
        have hcv := str_of_bs (P := Try.prog) cn hBs Hln.out 22 9 5 Try.underlying22 Try.underlying5 Try.underlying9
        obtain ⟨nmB, hnmB⟩ : ∃ z : ByteArray, z = ⟨nm.toArray⟩ := ⟨_, rfl⟩
        rw [← hnmB] at hcv
        obtain ⟨V0, hV0⟩ : ∃ z, z = [Value.string nmB, .int .i64 0, .bool false, .slice none 0 0] := ⟨_, rfl⟩
        obtain ⟨w5, hw5⟩ : ∃ W, W = w4.alloc (.cells #[.string nmB, .int .i64 0, .bool false, .slice none 0 0] 83) := ⟨_, rfl⟩
        have hb45 : Below w4.heap.size w4 w5 := by rw [hw5]; exact (Below.refl _ _).alloc (Nat.le_refl _) _
        have hX5 : Arr w5 w4.heap.size 83 V0 := by rw [hw5, hV0]; exact Arr.new w4 83 _
        have HnmB := Lib.hid hnmB
        have HV0 := Lib.hid hV0
        have Hw5 := Lib.hid hw5
        clear hnmB hV0 hw5
        go_upto_region 8 with (first | ((with_reducible refine wpList_at 33 (by rfl) ?_); refine wpList_convert rfl _ _ _ rfl _ _ rfl hcv ?_))
        change Code.wp _ _ _ _ (w4.alloc (.cells #[.string nmB, .int .i64 0, .bool false, .slice none 0 0] 83))
        rw [← Hw5.out]
        obtain ⟨gv, hgv⟩ : ∃ z, z = w4.heap.size := ⟨_, rfl⟩
        rw [← hgv] at hX5 ⊢
        have hgq : q + 1 ≤ gv ∧ wr.heap.size ≤ gv := by have := ht4.size; omega
        have hS5 : RSt w5 q b A c s5 := hS4.low ⟨hb45.size, fun i hi => hb45.block i (by omega)⟩
        have hu5 : Up (q + 1) wr w5 := (Turn.upQ ht4 (by omega)).trans (Below.upQ hb45)
        have hbw4 : Below w.heap.size w w4 := Hbw.out.trans (ht4.below Hbw.out.size (by have := Hq.out; omega))
        have hbw5 : Below w.heap.size w w5 := hbw4.trans (hb45.mono hbw4.size)
        clear hcv hBs hS4 ht4 hb45 Hby Hw5 hgv hn1 hn2 hbw4
        go_wp2_with fail
        refine Calls.mono (Hn1.out w5 hS5) ?_
        rintro e w6 ⟨rfl, hS6, ht6⟩
        have hX6 := hX5.keepUp (Turn.upQ ht6 (show q < q + 1 by omega)) hgq.1
        have hu6 : Up (q + 1) wr w6 := hu5.trans (Turn.upQ ht6 (by omega))
        have hbw6 : Below w.heap.size w w6 := hbw5.trans (ht6.below hbw5.size (by have := Hq.out; omega))
        have hc1 := hX6.cell 1
        have hf1 := hX6.frozen 1
        rw [HV0.out] at hc1
        simp only [List.getElem?_cons_succ, List.getElem?_cons_zero] at hc1
        clear hX5 hu5 hbw5 ht6 hS5
        go_upto_region 10 with fail
        obtain ⟨w7, hw7⟩ : ∃ z, z = w6.setCell ⟨gv, 1, none⟩ (.int .i64 (qv : Nat)) := ⟨_, rfl⟩
        rw [← hw7]
        have hX7 : Arr w7 gv 83 (V0.set 1 (.int .i64 (qv : Nat))) := by rw [hw7]; exact hX6.set 1 _
        have hu7 : Up (q + 1) wr w7 := by rw [hw7]; exact hu6.set (.inr hgq.2) _
        have hbw7 : Below w.heap.size w w7 := by rw [hw7]; exact hbw6.setCell (by have := Hbw.out.size; show w.heap.size ≤ gv; omega) _
        have hS7 : RSt w7 q b A c s6 := hS6.low ⟨by rw [hw7]; simp [World.setCell], fun i hi => by rw [hw7]; exact Below.heap_setCell w6 _ _ i (by show i ≠ gv; omega)⟩
        have hc2 := hX7.cell 2
        have hf2 := hX7.frozen 2
        rw [HV0.out] at hc2
        simp only [List.set_cons_succ, List.set_cons_zero, List.getElem?_cons_succ, List.getElem?_cons_zero] at hc2
        clear hw7 hX6 hu6 hbw6 hS6 hc1 hf1
        go_upto_region 11 with fail
        rw [show ((td : Int) % 2 == 1) = f from Hqe.out]
        obtain ⟨w8, hw8⟩ : ∃ z, z = w7.setCell ⟨gv, 2, none⟩ (.bool f) := ⟨_, rfl⟩
        rw [← hw8]
        have hX8 : Arr w8 gv 83 ((V0.set 1 (.int .i64 (qv : Nat))).set 2 (.bool f)) := by rw [hw8]; exact hX7.set 2 _
        have hu8 : Up (q + 1) wr w8 := by rw [hw8]; exact hu7.set (.inr hgq.2) _
        have hbw8 : Below w.heap.size w w8 := by rw [hw8]; exact hbw7.setCell (by have := Hbw.out.size; show w.heap.size ≤ gv; omega) _
        have hS8 : RSt w8 q b A c s6 := hS7.low ⟨by rw [hw8]; simp [World.setCell], fun i hi => by rw [hw8]; exact Below.heap_setCell w7 _ _ i (by show i ≠ gv; omega)⟩
        have hc3 := hX8.cell 1
        rw [HV0.out] at hc3
        simp only [List.set_cons_succ, List.set_cons_zero, List.getElem?_cons_succ, List.getElem?_cons_zero] at hc3
        clear hw8 hX7 hu7 hbw7 hS7 hc2 hf2
        go_wp2_with fail
        refine Calls.mono (Hn2.out w8 hS8) ?_
        rintro e w9 ⟨rfl, hS9, ht9⟩
        have hX9 : Arr w9 gv 83 [.string nmB, .int .i64 (qv : Nat), .bool f, .slice none 0 0] := by
          have h := hX8.keepUp (Turn.upQ ht9 (show q < q + 1 by omega)) hgq.1
          rw [HV0.out] at h
          exact h
        have hu9 : Up (q + 1) wr w9 := hu8.trans (Turn.upQ ht9 (by omega))
        have hbw9 : Below w.heap.size w w9 := hbw8.trans (ht9.below hbw8.size (by have := Hq.out; omega))
        have Hown := Lib.hid (show ∀ g, u6.ownBlock = some g → g < gv from fun g e => by have := (HVr.out.lt g e).2; omega)
        have hV9 := (HVr.out.narrow hgq.2).keepMid Hown.out hu9.mid
        have hgv9 := hX9.lt
        clear hX8 hu8 hbw8 hS8 hc3 ht9 Hn1 Hn2 Hqe hqi HVr Hbw hu9
        go_wp2_with fail
        go_loopw [11] (fun iv wr => ∃ (j : Nat) (cs : List Cl) (s : St) (cv : Value), j ≤ m ∧ iv = .int .u64 (j : Nat) ∧ Arr wr gv 83 [.string nmB, .int .i64 (qv : Nat), .bool f, cv] ∧ CRow wr (gv + 1) cv cs ∧ VRow wr (q + 1) (fun b => q + 1 ≤ b ∧ b < gv) u6 xs ∧ RSt wr q b A c s ∧ Hid ((s.2 = false → contV (N - (k + 1)) (xs.map (·.v)) nm qv f (cellsS (m - j) (cs, s)) = R) ∧ (s.2 = true → R = none)) ∧ Hid (cs.length = j ∧ (s.2 = false → k + 1 + s.1.length ≤ n)) ∧ Below w.heap.size w wr ∧ gv < wr.heap.size) (fun iv _ => m - (Go.RowKit.intOf iv).toNat)
        case atStart => exact ⟨0, [], s7, _, Nat.zero_le _, rfl, hX9, ⟨by simp, rfl, .inl ⟨rfl, rfl⟩⟩, hV9, hS9, Lib.hid ⟨fun _ => Hct.out, fun h => by rw [← Hct.out]; exact cells_bad h⟩, Lib.hid ⟨rfl, Hl7.out⟩, hbw9, hgv9⟩
        case round =>
          clear hX9 hV9 hS9 hbw9 hgv9
          obtain ⟨j, cs, s, cv, hj, rfl, hX, hC, hV, hS, Hci, Hli, hbw, hgw⟩ := hrel
          have hwc := hS.wrong
          obtain ⟨wf, hwf2⟩ : ∃ z, s.2 = z := ⟨_, rfl⟩
          rw [hwf2] at hwc
          by_cases hjl : j < m
          · have hd3 : decide ((j : Int) < (m : Int)) = true := by simp; omega
            have hd4 : decide (j < m) = true := by simp; omega
            cases wf with
            | true =>
              have HT := Lib.hid (show (s.2 = false → contV (N - (k + 1)) (xs.map (·.v)) nm qv f (some (cs, s)) = R) ∧ (s.2 = true → R = none) from ⟨fun h => (by rw [hwf2] at h; cases h), Hci.out.2⟩)
              clear hwf2
              go_upto_region 20 with fail
              clear hwc
              as_aux_lemma =>
                replace hV := hV.widen
                obtain ⟨Ac, cc, hcv, hcl, hcm, hcat⟩ := hC.slice2
                obtain ⟨lc, hlc⟩ : ∃ z, cs.length = z := ⟨_, rfl⟩
                have hlcm : lc ≤ 1048576 := by rw [← hlc, Hli.out.1]; omega
                rw [hlc] at hcv hcl
                subst hcv
                obtain ⟨x, hx⟩ : ∃ z : Vx, z = ⟨⟨nmB, qv, f, cs⟩, Ac, cc⟩ := ⟨_, rfl⟩
                have hne := rows_apart hC.2 hV.2 (by decide)
                have hszB : nmB.size ≤ 20 := by
                  rw [HnmB.out]
                  have e : (⟨nm.toArray⟩ : ByteArray).size = nm.length := by simp [ByteArray.size]
                  rw [e, Hln.out]; omega
                have Hok := Lib.hid (show VxOk wr (fun b => q + 1 ≤ b ∧ u6.ownBlock ≠ some b) x by
                  rw [hx]
                  exact ⟨by show cs.length ≤ cc; rw [hlc]; exact hcl, hcm, hcat.keep (Nat.le_refl _) (fun _ _ _ => rfl) fun b hlt hb => ⟨by have := hb.1; omega, fun e => hne b hb.2 e⟩, by show nmB.size ≤ maxLen; unfold maxLen; omega, hqv20, by show cs.length ≤ 1048576; omega⟩)
                obtain ⟨XV, hXV⟩ : ∃ z, z = volC x := ⟨_, rfl⟩
                have hXX : Arr wr gv 83 XV := by rw [hXV, hx]; unfold volC; dsimp only; rw [hlc]; exact hX
                have HXVl := Lib.hid (show XV.length = 4 by rw [hXV]; rfl)
                have HXVi := Lib.hid (show (Try.prog.info? 83).map (·.size) = some XV.toArray.size by rw [List.size_toArray, HXVl.out]; exact vlSize)
                have HXVn := Lib.hid (show (Try.prog.info? 83).map (·.size) = some XV.length by rw [HXVl.out]; exact vlSize)
                have HXV := Lib.hid hXV
                have Hx := Lib.hid (show x.v = ⟨⟨nm.toArray⟩, qv, f, cs⟩ by rw [hx, ← HnmB.out])
                have hcg := hX.cell 0
                simp only [List.getElem?_cons_zero] at hcg
                have Hmay := Lib.hid (fun (w' : World) (nb : Bool) (h : namedB nm = nb) => rnamed_any nmB (by unfold maxLen; omega) w' nb (by rw [← h, HnmB.out]))
                obtain ⟨nb, hnb⟩ : ∃ z, namedB nm = z := ⟨_, rfl⟩
                have Hnb := Lib.hid hnb
                obtain ⟨Ao, co, hov, hoc, hom, hVat⟩ := hV.slice
                rw [Hlen.out.1] at hov hoc
                subst hov
                obtain ⟨bf, hbf⟩ : ∃ z, bytesBefore (lastV (xs.map (·.v))) nm = z := ⟨_, rfl⟩
                have Hbf := Lib.hid hbf
                have Hbad := Lib.hid (show nb = false ∨ bf = false → R = none from fun h => by
                  cases hs2 : s.2 with
                  | true => exact HT.out.2 hs2
                  | false =>
                    rw [← HT.out.1 hs2]
                    exact contV_bad (by rw [hnb, hbf]; exact h))
                have Hgood := Lib.hid (show nb = true → bf = true → s.2 = false → finV (volsS (N - (k + 1)) ((xs ++ [x]).map (·.v), s)) = R from fun h1 h2 h3 => by
                  rw [List.map_append, List.map_cons, List.map_nil, Hx.out, ← contV_good h3 (by rw [hnb]; exact h1) (by rw [hbf]; exact h2)]
                  exact HT.out.1 h3)
                have HV := Lib.hid hV
                have HS := Lib.hid hS
                have Hbw := Lib.hid hbw
                have hom63 : co ≤ 9223372036854775807 := by unfold maxLen at hom; omega
                have hkn : k ≤ 65536 := by have := Hlen.out.2 hwf; omega
                clear hx hXV hnb hbf hcat hV hS hC hX hne hbw hcl hcm hlc hwf
                cases nb with
                | false =>
                  have Hno := Lib.hid (Hbad.out (.inl rfl))
                  refine wp_region_held_drew (S := (fun w' => w'.cell? ⟨gv, 0, none⟩ = some (.string nmB) ∧ True)) (by kernel_rfl) ⟨hcg, trivial⟩ (fun hHeld => ?_)
                  refine anyH_take (i := 0) (v := (.pointer (some ⟨gv, 0, none⟩))) (some 89) rfl rfl (by kernel_rfl) (by kernel_rfl) (by kernel_rfl) (fun _ _ _ h => h) (Or.inl ⟨by rfl, fun w' hw => by (go_simp)⟩) (by assumption) ?_
                  simp only [Act.put, List.setIfInBounds_toArray, List.set_cons_zero, List.set_cons_succ]
                  refine anyH_take (i := 1) (v := .string nmB) (some 90) rfl rfl (by kernel_rfl) (by kernel_rfl) (by kernel_rfl) (fun _ _ _ h => h) (Or.inl ⟨by rfl, fun w' hw => by (have hcc := hw.1; go_simp)⟩) (by assumption) ?_
                  simp only [Act.put, List.setIfInBounds_toArray, List.set_cons_zero, List.set_cons_succ]
                  refine wpAnyH_ready (rs := [2]) (by kernel_rfl) (by simp) ?_
                  refine AllReadyH.cons rfl (fun K hK => ?_) AllReadyH.nil
                  go_simp
                  go_at_call 38
                  refine Calls.mono (Hmay.out _ false Hnb.out) ?_
                  rintro e wn ⟨rfl, rfl⟩
                  refine hK.out _ _ ⟨hcg, trivial⟩ (fun hHeldx => ?_)
                  clear hK K
                  try simp only [Act.put, List.setIfInBounds_toArray, List.set_cons_zero, List.set_cons_succ]
                  refine anyH_take (i := 3) (v := .bool true) (some 92) rfl rfl (by kernel_rfl) (by kernel_rfl) (by kernel_rfl) (fun _ _ _ h => h) (Or.inl ⟨by rfl, fun w' hw => by (go_simp)⟩) (by assumption) ?_
                  simp only [Act.put, List.setIfInBounds_toArray, List.set_cons_zero, List.set_cons_succ]
                  refine anyH_take (i := 4) (v := .bool true) (some 93) rfl rfl (by kernel_rfl) (by kernel_rfl) (by kernel_rfl) (fun _ _ _ h => h) (Or.inl ⟨by rfl, fun w' hw => by (go_simp)⟩) (by assumption) ?_
                  simp only [Act.put, List.setIfInBounds_toArray, List.set_cons_zero, List.set_cons_succ]
                  refine anyH_take (i := 5) (v := undef) (some 94) rfl rfl (by kernel_rfl) (by kernel_rfl) (by kernel_rfl) (fun _ _ _ h => h) (Or.inr ⟨by rfl, rfl⟩) (by assumption) ?_
                  simp only [Act.put, List.setIfInBounds_toArray, List.set_cons_zero, List.set_cons_succ]
                  refine anyH_take (i := 6) (v := undef) (some 95) rfl rfl (by kernel_rfl) (by kernel_rfl) (by kernel_rfl) (fun _ _ _ h => h) (Or.inr ⟨by rfl, rfl⟩) (by assumption) ?_
                  simp only [Act.put, List.setIfInBounds_toArray, List.set_cons_zero, List.set_cons_succ]
                  refine anyH_take (i := 7) (v := undef) (some 96) rfl rfl (by kernel_rfl) (by kernel_rfl) (by kernel_rfl) (fun _ _ _ h => h) (Or.inr ⟨by rfl, rfl⟩) (by assumption) ?_
                  simp only [Act.put, List.setIfInBounds_toArray, List.set_cons_zero, List.set_cons_succ]
                  refine anyH_take (i := 8) (v := undef) (some 97) rfl rfl (by kernel_rfl) (by kernel_rfl) (by kernel_rfl) (fun _ _ _ h => h) (Or.inr ⟨by rfl, rfl⟩) (by assumption) ?_
                  simp only [Act.put, List.setIfInBounds_toArray, List.set_cons_zero, List.set_cons_succ]
                  refine anyH_take (i := 9) (v := undef) (some 98) rfl rfl (by kernel_rfl) (by kernel_rfl) (by kernel_rfl) (fun _ _ _ h => h) (Or.inr ⟨by rfl, rfl⟩) (by assumption) ?_
                  simp only [Act.put, List.setIfInBounds_toArray, List.set_cons_zero, List.set_cons_succ]
                  refine anyH_take (i := 10) (v := undef) (some 99) rfl rfl (by kernel_rfl) (by kernel_rfl) (by kernel_rfl) (fun _ _ _ h => h) (Or.inr ⟨by rfl, rfl⟩) (by assumption) ?_
                  simp only [Act.put, List.setIfInBounds_toArray, List.set_cons_zero, List.set_cons_succ]
                  refine anyH_take (i := 11) (v := undef) (some 100) rfl rfl (by kernel_rfl) (by kernel_rfl) (by kernel_rfl) (fun _ _ _ h => h) (Or.inr ⟨by rfl, rfl⟩) (by assumption) ?_
                  simp only [Act.put, List.setIfInBounds_toArray, List.set_cons_zero, List.set_cons_succ]
                  refine anyH_take (i := 12) (v := undef) (some 101) rfl rfl (by kernel_rfl) (by kernel_rfl) (by kernel_rfl) (fun _ _ _ h => h) (Or.inr ⟨by rfl, rfl⟩) (by assumption) ?_
                  simp only [Act.put, List.setIfInBounds_toArray, List.set_cons_zero, List.set_cons_succ]
                  refine anyH_take (i := 13) (v := undef) (some 102) rfl rfl (by kernel_rfl) (by kernel_rfl) (by kernel_rfl) (fun _ _ _ h => h) (Or.inr ⟨by rfl, rfl⟩) (by assumption) ?_
                  simp only [Act.put, List.setIfInBounds_toArray, List.set_cons_zero, List.set_cons_succ]
                  refine anyH_take (i := 14) (v := undef) (some 103) rfl rfl (by kernel_rfl) (by kernel_rfl) (by kernel_rfl) (fun _ _ _ h => h) (Or.inr ⟨by rfl, rfl⟩) (by assumption) ?_
                  simp only [Act.put, List.setIfInBounds_toArray, List.set_cons_zero, List.set_cons_succ]
                  refine anyH_take (i := 15) (v := undef) (some 104) rfl rfl (by kernel_rfl) (by kernel_rfl) (by kernel_rfl) (fun _ _ _ h => h) (Or.inr ⟨by rfl, rfl⟩) (by assumption) ?_
                  simp only [Act.put, List.setIfInBounds_toArray, List.set_cons_zero, List.set_cons_succ]
                  refine anyH_take (i := 16) (v := undef) (some 105) rfl rfl (by kernel_rfl) (by kernel_rfl) (by kernel_rfl) (fun _ _ _ h => h) (Or.inr ⟨by rfl, rfl⟩) (by assumption) ?_
                  simp only [Act.put, List.setIfInBounds_toArray, List.set_cons_zero, List.set_cons_succ]
                  refine anyH_take (i := 17) (v := undef) (some 106) rfl rfl (by kernel_rfl) (by kernel_rfl) (by kernel_rfl) (fun _ _ _ h => h) (Or.inr ⟨by rfl, rfl⟩) (by assumption) ?_
                  simp only [Act.put, List.setIfInBounds_toArray, List.set_cons_zero, List.set_cons_succ]
                  refine anyH_take (i := 18) (v := .bool true) (some 107) rfl rfl (by kernel_rfl) (by kernel_rfl) (by kernel_rfl) (fun _ _ _ h => h) (Or.inl ⟨by rfl, fun w' hw => by (go_simp)⟩) (by assumption) ?_
                  simp only [Act.put, List.setIfInBounds_toArray, List.set_cons_zero, List.set_cons_succ]
                  refine wpAnyH_done (by kernel_rfl) ?_ _
                  go_wp2_with fail
                  go_ret2
                  exact ⟨Below.dN Hbw.out 1, .inl ⟨by rw [HR.out]; exact Hno.out, rfl⟩⟩
                | true =>
                  by_cases hk0 : k = 0
                  · subst hk0
                    have hxs : xs = [] := List.length_eq_zero_iff.1 Hlen.out.1
                    have hbt : bf = true := by
                      rw [← Hbf.out, hxs]
                      have h1 := Hnb.out
                      cases nm with
                      | nil => cases h1
                      | cons y r => rfl
                    subst hbt
                    clear hxs
                    refine wp_region_held_drew (S := (fun w' => w'.cell? ⟨gv, 0, none⟩ = some (.string nmB) ∧ True)) (by kernel_rfl) ⟨hcg, trivial⟩ (fun hHeld => ?_)
                    refine anyH_take (i := 0) (v := (.pointer (some ⟨gv, 0, none⟩))) (some 89) rfl rfl (by kernel_rfl) (by kernel_rfl) (by kernel_rfl) (fun _ _ _ h => h) (Or.inl ⟨by rfl, fun w' hw => by (go_simp)⟩) (by assumption) ?_
                    simp only [Act.put, List.setIfInBounds_toArray, List.set_cons_zero, List.set_cons_succ]
                    refine anyH_take (i := 1) (v := .string nmB) (some 90) rfl rfl (by kernel_rfl) (by kernel_rfl) (by kernel_rfl) (fun _ _ _ h => h) (Or.inl ⟨by rfl, fun w' hw => by (have hcc := hw.1; go_simp)⟩) (by assumption) ?_
                    simp only [Act.put, List.setIfInBounds_toArray, List.set_cons_zero, List.set_cons_succ]
                    refine wpAnyH_ready (rs := [2]) (by kernel_rfl) (by simp) ?_
                    refine AllReadyH.cons rfl (fun K hK => ?_) AllReadyH.nil
                    go_simp
                    go_at_call 38
                    refine Calls.mono (Hmay.out _ true Hnb.out) ?_
                    rintro e wn ⟨rfl, rfl⟩
                    refine hK.out _ _ ⟨hcg, trivial⟩ (fun hHeldx => ?_)
                    clear hK K
                    try simp only [Act.put, List.setIfInBounds_toArray, List.set_cons_zero, List.set_cons_succ]
                    refine anyH_take (i := 3) (v := .bool false) (some 92) rfl rfl (by kernel_rfl) (by kernel_rfl) (by kernel_rfl) (fun _ _ _ h => h) (Or.inl ⟨by rfl, fun w' hw => by (go_simp)⟩) (by assumption) ?_
                    simp only [Act.put, List.setIfInBounds_toArray, List.set_cons_zero, List.set_cons_succ]
                    refine anyH_take (i := 4) (v := .bool false) (some 93) rfl rfl (by kernel_rfl) (by kernel_rfl) (by kernel_rfl) (fun _ _ _ h => h) (Or.inl ⟨by rfl, fun w' hw => by (go_simp)⟩) (by assumption) ?_
                    simp only [Act.put, List.setIfInBounds_toArray, List.set_cons_zero, List.set_cons_succ]
                    refine anyH_take (i := 5) (v := .int .u64 ((0 : Nat) : Int)) (some 94) rfl rfl (by kernel_rfl) (by kernel_rfl) (by kernel_rfl) (fun _ _ _ h => h) (Or.inl ⟨by rfl, fun w' hw => by (go_simp)⟩) (by assumption) ?_
                    simp only [Act.put, List.setIfInBounds_toArray, List.set_cons_zero, List.set_cons_succ]
                    refine anyH_take (i := 6) (v := .bool false) (some 95) rfl rfl (by kernel_rfl) (by kernel_rfl) (by kernel_rfl) (fun _ _ _ h => h) (Or.inl ⟨by rfl, fun w' hw => by (go_simp)⟩) (by assumption) ?_
                    simp only [Act.put, List.setIfInBounds_toArray, List.set_cons_zero, List.set_cons_succ]
                    refine anyH_take (i := 7) (v := .bool false) (some 96) rfl rfl (by kernel_rfl) (by kernel_rfl) (by kernel_rfl) (fun _ _ _ h => h) (Or.inl ⟨by rfl, fun w' hw => by (go_simp)⟩) (by assumption) ?_
                    simp only [Act.put, List.setIfInBounds_toArray, List.set_cons_zero, List.set_cons_succ]
                    refine anyH_take (i := 8) (v := undef) (some 97) rfl rfl (by kernel_rfl) (by kernel_rfl) (by kernel_rfl) (fun _ _ _ h => h) (Or.inr ⟨by rfl, rfl⟩) (by assumption) ?_
                    simp only [Act.put, List.setIfInBounds_toArray, List.set_cons_zero, List.set_cons_succ]
                    refine anyH_take (i := 9) (v := undef) (some 98) rfl rfl (by kernel_rfl) (by kernel_rfl) (by kernel_rfl) (fun _ _ _ h => h) (Or.inr ⟨by rfl, rfl⟩) (by assumption) ?_
                    simp only [Act.put, List.setIfInBounds_toArray, List.set_cons_zero, List.set_cons_succ]
                    refine anyH_take (i := 10) (v := undef) (some 99) rfl rfl (by kernel_rfl) (by kernel_rfl) (by kernel_rfl) (fun _ _ _ h => h) (Or.inr ⟨by rfl, rfl⟩) (by assumption) ?_
                    simp only [Act.put, List.setIfInBounds_toArray, List.set_cons_zero, List.set_cons_succ]
                    refine anyH_take (i := 11) (v := undef) (some 100) rfl rfl (by kernel_rfl) (by kernel_rfl) (by kernel_rfl) (fun _ _ _ h => h) (Or.inr ⟨by rfl, rfl⟩) (by assumption) ?_
                    simp only [Act.put, List.setIfInBounds_toArray, List.set_cons_zero, List.set_cons_succ]
                    refine anyH_take (i := 12) (v := undef) (some 101) rfl rfl (by kernel_rfl) (by kernel_rfl) (by kernel_rfl) (fun _ _ _ h => h) (Or.inr ⟨by rfl, rfl⟩) (by assumption) ?_
                    simp only [Act.put, List.setIfInBounds_toArray, List.set_cons_zero, List.set_cons_succ]
                    refine anyH_take (i := 13) (v := undef) (some 102) rfl rfl (by kernel_rfl) (by kernel_rfl) (by kernel_rfl) (fun _ _ _ h => h) (Or.inr ⟨by rfl, rfl⟩) (by assumption) ?_
                    simp only [Act.put, List.setIfInBounds_toArray, List.set_cons_zero, List.set_cons_succ]
                    refine anyH_take (i := 14) (v := undef) (some 103) rfl rfl (by kernel_rfl) (by kernel_rfl) (by kernel_rfl) (fun _ _ _ h => h) (Or.inr ⟨by rfl, rfl⟩) (by assumption) ?_
                    simp only [Act.put, List.setIfInBounds_toArray, List.set_cons_zero, List.set_cons_succ]
                    refine anyH_take (i := 15) (v := undef) (some 104) rfl rfl (by kernel_rfl) (by kernel_rfl) (by kernel_rfl) (fun _ _ _ h => h) (Or.inr ⟨by rfl, rfl⟩) (by assumption) ?_
                    simp only [Act.put, List.setIfInBounds_toArray, List.set_cons_zero, List.set_cons_succ]
                    refine anyH_take (i := 16) (v := undef) (some 105) rfl rfl (by kernel_rfl) (by kernel_rfl) (by kernel_rfl) (fun _ _ _ h => h) (Or.inr ⟨by rfl, rfl⟩) (by assumption) ?_
                    simp only [Act.put, List.setIfInBounds_toArray, List.set_cons_zero, List.set_cons_succ]
                    refine anyH_take (i := 17) (v := .bool false) (some 106) rfl rfl (by kernel_rfl) (by kernel_rfl) (by kernel_rfl) (fun _ _ _ h => h) (Or.inl ⟨by rfl, fun w' hw => by (go_simp)⟩) (by assumption) ?_
                    simp only [Act.put, List.setIfInBounds_toArray, List.set_cons_zero, List.set_cons_succ]
                    refine anyH_take (i := 18) (v := .bool false) (some 107) rfl rfl (by kernel_rfl) (by kernel_rfl) (by kernel_rfl) (fun _ _ _ h => h) (Or.inl ⟨by rfl, fun w' hw => by (go_simp)⟩) (by assumption) ?_
                    simp only [Act.put, List.setIfInBounds_toArray, List.set_cons_zero, List.set_cons_succ]
                    refine wpAnyH_done (by kernel_rfl) ?_ _
                    have hXd : Arr wr.drew gv 83 XV := hXX
                    obtain ⟨wb, hwb⟩ : ∃ z, z = (wr.drewN 1).alloc (.cells XV.toArray 83) := ⟨_, rfl⟩
                    have hbb : Below wr.heap.size wr wb := by rw [hwb]; exact (Below.dN (Below.refl _ wr) 1).alloc (Nat.le_refl _) _
                    have hVb := HV.out.up hbb
                    have hAb : Arr wb wr.heap.size 83 XV := by rw [hwb]; exact Arr.new (wr.drewN 1) 83 XV
                    have hbs : q + 1 ≤ wb.heap.size := by have := hbb.size; omega
                    have Hwb := Lib.hid hwb
                    have hokb := Hok.out.keep (G' := fun b => q + 1 ≤ b ∧ (Value.slice Ao 0 co).ownBlock ≠ some b) hbb.size (fun b _ hlt => hbb.block b hlt) fun _ _ h => h
                    have hlm : xs.length + 1 ≤ 1000000 := by rw [Hlen.out.1]; omega
                    clear hwb
                    go_wp2_with (first
                      | ((with_reducible refine wpList_at 109 (by rfl) ?_); refine wpList_load_row rfl _ _ rfl gv rfl 83 XV.toArray (0, 0) _ hXd Try.underlying83 rfl HXVi.out ?_)
                      | ((with_reducible refine wpList_at 110 (by rfl) ?_); refine wpList_build_vl rfl _ rfl XV HXVl.out rfl ?_; change wpList _ _ _ _ _ ((wr.drewN 1).alloc (.cells XV.toArray 83)); rw [← Hwb.out])
                      | ((with_reducible refine wpList_at 111 (by rfl) ?_); refine wpList_append_vl rfl _ _ rfl hVb hbs rfl ⟨wr.heap.size, 0, none⟩ 1 1 rfl [x] rfl (fun z hz => by rw [List.mem_singleton] at hz; rw [hz]; exact hokb) (one_vl HXV.out hAb) hlm ?_; intro v9 w9 hV9 hg9))
                    have hb9 : Below w.heap.size w w9 := (Hbw.out.trans (hbb.mono Hbw.out.size)).grown hg9 (Nat.le_trans Hbw.out.size hbb.size) fun g hg => by have := (hVb.lt g hg).1; have := Hq.out; omega
                    have hS9 : RSt w9 q b A c s := HS.out.low ⟨Nat.le_trans hbb.size hg9.size, fun i hi => (hg9.block i (by have := HS.out.lt; have := hbb.size; omega) (fun e => by have := (hVb.lt i e.symm).1; omega)).trans (hbb.block i (by have := HS.out.lt; omega))⟩
                    clear hXd hXX hbb hVb hAb hg9 hokb hcg
                    go_wp2_with fail
                    go_roundw
                    case rel => exact ⟨0 + 1, xs ++ [x], s, by omega, by go_num, hV9, hS9, Lib.hid ⟨fun h => Hgood.out rfl rfl h, HT.out.2⟩, Lib.hid ⟨by rw [List.length_append, Hlen.out.1]; rfl, fun h => Hli.out.2 h⟩, hb9⟩
                    case measure => (simp [Go.RowKit.intOf]; try omega)
                  · have hkp : 0 < k := by omega
                    obtain ⟨k1, hk1⟩ : ∃ z, k - 1 = z := ⟨_, rfl⟩
                    have hk1k : k1 < k := by omega
                    obtain ⟨y, hy⟩ : ∃ z, xs[k1]? = some z := ⟨_, List.getElem?_eq_getElem (by rw [Hlen.out.1]; omega)⟩
                    obtain ⟨ob, ooff, hAo, hog, holt, hor⟩ := hVat.1 (by rw [Hlen.out.1]; omega)
                    subst hAo
                    have hcy : wr.cell? ⟨ob, ooff + k1 * 4, none⟩ = some (.string y.v.name) := hor k1 y hy 0 _ rfl
                    have hly : lastV (xs.map (·.v)) = y.v.name.data.toList := by
                      unfold lastV
                      rw [List.getLast?_eq_getElem?, List.length_map, Hlen.out.1, hk1, List.getElem?_map, hy]
                      rfl
                    obtain ⟨yn, hyn⟩ : ∃ z, y.v.name = z := ⟨_, rfl⟩
                    rw [hyn] at hcy hly
                    have hcmp : Op.bytesLess yn.toList nmB.toList = bf := by rw [ba_less, ← Hbf.out, hly, HnmB.out]
                    have hkk : ((k : Int) - 1) = (k1 : Int) := by omega
                    have hk16 : k1 ≤ 65536 := by omega
                    have hwk : IntKind.u64.wrap (k1 : Int) = (k1 : Int) := by rw [IntKind.wrap_u64]; omega
                    clear hy hor hly hyn hVat hk1
                    cases bf with
                    | false =>
                      have Hno := Lib.hid (Hbad.out (.inr rfl))
                      refine wp_region_held_drew (S := (fun w' => w'.cell? ⟨gv, 0, none⟩ = some (.string nmB) ∧ w'.cell? ⟨ob, ooff + k1 * 4, none⟩ = some (.string yn))) (by kernel_rfl) ⟨hcg, hcy⟩ (fun hHeld => ?_)
                      refine anyH_take (i := 0) (v := (.pointer (some ⟨gv, 0, none⟩))) (some 89) rfl rfl (by kernel_rfl) (by kernel_rfl) (by kernel_rfl) (fun _ _ _ h => h) (Or.inl ⟨by rfl, fun w' hw => by (go_simp)⟩) (by assumption) ?_
                      simp only [Act.put, List.setIfInBounds_toArray, List.set_cons_zero, List.set_cons_succ]
                      refine anyH_take (i := 1) (v := .string nmB) (some 90) rfl rfl (by kernel_rfl) (by kernel_rfl) (by kernel_rfl) (fun _ _ _ h => h) (Or.inl ⟨by rfl, fun w' hw => by (have hcc := hw.1; go_simp)⟩) (by assumption) ?_
                      simp only [Act.put, List.setIfInBounds_toArray, List.set_cons_zero, List.set_cons_succ]
                      refine wpAnyH_ready (rs := [2]) (by kernel_rfl) (by simp) ?_
                      refine AllReadyH.cons rfl (fun K hK => ?_) AllReadyH.nil
                      go_simp
                      go_at_call 38
                      refine Calls.mono (Hmay.out _ true Hnb.out) ?_
                      rintro e wn ⟨rfl, rfl⟩
                      refine hK.out _ _ ⟨hcg, hcy⟩ (fun hHeldx => ?_)
                      clear hK K
                      try simp only [Act.put, List.setIfInBounds_toArray, List.set_cons_zero, List.set_cons_succ]
                      refine anyH_take (i := 3) (v := .bool false) (some 92) rfl rfl (by kernel_rfl) (by kernel_rfl) (by kernel_rfl) (fun _ _ _ h => h) (Or.inl ⟨by rfl, fun w' hw => by (go_simp)⟩) (by assumption) ?_
                      simp only [Act.put, List.setIfInBounds_toArray, List.set_cons_zero, List.set_cons_succ]
                      refine anyH_take (i := 4) (v := .bool false) (some 93) rfl rfl (by kernel_rfl) (by kernel_rfl) (by kernel_rfl) (fun _ _ _ h => h) (Or.inl ⟨by rfl, fun w' hw => by (go_simp)⟩) (by assumption) ?_
                      simp only [Act.put, List.setIfInBounds_toArray, List.set_cons_zero, List.set_cons_succ]
                      refine anyH_take (i := 5) (v := .int .u64 (k : Nat)) (some 94) rfl rfl (by kernel_rfl) (by kernel_rfl) (by kernel_rfl) (fun _ _ _ h => h) (Or.inl ⟨by rfl, fun w' hw => by (go_simp)⟩) (by assumption) ?_
                      simp only [Act.put, List.setIfInBounds_toArray, List.set_cons_zero, List.set_cons_succ]
                      refine anyH_take (i := 6) (v := .bool true) (some 95) rfl rfl (by kernel_rfl) (by kernel_rfl) (by kernel_rfl) (fun _ _ _ h => h) (Or.inl ⟨by rfl, fun w' hw => by (go_simp; try omega)⟩) (by assumption) ?_
                      simp only [Act.put, List.setIfInBounds_toArray, List.set_cons_zero, List.set_cons_succ]
                      refine anyH_take (i := 7) (v := .bool true) (some 96) rfl rfl (by kernel_rfl) (by kernel_rfl) (by kernel_rfl) (fun _ _ _ h => h) (Or.inl ⟨by rfl, fun w' hw => by (go_simp)⟩) (by assumption) ?_
                      simp only [Act.put, List.setIfInBounds_toArray, List.set_cons_zero, List.set_cons_succ]
                      refine anyH_take (i := 8) (v := .slice (some ⟨ob, ooff, none⟩) k co) (some 97) rfl rfl (by kernel_rfl) (by kernel_rfl) (by kernel_rfl) (fun _ _ _ h => h) (Or.inl ⟨by rfl, fun w' hw => by (go_simp)⟩) (by assumption) ?_
                      simp only [Act.put, List.setIfInBounds_toArray, List.set_cons_zero, List.set_cons_succ]
                      refine anyH_take (i := 9) (v := .int .u64 (k : Nat)) (some 98) rfl rfl (by kernel_rfl) (by kernel_rfl) (by kernel_rfl) (fun _ _ _ h => h) (Or.inl ⟨by rfl, fun w' hw => by (go_simp)⟩) (by assumption) ?_
                      simp only [Act.put, List.setIfInBounds_toArray, List.set_cons_zero, List.set_cons_succ]
                      refine anyH_take (i := 10) (v := .int .u64 (k1 : Nat)) (some 99) rfl rfl (by kernel_rfl) (by kernel_rfl) (by kernel_rfl) (fun _ _ _ h => h) (Or.inl ⟨by rfl, fun w' hw => by (go_simp; try omega)⟩) (by assumption) ?_
                      simp only [Act.put, List.setIfInBounds_toArray, List.set_cons_zero, List.set_cons_succ]
                      refine anyH_take (i := 11) (v := (.pointer (some ⟨ob, ooff + k1 * 4, none⟩))) (some 100) rfl rfl (by kernel_rfl) (by kernel_rfl) (by kernel_rfl) (fun _ _ _ h => h) (Or.inl ⟨by rfl, fun w' hw => by (go_simp; try (intro h; omega))⟩) (by assumption) ?_
                      simp only [Act.put, List.setIfInBounds_toArray, List.set_cons_zero, List.set_cons_succ]
                      refine anyH_take (i := 12) (v := (.pointer (some ⟨ob, ooff + k1 * 4, none⟩))) (some 101) rfl rfl (by kernel_rfl) (by kernel_rfl) (by kernel_rfl) (fun _ _ _ h => h) (Or.inl ⟨by rfl, fun w' hw => by (go_simp)⟩) (by assumption) ?_
                      simp only [Act.put, List.setIfInBounds_toArray, List.set_cons_zero, List.set_cons_succ]
                      refine anyH_take (i := 13) (v := .string yn) (some 102) rfl rfl (by kernel_rfl) (by kernel_rfl) (by kernel_rfl) (fun _ _ _ h => h) (Or.inl ⟨by rfl, fun w' hw => by (have hcc := hw.2; go_simp)⟩) (by assumption) ?_
                      simp only [Act.put, List.setIfInBounds_toArray, List.set_cons_zero, List.set_cons_succ]
                      refine anyH_take (i := 14) (v := (.pointer (some ⟨gv, 0, none⟩))) (some 103) rfl rfl (by kernel_rfl) (by kernel_rfl) (by kernel_rfl) (fun _ _ _ h => h) (Or.inl ⟨by rfl, fun w' hw => by (go_simp)⟩) (by assumption) ?_
                      simp only [Act.put, List.setIfInBounds_toArray, List.set_cons_zero, List.set_cons_succ]
                      refine anyH_take (i := 15) (v := .string nmB) (some 104) rfl rfl (by kernel_rfl) (by kernel_rfl) (by kernel_rfl) (fun _ _ _ h => h) (Or.inl ⟨by rfl, fun w' hw => by (have hcc := hw.1; go_simp)⟩) (by assumption) ?_
                      simp only [Act.put, List.setIfInBounds_toArray, List.set_cons_zero, List.set_cons_succ]
                      refine anyH_take (i := 16) (v := .bool true) (some 105) rfl rfl (by kernel_rfl) (by kernel_rfl) (by kernel_rfl) (fun _ _ _ h => h) (Or.inl ⟨by rfl, fun w' hw => by (go_simp)⟩) (by assumption) ?_
                      simp only [Act.put, List.setIfInBounds_toArray, List.set_cons_zero, List.set_cons_succ]
                      refine anyH_take (i := 17) (v := .bool true) (some 106) rfl rfl (by kernel_rfl) (by kernel_rfl) (by kernel_rfl) (fun _ _ _ h => h) (Or.inl ⟨by rfl, fun w' hw => by (go_simp)⟩) (by assumption) ?_
                      simp only [Act.put, List.setIfInBounds_toArray, List.set_cons_zero, List.set_cons_succ]
                      refine anyH_take (i := 18) (v := .bool true) (some 107) rfl rfl (by kernel_rfl) (by kernel_rfl) (by kernel_rfl) (fun _ _ _ h => h) (Or.inl ⟨by rfl, fun w' hw => by (go_simp)⟩) (by assumption) ?_
                      simp only [Act.put, List.setIfInBounds_toArray, List.set_cons_zero, List.set_cons_succ]
                      refine wpAnyH_done (by kernel_rfl) ?_ _
                      go_wp2_with fail
                      go_ret2
                      exact ⟨Below.dN Hbw.out 1, .inl ⟨by rw [HR.out]; exact Hno.out, rfl⟩⟩
                    | true =>
                      refine wp_region_held_drew (S := (fun w' => w'.cell? ⟨gv, 0, none⟩ = some (.string nmB) ∧ w'.cell? ⟨ob, ooff + k1 * 4, none⟩ = some (.string yn))) (by kernel_rfl) ⟨hcg, hcy⟩ (fun hHeld => ?_)
                      refine anyH_take (i := 0) (v := (.pointer (some ⟨gv, 0, none⟩))) (some 89) rfl rfl (by kernel_rfl) (by kernel_rfl) (by kernel_rfl) (fun _ _ _ h => h) (Or.inl ⟨by rfl, fun w' hw => by (go_simp)⟩) (by assumption) ?_
                      simp only [Act.put, List.setIfInBounds_toArray, List.set_cons_zero, List.set_cons_succ]
                      refine anyH_take (i := 1) (v := .string nmB) (some 90) rfl rfl (by kernel_rfl) (by kernel_rfl) (by kernel_rfl) (fun _ _ _ h => h) (Or.inl ⟨by rfl, fun w' hw => by (have hcc := hw.1; go_simp)⟩) (by assumption) ?_
                      simp only [Act.put, List.setIfInBounds_toArray, List.set_cons_zero, List.set_cons_succ]
                      refine wpAnyH_ready (rs := [2]) (by kernel_rfl) (by simp) ?_
                      refine AllReadyH.cons rfl (fun K hK => ?_) AllReadyH.nil
                      go_simp
                      go_at_call 38
                      refine Calls.mono (Hmay.out _ true Hnb.out) ?_
                      rintro e wn ⟨rfl, rfl⟩
                      refine hK.out _ _ ⟨hcg, hcy⟩ (fun hHeldx => ?_)
                      clear hK K
                      try simp only [Act.put, List.setIfInBounds_toArray, List.set_cons_zero, List.set_cons_succ]
                      refine anyH_take (i := 3) (v := .bool false) (some 92) rfl rfl (by kernel_rfl) (by kernel_rfl) (by kernel_rfl) (fun _ _ _ h => h) (Or.inl ⟨by rfl, fun w' hw => by (go_simp)⟩) (by assumption) ?_
                      simp only [Act.put, List.setIfInBounds_toArray, List.set_cons_zero, List.set_cons_succ]
                      refine anyH_take (i := 4) (v := .bool false) (some 93) rfl rfl (by kernel_rfl) (by kernel_rfl) (by kernel_rfl) (fun _ _ _ h => h) (Or.inl ⟨by rfl, fun w' hw => by (go_simp)⟩) (by assumption) ?_
                      simp only [Act.put, List.setIfInBounds_toArray, List.set_cons_zero, List.set_cons_succ]
                      refine anyH_take (i := 5) (v := .int .u64 (k : Nat)) (some 94) rfl rfl (by kernel_rfl) (by kernel_rfl) (by kernel_rfl) (fun _ _ _ h => h) (Or.inl ⟨by rfl, fun w' hw => by (go_simp)⟩) (by assumption) ?_
                      simp only [Act.put, List.setIfInBounds_toArray, List.set_cons_zero, List.set_cons_succ]
                      refine anyH_take (i := 6) (v := .bool true) (some 95) rfl rfl (by kernel_rfl) (by kernel_rfl) (by kernel_rfl) (fun _ _ _ h => h) (Or.inl ⟨by rfl, fun w' hw => by (go_simp; try omega)⟩) (by assumption) ?_
                      simp only [Act.put, List.setIfInBounds_toArray, List.set_cons_zero, List.set_cons_succ]
                      refine anyH_take (i := 7) (v := .bool true) (some 96) rfl rfl (by kernel_rfl) (by kernel_rfl) (by kernel_rfl) (fun _ _ _ h => h) (Or.inl ⟨by rfl, fun w' hw => by (go_simp)⟩) (by assumption) ?_
                      simp only [Act.put, List.setIfInBounds_toArray, List.set_cons_zero, List.set_cons_succ]
                      refine anyH_take (i := 8) (v := .slice (some ⟨ob, ooff, none⟩) k co) (some 97) rfl rfl (by kernel_rfl) (by kernel_rfl) (by kernel_rfl) (fun _ _ _ h => h) (Or.inl ⟨by rfl, fun w' hw => by (go_simp)⟩) (by assumption) ?_
                      simp only [Act.put, List.setIfInBounds_toArray, List.set_cons_zero, List.set_cons_succ]
                      refine anyH_take (i := 9) (v := .int .u64 (k : Nat)) (some 98) rfl rfl (by kernel_rfl) (by kernel_rfl) (by kernel_rfl) (fun _ _ _ h => h) (Or.inl ⟨by rfl, fun w' hw => by (go_simp)⟩) (by assumption) ?_
                      simp only [Act.put, List.setIfInBounds_toArray, List.set_cons_zero, List.set_cons_succ]
                      refine anyH_take (i := 10) (v := .int .u64 (k1 : Nat)) (some 99) rfl rfl (by kernel_rfl) (by kernel_rfl) (by kernel_rfl) (fun _ _ _ h => h) (Or.inl ⟨by rfl, fun w' hw => by (go_simp; try omega)⟩) (by assumption) ?_
                      simp only [Act.put, List.setIfInBounds_toArray, List.set_cons_zero, List.set_cons_succ]
                      refine anyH_take (i := 11) (v := (.pointer (some ⟨ob, ooff + k1 * 4, none⟩))) (some 100) rfl rfl (by kernel_rfl) (by kernel_rfl) (by kernel_rfl) (fun _ _ _ h => h) (Or.inl ⟨by rfl, fun w' hw => by (go_simp; try (intro h; omega))⟩) (by assumption) ?_
                      simp only [Act.put, List.setIfInBounds_toArray, List.set_cons_zero, List.set_cons_succ]
                      refine anyH_take (i := 12) (v := (.pointer (some ⟨ob, ooff + k1 * 4, none⟩))) (some 101) rfl rfl (by kernel_rfl) (by kernel_rfl) (by kernel_rfl) (fun _ _ _ h => h) (Or.inl ⟨by rfl, fun w' hw => by (go_simp)⟩) (by assumption) ?_
                      simp only [Act.put, List.setIfInBounds_toArray, List.set_cons_zero, List.set_cons_succ]
                      refine anyH_take (i := 13) (v := .string yn) (some 102) rfl rfl (by kernel_rfl) (by kernel_rfl) (by kernel_rfl) (fun _ _ _ h => h) (Or.inl ⟨by rfl, fun w' hw => by (have hcc := hw.2; go_simp)⟩) (by assumption) ?_
                      simp only [Act.put, List.setIfInBounds_toArray, List.set_cons_zero, List.set_cons_succ]
                      refine anyH_take (i := 14) (v := (.pointer (some ⟨gv, 0, none⟩))) (some 103) rfl rfl (by kernel_rfl) (by kernel_rfl) (by kernel_rfl) (fun _ _ _ h => h) (Or.inl ⟨by rfl, fun w' hw => by (go_simp)⟩) (by assumption) ?_
                      simp only [Act.put, List.setIfInBounds_toArray, List.set_cons_zero, List.set_cons_succ]
                      refine anyH_take (i := 15) (v := .string nmB) (some 104) rfl rfl (by kernel_rfl) (by kernel_rfl) (by kernel_rfl) (fun _ _ _ h => h) (Or.inl ⟨by rfl, fun w' hw => by (have hcc := hw.1; go_simp)⟩) (by assumption) ?_
                      simp only [Act.put, List.setIfInBounds_toArray, List.set_cons_zero, List.set_cons_succ]
                      refine anyH_take (i := 16) (v := .bool false) (some 105) rfl rfl (by kernel_rfl) (by kernel_rfl) (by kernel_rfl) (fun _ _ _ h => h) (Or.inl ⟨by rfl, fun w' hw => by (go_simp)⟩) (by assumption) ?_
                      simp only [Act.put, List.setIfInBounds_toArray, List.set_cons_zero, List.set_cons_succ]
                      refine anyH_take (i := 17) (v := .bool false) (some 106) rfl rfl (by kernel_rfl) (by kernel_rfl) (by kernel_rfl) (fun _ _ _ h => h) (Or.inl ⟨by rfl, fun w' hw => by (go_simp)⟩) (by assumption) ?_
                      simp only [Act.put, List.setIfInBounds_toArray, List.set_cons_zero, List.set_cons_succ]
                      refine anyH_take (i := 18) (v := .bool false) (some 107) rfl rfl (by kernel_rfl) (by kernel_rfl) (by kernel_rfl) (fun _ _ _ h => h) (Or.inl ⟨by rfl, fun w' hw => by (go_simp)⟩) (by assumption) ?_
                      simp only [Act.put, List.setIfInBounds_toArray, List.set_cons_zero, List.set_cons_succ]
                      refine wpAnyH_done (by kernel_rfl) ?_ _
                      have hXd : Arr wr.drew gv 83 XV := hXX
                      obtain ⟨wb, hwb⟩ : ∃ z, z = (wr.drewN 1).alloc (.cells XV.toArray 83) := ⟨_, rfl⟩
                      have hbb : Below wr.heap.size wr wb := by rw [hwb]; exact (Below.dN (Below.refl _ wr) 1).alloc (Nat.le_refl _) _
                      have hVb := HV.out.up hbb
                      have hAb : Arr wb wr.heap.size 83 XV := by rw [hwb]; exact Arr.new (wr.drewN 1) 83 XV
                      have hbs : q + 1 ≤ wb.heap.size := by have := hbb.size; omega
                      have Hwb := Lib.hid hwb
                      have hokb := Hok.out.keep (G' := fun b => q + 1 ≤ b ∧ (Value.slice (some ⟨ob, ooff, none⟩) k co).ownBlock ≠ some b) hbb.size (fun b _ hlt => hbb.block b hlt) fun _ _ h => h
                      have hlm : xs.length + 1 ≤ 1000000 := by rw [Hlen.out.1]; omega
                      clear hwb
                      go_wp2_with (first
                        | ((with_reducible refine wpList_at 109 (by rfl) ?_); refine wpList_load_row rfl _ _ rfl gv rfl 83 XV.toArray (0, 0) _ hXd Try.underlying83 rfl HXVi.out ?_)
                        | ((with_reducible refine wpList_at 110 (by rfl) ?_); refine wpList_build_vl rfl _ rfl XV HXVl.out rfl ?_; change wpList _ _ _ _ _ ((wr.drewN 1).alloc (.cells XV.toArray 83)); rw [← Hwb.out])
                        | ((with_reducible refine wpList_at 111 (by rfl) ?_); refine wpList_append_vl rfl _ _ rfl hVb hbs rfl ⟨wr.heap.size, 0, none⟩ 1 1 rfl [x] rfl (fun z hz => by rw [List.mem_singleton] at hz; rw [hz]; exact hokb) (one_vl HXV.out hAb) hlm ?_; intro v9 w9 hV9 hg9))
                      have hb9 : Below w.heap.size w w9 := (Hbw.out.trans (hbb.mono Hbw.out.size)).grown hg9 (Nat.le_trans Hbw.out.size hbb.size) fun g hg => by have := (hVb.lt g hg).1; have := Hq.out; omega
                      have hS9 : RSt w9 q b A c s := HS.out.low ⟨Nat.le_trans hbb.size hg9.size, fun i hi => (hg9.block i (by have := HS.out.lt; have := hbb.size; omega) (fun e => by have := (hVb.lt i e.symm).1; omega)).trans (hbb.block i (by have := HS.out.lt; omega))⟩
                      clear hXd hXX hbb hVb hAb hg9 hokb hcg
                      go_wp2_with fail
                      go_roundw
                      case rel => exact ⟨k + 1, xs ++ [x], s, by omega, by go_num, hV9, hS9, Lib.hid ⟨fun h => Hgood.out rfl rfl h, HT.out.2⟩, Lib.hid ⟨by rw [List.length_append, Hlen.out.1]; rfl, fun h => Hli.out.2 h⟩, hb9⟩
                      case measure => (simp [Go.RowKit.intOf]; try omega)
            | false =>
              as_aux_lemma =>
                go_upto_region 15 with fail
                clear hwc
                have hci := Hci.out.1 hwf2
                rw [show m - j = (m - (j + 1)) + 1 by omega, cellsS_step] at hci
                obtain ⟨nn, hnn⟩ : ∃ z, (numS 1048575 s).1 = z := ⟨_, rfl⟩
                obtain ⟨sA, hsA⟩ : ∃ z, (numS 1048575 s).2 = z := ⟨_, rfl⟩
                obtain ⟨d, hd⟩ : ∃ z, (digS sA).1 = z := ⟨_, rfl⟩
                obtain ⟨sB, hsB⟩ : ∃ z, (digS sA).2 = z := ⟨_, rfl⟩
                have hcs : cellS s = ((nn, d), sB) := by unfold cellS; rw [hsA, hnn, hd, hsB]
                rw [hcs] at hci
                dsimp only at hci
                have Hcc := Lib.hid hci
                have hn20 : nn ≤ 1048575 := by rw [← hnn]; exact numS_le _ _
                have hd32 : d.length = 32 := by rw [← hd]; exact digS_length _
                have HlB := Lib.hid (show k + 1 + sB.1.length ≤ n by
                  have e1 := Hli.out.2 hwf2
                  have e2 := numS_len 1048575 s
                  have e3 := digS_len sA
                  rw [hsA] at e2
                  rw [hsB] at e3
                  omega)
                have Hnum := Lib.hid (rnumber_fl q 1048575 s wr hS (by omega))
                rw [hnn, hsA] at Hnum
                have Hdig := Lib.hid (fun (w' : World) (h : RSt w' q b A c sA) => rdigest_fl q sA w' h)
                rw [hd, hsB] at Hdig
                obtain ⟨DL, hDL⟩ : ∃ z, z = Lib.byteCells d := ⟨_, rfl⟩
                rw [← hDL] at Hdig
                have hDl : DL.length = 32 := by rw [hDL, Lib.byteCells_length, hd32]
                have HDi := Lib.hid (show (Try.prog.info? 62).map (·.size) = some DL.toArray.size by rw [List.size_toArray, hDl]; exact digInfo)
                have HD1 := Lib.hid (show DL.toArray.all (·.oneCell') = true by rw [hDL]; exact dig_one _)
                obtain ⟨K0, hK0⟩ : ∃ z, z = Value.int .i64 (nn : Nat) :: Lib.byteCells zeros := ⟨_, rfl⟩
                have HK0b := Lib.hid (show Try.prog.built 85 [(0, .int .i64 (nn : Nat))] = some K0.toArray by rw [hK0]; exact cl_built0 _)
                have hK0l : K0.length = 33 := by rw [hK0]; rfl
                have HK0i := Lib.hid (show (Try.prog.info? 85).map (·.size) = some K0.toArray.size ∧ KZ.toArray.size = K0.toArray.size by rw [List.size_toArray, List.size_toArray, hK0l, HKl.out]; exact ⟨clSize, rfl⟩)
                have HK01 := Lib.hid (show K0.toArray.all (·.oneCell') = true by rw [hK0]; exact all_oneCell_toArray (cellC_one (nn, zeros)))
                obtain ⟨XL, hXL⟩ : ∃ z, z = cellC (nn, d) := ⟨_, rfl⟩
                have HXL := Lib.hid hXL
                have HXe := Lib.hid (show K0.take 1 ++ (DL ++ K0.drop (1 + DL.length)) = XL by rw [hXL, hDl, List.drop_of_length_le (by omega), hK0, hDL]; simp [cellC])
                have hXl : XL.length = 33 := by rw [hXL, cellC_length hd32]
                have HXl := Lib.hid hXl
                have HXi := Lib.hid (show (Try.prog.info? 85).map (·.size) = some XL.toArray.size by rw [List.size_toArray, hXl]; exact clSize)
                have HK0l := Lib.hid hK0l
                have HDl := Lib.hid hDl
                have Hd32 := Lib.hid hd32
                have HVr := Lib.hid hV
                have HCr := Lib.hid hC
                have HXr := Lib.hid hX
                have Hbw := Lib.hid hbw
                have hqr := hS.lt
                clear hci Hci hnn hsA hd hsB hcs hDL hK0 hXL hV hC hX hbw hS hXl hK0l hDl hd32 hwf2
                go_wp2_with fail
                refine Calls.mono Hnum.out ?_
                rintro e w4 ⟨rfl, hS4, ht4⟩
                obtain ⟨w5, hw5⟩ : ∃ W, W = (w4.alloc (.cells KZ.toArray 85)).setRow w4.heap.size K0.toArray := ⟨_, rfl⟩
                obtain ⟨hX5, hb45⟩ := alloc_row w4 85 KZ.toArray K0
                rw [← hw5] at hX5 hb45
                have Hw5 := Lib.hid hw5
                clear hw5
                go_upto_region 16 with (first | ((with_reducible refine wpList_at 65 (by rfl) ?_); refine wpList_builtV rfl _ _ rfl _ rfl K0.toArray HK0b.out ?_) | ((with_reducible refine wpList_at 12 (by rfl) ?_); refine wpList_allocZV rfl 85 rfl KZ.toArray (HKZ.out _) ?_) | (refine wpList_store_row rfl _ _ _ rfl w4.heap.size K0.toArray rfl rfl 85 KZ.toArray (heap_alloc_new w4 _) HK0i.out.1 HK0i.out.2 HK01.out ?_; rw [← Hw5.out]))
                obtain ⟨gc, hgc⟩ : ∃ z, z = w4.heap.size := ⟨_, rfl⟩
                rw [← hgc] at hX5 ⊢
                have hgcw : wr.heap.size ≤ gc := by have := ht4.size; omega
                have hS5 : RSt w5 q b A c sA := hS4.low ⟨hb45.size, fun i hi => hb45.block i (by have := ht4.size; omega)⟩
                have hu5 : Up (q + 1) wr w5 := (Turn.upQ ht4 (by omega)).trans (Below.upQ hb45)
                have hbw4 : Below w.heap.size w w4 := Hbw.out.trans (ht4.below Hbw.out.size (by have := Hq.out; omega))
                have hbw5 : Below w.heap.size w w5 := hbw4.trans (hb45.mono hbw4.size)
                clear hS4 ht4 hb45 Hw5 hgc hbw4 Hnum
                go_wp2_with fail
                refine Calls.mono (Hdig.out w5 hS5) ?_
                rintro e w6 ⟨rfl, hS6, ht6⟩
                have hX6 := hX5.keepUp (Turn.upQ ht6 (show q < q + 1 by omega)) (by omega)
                have hu6 : Up (q + 1) wr w6 := hu5.trans (Turn.upQ ht6 (by omega))
                have hbw6 : Below w.heap.size w w6 := hbw5.trans (ht6.below hbw5.size (by have := Hq.out; omega))
                have hth := there_of_arr hX6 (off := 1) (n := DL.toArray.size) (by rw [List.size_toArray, HDl.out, HK0l.out]; omega)
                obtain ⟨w7, hw7⟩ : ∃ z, z = w6.setCells gc 1 DL := ⟨_, rfl⟩
                have hX7 : Arr w7 gc 85 XL := by rw [hw7, ← HXe.out]; exact Arr.setIn DL 1 K0 w6 hX6 (by rw [HDl.out, HK0l.out]; omega)
                have hO7 : Only (fun b => b = gc) w6 w7 := by rw [hw7]; exact Only.setIn (R := fun b => b = gc) rfl DL 1 w6 (Only.refl _ _)
                have hu7 : Up (q + 1) wr w7 := ⟨Nat.le_trans hu6.1 hO7.size, fun k hk hl => (hO7.block k (Nat.lt_of_lt_of_le hl hu6.1) (by omega)).trans (hu6.2 k hk hl)⟩
                have hS7 : RSt w7 q b A c sB := hS6.low ⟨hO7.size, fun i hi => hO7.block i (by have := hu6.1; omega) (by omega)⟩
                have hbw7 : Below w.heap.size w w7 := hbw6.trans (hO7.below hbw6.size (by rintro i rfl; have := Hbw.out.size; omega))
                have Hw7 := Lib.hid hw7
                have Hth := Lib.hid hth
                clear hX5 hu5 hbw5 hS5 hX6 hu6 hbw6 ht6 hS6 hw7 hth hO7 Hdig
                go_upto_region 17 with (first | (refine wpList_store_mid rfl 62 _ _ rfl gc 1 DL.toArray rfl rfl Hth.out HDi.out HD1.out ?_; rw [show DL.toArray.toList = DL from rfl, ← Hw7.out]))
                have hXv := HXr.out.keepUp hu7 hgq.1
                have hCv := HCr.out.keepUp (hu7.more (show q + 1 ≤ gv + 1 by omega))
                obtain ⟨Ac, cc, hcv, hcl, hcm, hcat⟩ := hCv.slice
                rw [Hli.out.1] at hcv hcl
                subst hcv
                have hcm63 : cc ≤ 9223372036854775807 := by unfold maxLen at hcm; omega
                have c3 := hXv.cell 3
                simp only [List.getElem?_cons_succ, List.getElem?_cons_zero] at c3
                have x0 : w7.cell? ⟨gc, 0, none⟩ = some (.int .i64 (nn : Nat)) := by rw [hX7.cell, HXL.out]; rfl
                have HS7 := Lib.hid hS7
                have Hbw7 := Lib.hid hbw7
                have HX7 := Lib.hid hX7
                have HXv := Lib.hid hXv
                have HCv := Lib.hid hCv
                have Hu7 := Lib.hid hu7
                have hgc7 : gc < w7.heap.size := hX7.lt
                have hgv7 : gv < w7.heap.size := hXv.lt
                clear hS7 hbw7 hX7 hXv hCv hu7 Hw7 Hth hcm
                by_cases hj0 : j = 0
                · subst hj0
                  have hcs0 : cs = [] := List.length_eq_zero_iff.1 Hli.out.1
                  have Hnx := Lib.hid (show (sB.2 = false → contV (N - (k + 1)) (xs.map (·.v)) nm qv f (cellsS (m - (0 + 1)) (cs ++ [(nn, d)], sB)) = R) ∧ (sB.2 = true → R = none) from by
                    refine ⟨fun h => ?_, fun h => ?_⟩
                    · have h2 := Hcc.out
                      rw [if_neg (by rw [h, hcs0, lastC_nil]; simp; omega)] at h2
                      exact h2
                    · have h2 := Hcc.out
                      rw [if_pos (.inl h)] at h2
                      exact h2.symm)
                  clear hcs0 hcat
                  refine wp_region_held_drew (S := (fun w' => w'.cell? ⟨gv, 3, none⟩ = some (.slice Ac 0 cc))) (by kernel_rfl) c3 (fun hHeld => ?_)
                  refine anyH_take (i := 0) (v := .int .u64 ((0 : Nat) : Int)) (some 69) rfl rfl (by kernel_rfl) (by kernel_rfl) (by kernel_rfl) (fun _ _ _ h => h) (Or.inl ⟨by rfl, fun w' hw => by (go_simp)⟩) (by assumption) ?_
                  simp only [Act.put, List.setIfInBounds_toArray, List.set_cons_zero, List.set_cons_succ]
                  refine anyH_take (i := 1) (v := .bool false) (some 70) rfl rfl (by kernel_rfl) (by kernel_rfl) (by kernel_rfl) (fun _ _ _ h => h) (Or.inl ⟨by rfl, fun w' hw => by (go_simp)⟩) (by assumption) ?_
                  simp only [Act.put, List.setIfInBounds_toArray, List.set_cons_zero, List.set_cons_succ]
                  refine anyH_take (i := 2) (v := .bool false) (some 71) rfl rfl (by kernel_rfl) (by kernel_rfl) (by kernel_rfl) (fun _ _ _ h => h) (Or.inl ⟨by rfl, fun w' hw => by (go_simp)⟩) (by assumption) ?_
                  simp only [Act.put, List.setIfInBounds_toArray, List.set_cons_zero, List.set_cons_succ]
                  refine anyH_take (i := 3) (v := undef) (some 72) rfl rfl (by kernel_rfl) (by kernel_rfl) (by kernel_rfl) (fun _ _ _ h => h) (Or.inr ⟨by rfl, rfl⟩) (by assumption) ?_
                  simp only [Act.put, List.setIfInBounds_toArray, List.set_cons_zero, List.set_cons_succ]
                  refine anyH_take (i := 4) (v := undef) (some 73) rfl rfl (by kernel_rfl) (by kernel_rfl) (by kernel_rfl) (fun _ _ _ h => h) (Or.inr ⟨by rfl, rfl⟩) (by assumption) ?_
                  simp only [Act.put, List.setIfInBounds_toArray, List.set_cons_zero, List.set_cons_succ]
                  refine anyH_take (i := 5) (v := undef) (some 74) rfl rfl (by kernel_rfl) (by kernel_rfl) (by kernel_rfl) (fun _ _ _ h => h) (Or.inr ⟨by rfl, rfl⟩) (by assumption) ?_
                  simp only [Act.put, List.setIfInBounds_toArray, List.set_cons_zero, List.set_cons_succ]
                  refine anyH_take (i := 6) (v := undef) (some 75) rfl rfl (by kernel_rfl) (by kernel_rfl) (by kernel_rfl) (fun _ _ _ h => h) (Or.inr ⟨by rfl, rfl⟩) (by assumption) ?_
                  simp only [Act.put, List.setIfInBounds_toArray, List.set_cons_zero, List.set_cons_succ]
                  refine anyH_take (i := 7) (v := undef) (some 76) rfl rfl (by kernel_rfl) (by kernel_rfl) (by kernel_rfl) (fun _ _ _ h => h) (Or.inr ⟨by rfl, rfl⟩) (by assumption) ?_
                  simp only [Act.put, List.setIfInBounds_toArray, List.set_cons_zero, List.set_cons_succ]
                  refine anyH_take (i := 8) (v := undef) (some 77) rfl rfl (by kernel_rfl) (by kernel_rfl) (by kernel_rfl) (fun _ _ _ h => h) (Or.inr ⟨by rfl, rfl⟩) (by assumption) ?_
                  simp only [Act.put, List.setIfInBounds_toArray, List.set_cons_zero, List.set_cons_succ]
                  refine anyH_take (i := 9) (v := undef) (some 78) rfl rfl (by kernel_rfl) (by kernel_rfl) (by kernel_rfl) (fun _ _ _ h => h) (Or.inr ⟨by rfl, rfl⟩) (by assumption) ?_
                  simp only [Act.put, List.setIfInBounds_toArray, List.set_cons_zero, List.set_cons_succ]
                  refine anyH_take (i := 10) (v := undef) (some 79) rfl rfl (by kernel_rfl) (by kernel_rfl) (by kernel_rfl) (fun _ _ _ h => h) (Or.inr ⟨by rfl, rfl⟩) (by assumption) ?_
                  simp only [Act.put, List.setIfInBounds_toArray, List.set_cons_zero, List.set_cons_succ]
                  refine anyH_take (i := 11) (v := undef) (some 80) rfl rfl (by kernel_rfl) (by kernel_rfl) (by kernel_rfl) (fun _ _ _ h => h) (Or.inr ⟨by rfl, rfl⟩) (by assumption) ?_
                  simp only [Act.put, List.setIfInBounds_toArray, List.set_cons_zero, List.set_cons_succ]
                  refine anyH_take (i := 12) (v := undef) (some 81) rfl rfl (by kernel_rfl) (by kernel_rfl) (by kernel_rfl) (fun _ _ _ h => h) (Or.inr ⟨by rfl, rfl⟩) (by assumption) ?_
                  simp only [Act.put, List.setIfInBounds_toArray, List.set_cons_zero, List.set_cons_succ]
                  refine anyH_take (i := 13) (v := .bool false) (some 82) rfl rfl (by kernel_rfl) (by kernel_rfl) (by kernel_rfl) (fun _ _ _ h => h) (Or.inl ⟨by rfl, fun w' hw => by (go_simp)⟩) (by assumption) ?_
                  simp only [Act.put, List.setIfInBounds_toArray, List.set_cons_zero, List.set_cons_succ]
                  refine wpAnyH_done (by kernel_rfl) ?_ _
                  clear x0
                  obtain ⟨we, hwe⟩ : ∃ z, z = w7.drew := ⟨_, rfl⟩
                  have hbe : Below w7.heap.size w7 we := by rw [hwe]; exact Below.dN (Below.refl _ w7) 1
                  rw [← hwe]
                  clear hwe
                  have hXe7 := HX7.out.up hbe
                  have c3e := (World.cell?_of_block (hbe.block gv hgv7)).trans c3
                  obtain ⟨wb, hwb⟩ : ∃ z, z = we.alloc (.cells XL.toArray 85) := ⟨_, rfl⟩
                  have hbb : Below we.heap.size we wb := by rw [hwb]; exact (Below.refl _ _).alloc (Nat.le_refl _) _
                  have hAb : Arr wb we.heap.size 85 XL := by rw [hwb]; exact Arr.new we 85 XL
                  have hCb := (HCv.out.up hbe).up hbb
                  have hXb := (HXv.out.up hbe).up hbb
                  have hbs : gv + 1 ≤ wb.heap.size := by have := hbb.size; have := hbe.size; omega
                  have hl6 : cs.length ≤ 2000000 := by rw [Hli.out.1]; omega
                  have Hwb := Lib.hid hwb
                  clear hwb c3
                  go_upto_region 14 with (first
                    | ((with_reducible refine wpList_at 85 (by rfl) ?_); refine wpList_load_row rfl _ _ rfl gc rfl 85 XL.toArray (0, 0) _ hXe7 Try.underlying85 rfl HXi.out ?_)
                    | ((with_reducible refine wpList_at 86 (by rfl) ?_); refine wpList_build_cl rfl _ rfl XL HXl.out rfl ?_; rw [← Hwb.out])
                    | ((with_reducible refine wpList_at 87 (by rfl) ?_); refine wpList_append_cl rfl _ _ rfl hCb hbs rfl _ _ rfl (nn, d) Hd32.out XL HXL.out hAb hl6 ?_; intro v9 w9 hC9 hg9; obtain ⟨A9, c9, hv9, _, _, _⟩ := hC9.slice; obtain ⟨n9, hn9⟩ : ∃ z, (cs ++ [(nn, d)]).length = z := ⟨_, rfl⟩; rw [hn9] at hv9; subst hv9; clear hn9; have hX9 := (hg9.block gv hXb.lt (fun e => by have := (hCb.lt gv e.symm).1; omega)).trans hXb; have hc9 := Arr.cell hX9 3; have hf9 := Arr.frozen hX9 3; simp only [List.getElem?_cons_succ, List.getElem?_cons_zero] at hc9))
                  obtain ⟨wz, hwz⟩ : ∃ z, z = w9.setCell ⟨gv, 3, none⟩ (.slice A9 n9 c9) := ⟨_, rfl⟩
                  rw [← hwz]
                  have hXz : Arr wz gv 83 [.string nmB, .int .i64 (qv : Nat), .bool f, .slice A9 n9 c9] := by rw [hwz]; exact Arr.set hX9 3 _
                  have hCz : CRow wz (gv + 1) (.slice A9 n9 c9) (cs ++ [(nn, d)]) := by rw [hwz]; exact hC9.keepUp ((Up.refl _ _).set (.inl (show gv < gv + 1 by omega)) _)
                  have hmz : Mid (q + 1) gv wr wz := by rw [hwz]; exact (((Hu7.out.mid.trans (Up.mid (Below.upQ hbe))).trans (Up.mid (Below.upQ hbb))).grown hg9 (fun g hg => by have := (hCb.lt g hg).1; omega)).set (show gv ≤ gv by omega) _
                  have hVz := HVr.out.keepMid Hown.out hmz
                  have hSz : RSt wz q b A c sB := HS7.out.low ⟨by rw [hwz]; have h1 := hbe.size; have h2 := hbb.size; have h3 := hg9.size; simp only [World.setCell]; simp; omega, fun i hi => by
                    rw [hwz]
                    refine (Below.heap_setCell w9 _ _ i (by show i ≠ gv; omega)).trans ?_
                    have hlt := HS7.out.lt
                    have h1 := hbe.size
                    have h2 := hbb.size
                    exact (hg9.block i (by omega) (fun e => by have := (hCb.lt i e.symm).1; omega)).trans ((hbb.block i (by omega)).trans (hbe.block i (by omega)))⟩
                  have hbz : Below w.heap.size w wz := by
                    rw [hwz]
                    have h7 := Hbw7.out.trans (hbe.mono Hbw7.out.size)
                    exact ((h7.trans (hbb.mono h7.size)).grown hg9 (h7.trans (hbb.mono h7.size)).size fun g hg => by have := (hCb.lt g hg).1; have := Hq.out; omega).setCell (by show w.heap.size ≤ gv; have := Hq.out; omega) _
                  clear hwz hX9 hC9 hg9 hc9 hf9 hXe7 c3e hbb hAb hCb hXb hbe hmz
                  go_wp2_with fail
                  go_roundw
                  case rel => exact ⟨0 + 1, cs ++ [(nn, d)], sB, .slice A9 n9 c9, by omega, by go_num, hXz, hCz, hVz, hSz, Hnx, Lib.hid ⟨by rw [List.length_append, Hli.out.1]; rfl, fun _ => HlB.out⟩, hbz, hXz.lt⟩
                  case measure => (simp [Go.RowKit.intOf]; try omega)
                · have hjp : 0 < j := by omega
                  obtain ⟨j1, hj1⟩ : ∃ z, j - 1 = z := ⟨_, rfl⟩
                  have hj1k : j1 < j := by omega
                  obtain ⟨y, hy⟩ : ∃ z, cs[j1]? = some z := ⟨_, List.getElem?_eq_getElem (by rw [Hli.out.1]; omega)⟩
                  obtain ⟨cb, coff, hAc, hcg, hclt, hcr⟩ := hcat (by rw [Hli.out.1]; omega)
                  subst hAc
                  obtain ⟨yn, hyn⟩ : ∃ z, y.1 = z := ⟨_, rfl⟩
                  have hcy : w7.cell? ⟨cb, coff + j1 * 33, none⟩ = some (.int .i64 (yn : Nat)) := by
                    have := (hcr j1 y hy).2 0 _ rfl
                    rw [hyn] at this
                    exact this
                  have Hly := Lib.hid (show lastC cs = ((yn : Nat) : Int) by
                    unfold lastC
                    rw [List.getLast?_eq_getElem?, Hli.out.1, hj1, hy]
                    show ((y.1 : Nat) : Int) = _
                    rw [hyn])
                  have hkk : ((j : Int) - 1) = (j1 : Int) := by omega
                  have hj16 : j1 ≤ 1048576 := by omega
                  have hwk : IntKind.u64.wrap (j1 : Int) = (j1 : Int) := by rw [IntKind.wrap_u64]; omega
                  have hjq : decide ((j : Int) > 0) = true := by simp; omega
                  have hjq2 : decide (0 < j) = true := by simp; omega
                  clear hy hcr hyn hj1 hcat
                  by_cases hge : nn ≤ yn
                  · have hdg : decide ((yn : Int) ≥ (nn : Int)) = true := by simp; omega
                    have hdg2 : decide (nn ≤ yn) = true := by simp; omega
                    have Hno := Lib.hid (show R = none by
                      have h2 := Hcc.out
                      rw [if_pos (.inr (by rw [Hly.out]; omega))] at h2
                      exact h2.symm)
                    refine wp_region_held_drew (S := (fun w' => w'.cell? ⟨gv, 3, none⟩ = some (.slice (some ⟨cb, coff, none⟩) j cc) ∧ w'.cell? ⟨cb, coff + j1 * 33, none⟩ = some (.int .i64 (yn : Nat)) ∧ w'.cell? ⟨gc, 0, none⟩ = some (.int .i64 (nn : Nat)))) (by kernel_rfl) ⟨c3, hcy, x0⟩ (fun hHeld => ?_)
                    refine anyH_take (i := 0) (v := .int .u64 (j : Nat)) (some 69) rfl rfl (by kernel_rfl) (by kernel_rfl) (by kernel_rfl) (fun _ _ _ h => h) (Or.inl ⟨by rfl, fun w' hw => by (go_simp)⟩) (by assumption) ?_
                    simp only [Act.put, List.setIfInBounds_toArray, List.set_cons_zero, List.set_cons_succ]
                    refine anyH_take (i := 1) (v := .bool true) (some 70) rfl rfl (by kernel_rfl) (by kernel_rfl) (by kernel_rfl) (fun _ _ _ h => h) (Or.inl ⟨by rfl, fun w' hw => by (go_simp; try omega)⟩) (by assumption) ?_
                    simp only [Act.put, List.setIfInBounds_toArray, List.set_cons_zero, List.set_cons_succ]
                    refine anyH_take (i := 2) (v := .bool true) (some 71) rfl rfl (by kernel_rfl) (by kernel_rfl) (by kernel_rfl) (fun _ _ _ h => h) (Or.inl ⟨by rfl, fun w' hw => by (go_simp)⟩) (by assumption) ?_
                    simp only [Act.put, List.setIfInBounds_toArray, List.set_cons_zero, List.set_cons_succ]
                    refine anyH_take (i := 3) (v := (.pointer (some ⟨gv, 3, none⟩))) (some 72) rfl rfl (by kernel_rfl) (by kernel_rfl) (by kernel_rfl) (fun _ _ _ h => h) (Or.inl ⟨by rfl, fun w' hw => by (go_simp)⟩) (by assumption) ?_
                    simp only [Act.put, List.setIfInBounds_toArray, List.set_cons_zero, List.set_cons_succ]
                    refine anyH_take (i := 4) (v := .slice (some ⟨cb, coff, none⟩) j cc) (some 73) rfl rfl (by kernel_rfl) (by kernel_rfl) (by kernel_rfl) (fun _ _ _ h => h) (Or.inl ⟨by rfl, fun w' hw => by (have hcc := hw.1; go_simp)⟩) (by assumption) ?_
                    simp only [Act.put, List.setIfInBounds_toArray, List.set_cons_zero, List.set_cons_succ]
                    refine anyH_take (i := 5) (v := .int .u64 (j : Nat)) (some 74) rfl rfl (by kernel_rfl) (by kernel_rfl) (by kernel_rfl) (fun _ _ _ h => h) (Or.inl ⟨by rfl, fun w' hw => by (go_simp)⟩) (by assumption) ?_
                    simp only [Act.put, List.setIfInBounds_toArray, List.set_cons_zero, List.set_cons_succ]
                    refine anyH_take (i := 6) (v := .int .u64 (j1 : Nat)) (some 75) rfl rfl (by kernel_rfl) (by kernel_rfl) (by kernel_rfl) (fun _ _ _ h => h) (Or.inl ⟨by rfl, fun w' hw => by (go_simp; try omega)⟩) (by assumption) ?_
                    simp only [Act.put, List.setIfInBounds_toArray, List.set_cons_zero, List.set_cons_succ]
                    refine anyH_take (i := 7) (v := (.pointer (some ⟨cb, coff + j1 * 33, none⟩))) (some 76) rfl rfl (by kernel_rfl) (by kernel_rfl) (by kernel_rfl) (fun _ _ _ h => h) (Or.inl ⟨by rfl, fun w' hw => by (go_simp; try (intro h; omega))⟩) (by assumption) ?_
                    simp only [Act.put, List.setIfInBounds_toArray, List.set_cons_zero, List.set_cons_succ]
                    refine anyH_take (i := 8) (v := (.pointer (some ⟨cb, coff + j1 * 33, none⟩))) (some 77) rfl rfl (by kernel_rfl) (by kernel_rfl) (by kernel_rfl) (fun _ _ _ h => h) (Or.inl ⟨by rfl, fun w' hw => by (go_simp)⟩) (by assumption) ?_
                    simp only [Act.put, List.setIfInBounds_toArray, List.set_cons_zero, List.set_cons_succ]
                    refine anyH_take (i := 9) (v := .int .i64 (yn : Nat)) (some 78) rfl rfl (by kernel_rfl) (by kernel_rfl) (by kernel_rfl) (fun _ _ _ h => h) (Or.inl ⟨by rfl, fun w' hw => by (have hcc := hw.2.1; go_simp)⟩) (by assumption) ?_
                    simp only [Act.put, List.setIfInBounds_toArray, List.set_cons_zero, List.set_cons_succ]
                    refine anyH_take (i := 10) (v := (.pointer (some ⟨gc, 0, none⟩))) (some 79) rfl rfl (by kernel_rfl) (by kernel_rfl) (by kernel_rfl) (fun _ _ _ h => h) (Or.inl ⟨by rfl, fun w' hw => by (go_simp)⟩) (by assumption) ?_
                    simp only [Act.put, List.setIfInBounds_toArray, List.set_cons_zero, List.set_cons_succ]
                    refine anyH_take (i := 11) (v := .int .i64 (nn : Nat)) (some 80) rfl rfl (by kernel_rfl) (by kernel_rfl) (by kernel_rfl) (fun _ _ _ h => h) (Or.inl ⟨by rfl, fun w' hw => by (have hcc := hw.2.2; go_simp)⟩) (by assumption) ?_
                    simp only [Act.put, List.setIfInBounds_toArray, List.set_cons_zero, List.set_cons_succ]
                    refine anyH_take (i := 12) (v := .bool true) (some 81) rfl rfl (by kernel_rfl) (by kernel_rfl) (by kernel_rfl) (fun _ _ _ h => h) (Or.inl ⟨by rfl, fun w' hw => by (go_simp)⟩) (by assumption) ?_
                    simp only [Act.put, List.setIfInBounds_toArray, List.set_cons_zero, List.set_cons_succ]
                    refine anyH_take (i := 13) (v := .bool true) (some 82) rfl rfl (by kernel_rfl) (by kernel_rfl) (by kernel_rfl) (fun _ _ _ h => h) (Or.inl ⟨by rfl, fun w' hw => by (go_simp)⟩) (by assumption) ?_
                    simp only [Act.put, List.setIfInBounds_toArray, List.set_cons_zero, List.set_cons_succ]
                    refine wpAnyH_done (by kernel_rfl) ?_ _
                    go_wp2_with fail
                    go_ret2
                    exact ⟨Below.dN Hbw7.out 1, .inl ⟨by rw [HR.out]; exact Hno.out, rfl⟩⟩
                  · have hdg : decide ((yn : Int) ≥ (nn : Int)) = false := by simp; omega
                    have hdg2 : decide (nn ≤ yn) = false := by simp; omega
                    have Hnx := Lib.hid (show (sB.2 = false → contV (N - (k + 1)) (xs.map (·.v)) nm qv f (cellsS (m - (j + 1)) (cs ++ [(nn, d)], sB)) = R) ∧ (sB.2 = true → R = none) from by
                      refine ⟨fun h => ?_, fun h => ?_⟩
                      · have h2 := Hcc.out
                        rw [if_neg (by rw [h, Hly.out]; simp; omega)] at h2
                        exact h2
                      · have h2 := Hcc.out
                        rw [if_pos (.inl h)] at h2
                        exact h2.symm)
                    refine wp_region_held_drew (S := (fun w' => w'.cell? ⟨gv, 3, none⟩ = some (.slice (some ⟨cb, coff, none⟩) j cc) ∧ w'.cell? ⟨cb, coff + j1 * 33, none⟩ = some (.int .i64 (yn : Nat)) ∧ w'.cell? ⟨gc, 0, none⟩ = some (.int .i64 (nn : Nat)))) (by kernel_rfl) ⟨c3, hcy, x0⟩ (fun hHeld => ?_)
                    refine anyH_take (i := 0) (v := .int .u64 (j : Nat)) (some 69) rfl rfl (by kernel_rfl) (by kernel_rfl) (by kernel_rfl) (fun _ _ _ h => h) (Or.inl ⟨by rfl, fun w' hw => by (go_simp)⟩) (by assumption) ?_
                    simp only [Act.put, List.setIfInBounds_toArray, List.set_cons_zero, List.set_cons_succ]
                    refine anyH_take (i := 1) (v := .bool true) (some 70) rfl rfl (by kernel_rfl) (by kernel_rfl) (by kernel_rfl) (fun _ _ _ h => h) (Or.inl ⟨by rfl, fun w' hw => by (go_simp; try omega)⟩) (by assumption) ?_
                    simp only [Act.put, List.setIfInBounds_toArray, List.set_cons_zero, List.set_cons_succ]
                    refine anyH_take (i := 2) (v := .bool true) (some 71) rfl rfl (by kernel_rfl) (by kernel_rfl) (by kernel_rfl) (fun _ _ _ h => h) (Or.inl ⟨by rfl, fun w' hw => by (go_simp)⟩) (by assumption) ?_
                    simp only [Act.put, List.setIfInBounds_toArray, List.set_cons_zero, List.set_cons_succ]
                    refine anyH_take (i := 3) (v := (.pointer (some ⟨gv, 3, none⟩))) (some 72) rfl rfl (by kernel_rfl) (by kernel_rfl) (by kernel_rfl) (fun _ _ _ h => h) (Or.inl ⟨by rfl, fun w' hw => by (go_simp)⟩) (by assumption) ?_
                    simp only [Act.put, List.setIfInBounds_toArray, List.set_cons_zero, List.set_cons_succ]
                    refine anyH_take (i := 4) (v := .slice (some ⟨cb, coff, none⟩) j cc) (some 73) rfl rfl (by kernel_rfl) (by kernel_rfl) (by kernel_rfl) (fun _ _ _ h => h) (Or.inl ⟨by rfl, fun w' hw => by (have hcc := hw.1; go_simp)⟩) (by assumption) ?_
                    simp only [Act.put, List.setIfInBounds_toArray, List.set_cons_zero, List.set_cons_succ]
                    refine anyH_take (i := 5) (v := .int .u64 (j : Nat)) (some 74) rfl rfl (by kernel_rfl) (by kernel_rfl) (by kernel_rfl) (fun _ _ _ h => h) (Or.inl ⟨by rfl, fun w' hw => by (go_simp)⟩) (by assumption) ?_
                    simp only [Act.put, List.setIfInBounds_toArray, List.set_cons_zero, List.set_cons_succ]
                    refine anyH_take (i := 6) (v := .int .u64 (j1 : Nat)) (some 75) rfl rfl (by kernel_rfl) (by kernel_rfl) (by kernel_rfl) (fun _ _ _ h => h) (Or.inl ⟨by rfl, fun w' hw => by (go_simp; try omega)⟩) (by assumption) ?_
                    simp only [Act.put, List.setIfInBounds_toArray, List.set_cons_zero, List.set_cons_succ]
                    refine anyH_take (i := 7) (v := (.pointer (some ⟨cb, coff + j1 * 33, none⟩))) (some 76) rfl rfl (by kernel_rfl) (by kernel_rfl) (by kernel_rfl) (fun _ _ _ h => h) (Or.inl ⟨by rfl, fun w' hw => by (go_simp; try (intro h; omega))⟩) (by assumption) ?_
                    simp only [Act.put, List.setIfInBounds_toArray, List.set_cons_zero, List.set_cons_succ]
                    refine anyH_take (i := 8) (v := (.pointer (some ⟨cb, coff + j1 * 33, none⟩))) (some 77) rfl rfl (by kernel_rfl) (by kernel_rfl) (by kernel_rfl) (fun _ _ _ h => h) (Or.inl ⟨by rfl, fun w' hw => by (go_simp)⟩) (by assumption) ?_
                    simp only [Act.put, List.setIfInBounds_toArray, List.set_cons_zero, List.set_cons_succ]
                    refine anyH_take (i := 9) (v := .int .i64 (yn : Nat)) (some 78) rfl rfl (by kernel_rfl) (by kernel_rfl) (by kernel_rfl) (fun _ _ _ h => h) (Or.inl ⟨by rfl, fun w' hw => by (have hcc := hw.2.1; go_simp)⟩) (by assumption) ?_
                    simp only [Act.put, List.setIfInBounds_toArray, List.set_cons_zero, List.set_cons_succ]
                    refine anyH_take (i := 10) (v := (.pointer (some ⟨gc, 0, none⟩))) (some 79) rfl rfl (by kernel_rfl) (by kernel_rfl) (by kernel_rfl) (fun _ _ _ h => h) (Or.inl ⟨by rfl, fun w' hw => by (go_simp)⟩) (by assumption) ?_
                    simp only [Act.put, List.setIfInBounds_toArray, List.set_cons_zero, List.set_cons_succ]
                    refine anyH_take (i := 11) (v := .int .i64 (nn : Nat)) (some 80) rfl rfl (by kernel_rfl) (by kernel_rfl) (by kernel_rfl) (fun _ _ _ h => h) (Or.inl ⟨by rfl, fun w' hw => by (have hcc := hw.2.2; go_simp)⟩) (by assumption) ?_
                    simp only [Act.put, List.setIfInBounds_toArray, List.set_cons_zero, List.set_cons_succ]
                    refine anyH_take (i := 12) (v := .bool false) (some 81) rfl rfl (by kernel_rfl) (by kernel_rfl) (by kernel_rfl) (fun _ _ _ h => h) (Or.inl ⟨by rfl, fun w' hw => by (go_simp)⟩) (by assumption) ?_
                    simp only [Act.put, List.setIfInBounds_toArray, List.set_cons_zero, List.set_cons_succ]
                    refine anyH_take (i := 13) (v := .bool false) (some 82) rfl rfl (by kernel_rfl) (by kernel_rfl) (by kernel_rfl) (fun _ _ _ h => h) (Or.inl ⟨by rfl, fun w' hw => by (go_simp)⟩) (by assumption) ?_
                    simp only [Act.put, List.setIfInBounds_toArray, List.set_cons_zero, List.set_cons_succ]
                    refine wpAnyH_done (by kernel_rfl) ?_ _
                    clear x0 hcy
                    obtain ⟨we, hwe⟩ : ∃ z, z = w7.drew := ⟨_, rfl⟩
                    have hbe : Below w7.heap.size w7 we := by rw [hwe]; exact Below.dN (Below.refl _ w7) 1
                    rw [← hwe]
                    clear hwe
                    have hXe7 := HX7.out.up hbe
                    have c3e := (World.cell?_of_block (hbe.block gv hgv7)).trans c3
                    obtain ⟨wb, hwb⟩ : ∃ z, z = we.alloc (.cells XL.toArray 85) := ⟨_, rfl⟩
                    have hbb : Below we.heap.size we wb := by rw [hwb]; exact (Below.refl _ _).alloc (Nat.le_refl _) _
                    have hAb : Arr wb we.heap.size 85 XL := by rw [hwb]; exact Arr.new we 85 XL
                    have hCb := (HCv.out.up hbe).up hbb
                    have hXb := (HXv.out.up hbe).up hbb
                    have hbs : gv + 1 ≤ wb.heap.size := by have := hbb.size; have := hbe.size; omega
                    have hl6 : cs.length ≤ 2000000 := by rw [Hli.out.1]; omega
                    have Hwb := Lib.hid hwb
                    clear hwb c3
                    go_upto_region 14 with (first
                      | ((with_reducible refine wpList_at 85 (by rfl) ?_); refine wpList_load_row rfl _ _ rfl gc rfl 85 XL.toArray (0, 0) _ hXe7 Try.underlying85 rfl HXi.out ?_)
                      | ((with_reducible refine wpList_at 86 (by rfl) ?_); refine wpList_build_cl rfl _ rfl XL HXl.out rfl ?_; rw [← Hwb.out])
                      | ((with_reducible refine wpList_at 87 (by rfl) ?_); refine wpList_append_cl rfl _ _ rfl hCb hbs rfl _ _ rfl (nn, d) Hd32.out XL HXL.out hAb hl6 ?_; intro v9 w9 hC9 hg9; obtain ⟨A9, c9, hv9, _, _, _⟩ := hC9.slice; obtain ⟨n9, hn9⟩ : ∃ z, (cs ++ [(nn, d)]).length = z := ⟨_, rfl⟩; rw [hn9] at hv9; subst hv9; clear hn9; have hX9 := (hg9.block gv hXb.lt (fun e => by have := (hCb.lt gv e.symm).1; omega)).trans hXb; have hc9 := Arr.cell hX9 3; have hf9 := Arr.frozen hX9 3; simp only [List.getElem?_cons_succ, List.getElem?_cons_zero] at hc9))
                    obtain ⟨wz, hwz⟩ : ∃ z, z = w9.setCell ⟨gv, 3, none⟩ (.slice A9 n9 c9) := ⟨_, rfl⟩
                    rw [← hwz]
                    have hXz : Arr wz gv 83 [.string nmB, .int .i64 (qv : Nat), .bool f, .slice A9 n9 c9] := by rw [hwz]; exact Arr.set hX9 3 _
                    have hCz : CRow wz (gv + 1) (.slice A9 n9 c9) (cs ++ [(nn, d)]) := by rw [hwz]; exact hC9.keepUp ((Up.refl _ _).set (.inl (show gv < gv + 1 by omega)) _)
                    have hmz : Mid (q + 1) gv wr wz := by rw [hwz]; exact (((Hu7.out.mid.trans (Up.mid (Below.upQ hbe))).trans (Up.mid (Below.upQ hbb))).grown hg9 (fun g hg => by have := (hCb.lt g hg).1; omega)).set (show gv ≤ gv by omega) _
                    have hVz := HVr.out.keepMid Hown.out hmz
                    have hSz : RSt wz q b A c sB := HS7.out.low ⟨by rw [hwz]; have h1 := hbe.size; have h2 := hbb.size; have h3 := hg9.size; simp only [World.setCell]; simp; omega, fun i hi => by
                      rw [hwz]
                      refine (Below.heap_setCell w9 _ _ i (by show i ≠ gv; omega)).trans ?_
                      have hlt := HS7.out.lt
                      have h1 := hbe.size
                      have h2 := hbb.size
                      exact (hg9.block i (by omega) (fun e => by have := (hCb.lt i e.symm).1; omega)).trans ((hbb.block i (by omega)).trans (hbe.block i (by omega)))⟩
                    have hbz : Below w.heap.size w wz := by
                      rw [hwz]
                      have h7 := Hbw7.out.trans (hbe.mono Hbw7.out.size)
                      exact ((h7.trans (hbb.mono h7.size)).grown hg9 (h7.trans (hbb.mono h7.size)).size fun g hg => by have := (hCb.lt g hg).1; have := Hq.out; omega).setCell (by show w.heap.size ≤ gv; have := Hq.out; omega) _
                    clear hwz hX9 hC9 hg9 hc9 hf9 hXe7 c3e hbb hAb hCb hXb hbe hmz
                    go_wp2_with fail
                    go_roundw
                    case rel => exact ⟨j + 1, cs ++ [(nn, d)], sB, .slice A9 n9 c9, by omega, by go_num, hXz, hCz, hVz, hSz, Hnx, Lib.hid ⟨by rw [List.length_append, Hli.out.1]; rfl, fun _ => HlB.out⟩, hbz, hXz.lt⟩
                    case measure => (simp [Go.RowKit.intOf]; try omega)
          · obtain rfl : j = m := by omega
            have hd3 : decide ((j : Int) < (j : Int)) = false := by simp
            have hd4 : decide (j < j) = false := by simp
            have HT := Lib.hid (show (s.2 = false → contV (N - (k + 1)) (xs.map (·.v)) nm qv f (some (cs, s)) = R) ∧ (s.2 = true → R = none) from ⟨fun h => by have h2 := Hci.out.1 h; rw [Nat.sub_self] at h2; exact h2, Hci.out.2⟩)
            clear hwf2
            go_upto_region 20 with fail
            clear hwc
            as_aux_lemma =>
              replace hV := hV.widen
              obtain ⟨Ac, cc, hcv, hcl, hcm, hcat⟩ := hC.slice2
              obtain ⟨lc, hlc⟩ : ∃ z, cs.length = z := ⟨_, rfl⟩
              have hlcm : lc ≤ 1048576 := by rw [← hlc, Hli.out.1]; omega
              rw [hlc] at hcv hcl
              subst hcv
              obtain ⟨x, hx⟩ : ∃ z : Vx, z = ⟨⟨nmB, qv, f, cs⟩, Ac, cc⟩ := ⟨_, rfl⟩
              have hne := rows_apart hC.2 hV.2 (by decide)
              have hszB : nmB.size ≤ 20 := by
                rw [HnmB.out]
                have e : (⟨nm.toArray⟩ : ByteArray).size = nm.length := by simp [ByteArray.size]
                rw [e, Hln.out]; omega
              have Hok := Lib.hid (show VxOk wr (fun b => q + 1 ≤ b ∧ u6.ownBlock ≠ some b) x by
                rw [hx]
                exact ⟨by show cs.length ≤ cc; rw [hlc]; exact hcl, hcm, hcat.keep (Nat.le_refl _) (fun _ _ _ => rfl) fun b hlt hb => ⟨by have := hb.1; omega, fun e => hne b hb.2 e⟩, by show nmB.size ≤ maxLen; unfold maxLen; omega, hqv20, by show cs.length ≤ 1048576; omega⟩)
              obtain ⟨XV, hXV⟩ : ∃ z, z = volC x := ⟨_, rfl⟩
              have hXX : Arr wr gv 83 XV := by rw [hXV, hx]; unfold volC; dsimp only; rw [hlc]; exact hX
              have HXVl := Lib.hid (show XV.length = 4 by rw [hXV]; rfl)
              have HXVi := Lib.hid (show (Try.prog.info? 83).map (·.size) = some XV.toArray.size by rw [List.size_toArray, HXVl.out]; exact vlSize)
              have HXVn := Lib.hid (show (Try.prog.info? 83).map (·.size) = some XV.length by rw [HXVl.out]; exact vlSize)
              have HXV := Lib.hid hXV
              have Hx := Lib.hid (show x.v = ⟨⟨nm.toArray⟩, qv, f, cs⟩ by rw [hx, ← HnmB.out])
              have hcg := hX.cell 0
              simp only [List.getElem?_cons_zero] at hcg
              have Hmay := Lib.hid (fun (w' : World) (nb : Bool) (h : namedB nm = nb) => rnamed_any nmB (by unfold maxLen; omega) w' nb (by rw [← h, HnmB.out]))
              obtain ⟨nb, hnb⟩ : ∃ z, namedB nm = z := ⟨_, rfl⟩
              have Hnb := Lib.hid hnb
              obtain ⟨Ao, co, hov, hoc, hom, hVat⟩ := hV.slice
              rw [Hlen.out.1] at hov hoc
              subst hov
              obtain ⟨bf, hbf⟩ : ∃ z, bytesBefore (lastV (xs.map (·.v))) nm = z := ⟨_, rfl⟩
              have Hbf := Lib.hid hbf
              have Hbad := Lib.hid (show nb = false ∨ bf = false → R = none from fun h => by
                cases hs2 : s.2 with
                | true => exact HT.out.2 hs2
                | false =>
                  rw [← HT.out.1 hs2]
                  exact contV_bad (by rw [hnb, hbf]; exact h))
              have Hgood := Lib.hid (show nb = true → bf = true → s.2 = false → finV (volsS (N - (k + 1)) ((xs ++ [x]).map (·.v), s)) = R from fun h1 h2 h3 => by
                rw [List.map_append, List.map_cons, List.map_nil, Hx.out, ← contV_good h3 (by rw [hnb]; exact h1) (by rw [hbf]; exact h2)]
                exact HT.out.1 h3)
              have HV := Lib.hid hV
              have HS := Lib.hid hS
              have Hbw := Lib.hid hbw
              have hom63 : co ≤ 9223372036854775807 := by unfold maxLen at hom; omega
              have hkn : k ≤ 65536 := by have := Hlen.out.2 hwf; omega
              clear hx hXV hnb hbf hcat hV hS hC hX hne hbw hcl hcm hlc hwf
              cases nb with
              | false =>
                have Hno := Lib.hid (Hbad.out (.inl rfl))
                refine wp_region_held_drew (S := (fun w' => w'.cell? ⟨gv, 0, none⟩ = some (.string nmB) ∧ True)) (by kernel_rfl) ⟨hcg, trivial⟩ (fun hHeld => ?_)
                refine anyH_take (i := 0) (v := (.pointer (some ⟨gv, 0, none⟩))) (some 89) rfl rfl (by kernel_rfl) (by kernel_rfl) (by kernel_rfl) (fun _ _ _ h => h) (Or.inl ⟨by rfl, fun w' hw => by (go_simp)⟩) (by assumption) ?_
                simp only [Act.put, List.setIfInBounds_toArray, List.set_cons_zero, List.set_cons_succ]
                refine anyH_take (i := 1) (v := .string nmB) (some 90) rfl rfl (by kernel_rfl) (by kernel_rfl) (by kernel_rfl) (fun _ _ _ h => h) (Or.inl ⟨by rfl, fun w' hw => by (have hcc := hw.1; go_simp)⟩) (by assumption) ?_
                simp only [Act.put, List.setIfInBounds_toArray, List.set_cons_zero, List.set_cons_succ]
                refine wpAnyH_ready (rs := [2]) (by kernel_rfl) (by simp) ?_
                refine AllReadyH.cons rfl (fun K hK => ?_) AllReadyH.nil
                go_simp
                go_at_call 38
                refine Calls.mono (Hmay.out _ false Hnb.out) ?_
                rintro e wn ⟨rfl, rfl⟩
                refine hK.out _ _ ⟨hcg, trivial⟩ (fun hHeldx => ?_)
                clear hK K
                try simp only [Act.put, List.setIfInBounds_toArray, List.set_cons_zero, List.set_cons_succ]
                refine anyH_take (i := 3) (v := .bool true) (some 92) rfl rfl (by kernel_rfl) (by kernel_rfl) (by kernel_rfl) (fun _ _ _ h => h) (Or.inl ⟨by rfl, fun w' hw => by (go_simp)⟩) (by assumption) ?_
                simp only [Act.put, List.setIfInBounds_toArray, List.set_cons_zero, List.set_cons_succ]
                refine anyH_take (i := 4) (v := .bool true) (some 93) rfl rfl (by kernel_rfl) (by kernel_rfl) (by kernel_rfl) (fun _ _ _ h => h) (Or.inl ⟨by rfl, fun w' hw => by (go_simp)⟩) (by assumption) ?_
                simp only [Act.put, List.setIfInBounds_toArray, List.set_cons_zero, List.set_cons_succ]
                refine anyH_take (i := 5) (v := undef) (some 94) rfl rfl (by kernel_rfl) (by kernel_rfl) (by kernel_rfl) (fun _ _ _ h => h) (Or.inr ⟨by rfl, rfl⟩) (by assumption) ?_
                simp only [Act.put, List.setIfInBounds_toArray, List.set_cons_zero, List.set_cons_succ]
                refine anyH_take (i := 6) (v := undef) (some 95) rfl rfl (by kernel_rfl) (by kernel_rfl) (by kernel_rfl) (fun _ _ _ h => h) (Or.inr ⟨by rfl, rfl⟩) (by assumption) ?_
                simp only [Act.put, List.setIfInBounds_toArray, List.set_cons_zero, List.set_cons_succ]
                refine anyH_take (i := 7) (v := undef) (some 96) rfl rfl (by kernel_rfl) (by kernel_rfl) (by kernel_rfl) (fun _ _ _ h => h) (Or.inr ⟨by rfl, rfl⟩) (by assumption) ?_
                simp only [Act.put, List.setIfInBounds_toArray, List.set_cons_zero, List.set_cons_succ]
                refine anyH_take (i := 8) (v := undef) (some 97) rfl rfl (by kernel_rfl) (by kernel_rfl) (by kernel_rfl) (fun _ _ _ h => h) (Or.inr ⟨by rfl, rfl⟩) (by assumption) ?_
                simp only [Act.put, List.setIfInBounds_toArray, List.set_cons_zero, List.set_cons_succ]
                refine anyH_take (i := 9) (v := undef) (some 98) rfl rfl (by kernel_rfl) (by kernel_rfl) (by kernel_rfl) (fun _ _ _ h => h) (Or.inr ⟨by rfl, rfl⟩) (by assumption) ?_
                simp only [Act.put, List.setIfInBounds_toArray, List.set_cons_zero, List.set_cons_succ]
                refine anyH_take (i := 10) (v := undef) (some 99) rfl rfl (by kernel_rfl) (by kernel_rfl) (by kernel_rfl) (fun _ _ _ h => h) (Or.inr ⟨by rfl, rfl⟩) (by assumption) ?_
                simp only [Act.put, List.setIfInBounds_toArray, List.set_cons_zero, List.set_cons_succ]
                refine anyH_take (i := 11) (v := undef) (some 100) rfl rfl (by kernel_rfl) (by kernel_rfl) (by kernel_rfl) (fun _ _ _ h => h) (Or.inr ⟨by rfl, rfl⟩) (by assumption) ?_
                simp only [Act.put, List.setIfInBounds_toArray, List.set_cons_zero, List.set_cons_succ]
                refine anyH_take (i := 12) (v := undef) (some 101) rfl rfl (by kernel_rfl) (by kernel_rfl) (by kernel_rfl) (fun _ _ _ h => h) (Or.inr ⟨by rfl, rfl⟩) (by assumption) ?_
                simp only [Act.put, List.setIfInBounds_toArray, List.set_cons_zero, List.set_cons_succ]
                refine anyH_take (i := 13) (v := undef) (some 102) rfl rfl (by kernel_rfl) (by kernel_rfl) (by kernel_rfl) (fun _ _ _ h => h) (Or.inr ⟨by rfl, rfl⟩) (by assumption) ?_
                simp only [Act.put, List.setIfInBounds_toArray, List.set_cons_zero, List.set_cons_succ]
                refine anyH_take (i := 14) (v := undef) (some 103) rfl rfl (by kernel_rfl) (by kernel_rfl) (by kernel_rfl) (fun _ _ _ h => h) (Or.inr ⟨by rfl, rfl⟩) (by assumption) ?_
                simp only [Act.put, List.setIfInBounds_toArray, List.set_cons_zero, List.set_cons_succ]
                refine anyH_take (i := 15) (v := undef) (some 104) rfl rfl (by kernel_rfl) (by kernel_rfl) (by kernel_rfl) (fun _ _ _ h => h) (Or.inr ⟨by rfl, rfl⟩) (by assumption) ?_
                simp only [Act.put, List.setIfInBounds_toArray, List.set_cons_zero, List.set_cons_succ]
                refine anyH_take (i := 16) (v := undef) (some 105) rfl rfl (by kernel_rfl) (by kernel_rfl) (by kernel_rfl) (fun _ _ _ h => h) (Or.inr ⟨by rfl, rfl⟩) (by assumption) ?_
                simp only [Act.put, List.setIfInBounds_toArray, List.set_cons_zero, List.set_cons_succ]
                refine anyH_take (i := 17) (v := undef) (some 106) rfl rfl (by kernel_rfl) (by kernel_rfl) (by kernel_rfl) (fun _ _ _ h => h) (Or.inr ⟨by rfl, rfl⟩) (by assumption) ?_
                simp only [Act.put, List.setIfInBounds_toArray, List.set_cons_zero, List.set_cons_succ]
                refine anyH_take (i := 18) (v := .bool true) (some 107) rfl rfl (by kernel_rfl) (by kernel_rfl) (by kernel_rfl) (fun _ _ _ h => h) (Or.inl ⟨by rfl, fun w' hw => by (go_simp)⟩) (by assumption) ?_
                simp only [Act.put, List.setIfInBounds_toArray, List.set_cons_zero, List.set_cons_succ]
                refine wpAnyH_done (by kernel_rfl) ?_ _
                go_wp2_with fail
                go_ret2
                exact ⟨Below.dN Hbw.out 1, .inl ⟨by rw [HR.out]; exact Hno.out, rfl⟩⟩
              | true =>
                by_cases hk0 : k = 0
                · subst hk0
                  have hxs : xs = [] := List.length_eq_zero_iff.1 Hlen.out.1
                  have hbt : bf = true := by
                    rw [← Hbf.out, hxs]
                    have h1 := Hnb.out
                    cases nm with
                    | nil => cases h1
                    | cons y r => rfl
                  subst hbt
                  clear hxs
                  refine wp_region_held_drew (S := (fun w' => w'.cell? ⟨gv, 0, none⟩ = some (.string nmB) ∧ True)) (by kernel_rfl) ⟨hcg, trivial⟩ (fun hHeld => ?_)
                  refine anyH_take (i := 0) (v := (.pointer (some ⟨gv, 0, none⟩))) (some 89) rfl rfl (by kernel_rfl) (by kernel_rfl) (by kernel_rfl) (fun _ _ _ h => h) (Or.inl ⟨by rfl, fun w' hw => by (go_simp)⟩) (by assumption) ?_
                  simp only [Act.put, List.setIfInBounds_toArray, List.set_cons_zero, List.set_cons_succ]
                  refine anyH_take (i := 1) (v := .string nmB) (some 90) rfl rfl (by kernel_rfl) (by kernel_rfl) (by kernel_rfl) (fun _ _ _ h => h) (Or.inl ⟨by rfl, fun w' hw => by (have hcc := hw.1; go_simp)⟩) (by assumption) ?_
                  simp only [Act.put, List.setIfInBounds_toArray, List.set_cons_zero, List.set_cons_succ]
                  refine wpAnyH_ready (rs := [2]) (by kernel_rfl) (by simp) ?_
                  refine AllReadyH.cons rfl (fun K hK => ?_) AllReadyH.nil
                  go_simp
                  go_at_call 38
                  refine Calls.mono (Hmay.out _ true Hnb.out) ?_
                  rintro e wn ⟨rfl, rfl⟩
                  refine hK.out _ _ ⟨hcg, trivial⟩ (fun hHeldx => ?_)
                  clear hK K
                  try simp only [Act.put, List.setIfInBounds_toArray, List.set_cons_zero, List.set_cons_succ]
                  refine anyH_take (i := 3) (v := .bool false) (some 92) rfl rfl (by kernel_rfl) (by kernel_rfl) (by kernel_rfl) (fun _ _ _ h => h) (Or.inl ⟨by rfl, fun w' hw => by (go_simp)⟩) (by assumption) ?_
                  simp only [Act.put, List.setIfInBounds_toArray, List.set_cons_zero, List.set_cons_succ]
                  refine anyH_take (i := 4) (v := .bool false) (some 93) rfl rfl (by kernel_rfl) (by kernel_rfl) (by kernel_rfl) (fun _ _ _ h => h) (Or.inl ⟨by rfl, fun w' hw => by (go_simp)⟩) (by assumption) ?_
                  simp only [Act.put, List.setIfInBounds_toArray, List.set_cons_zero, List.set_cons_succ]
                  refine anyH_take (i := 5) (v := .int .u64 ((0 : Nat) : Int)) (some 94) rfl rfl (by kernel_rfl) (by kernel_rfl) (by kernel_rfl) (fun _ _ _ h => h) (Or.inl ⟨by rfl, fun w' hw => by (go_simp)⟩) (by assumption) ?_
                  simp only [Act.put, List.setIfInBounds_toArray, List.set_cons_zero, List.set_cons_succ]
                  refine anyH_take (i := 6) (v := .bool false) (some 95) rfl rfl (by kernel_rfl) (by kernel_rfl) (by kernel_rfl) (fun _ _ _ h => h) (Or.inl ⟨by rfl, fun w' hw => by (go_simp)⟩) (by assumption) ?_
                  simp only [Act.put, List.setIfInBounds_toArray, List.set_cons_zero, List.set_cons_succ]
                  refine anyH_take (i := 7) (v := .bool false) (some 96) rfl rfl (by kernel_rfl) (by kernel_rfl) (by kernel_rfl) (fun _ _ _ h => h) (Or.inl ⟨by rfl, fun w' hw => by (go_simp)⟩) (by assumption) ?_
                  simp only [Act.put, List.setIfInBounds_toArray, List.set_cons_zero, List.set_cons_succ]
                  refine anyH_take (i := 8) (v := undef) (some 97) rfl rfl (by kernel_rfl) (by kernel_rfl) (by kernel_rfl) (fun _ _ _ h => h) (Or.inr ⟨by rfl, rfl⟩) (by assumption) ?_
                  simp only [Act.put, List.setIfInBounds_toArray, List.set_cons_zero, List.set_cons_succ]
                  refine anyH_take (i := 9) (v := undef) (some 98) rfl rfl (by kernel_rfl) (by kernel_rfl) (by kernel_rfl) (fun _ _ _ h => h) (Or.inr ⟨by rfl, rfl⟩) (by assumption) ?_
                  simp only [Act.put, List.setIfInBounds_toArray, List.set_cons_zero, List.set_cons_succ]
                  refine anyH_take (i := 10) (v := undef) (some 99) rfl rfl (by kernel_rfl) (by kernel_rfl) (by kernel_rfl) (fun _ _ _ h => h) (Or.inr ⟨by rfl, rfl⟩) (by assumption) ?_
                  simp only [Act.put, List.setIfInBounds_toArray, List.set_cons_zero, List.set_cons_succ]
                  refine anyH_take (i := 11) (v := undef) (some 100) rfl rfl (by kernel_rfl) (by kernel_rfl) (by kernel_rfl) (fun _ _ _ h => h) (Or.inr ⟨by rfl, rfl⟩) (by assumption) ?_
                  simp only [Act.put, List.setIfInBounds_toArray, List.set_cons_zero, List.set_cons_succ]
                  refine anyH_take (i := 12) (v := undef) (some 101) rfl rfl (by kernel_rfl) (by kernel_rfl) (by kernel_rfl) (fun _ _ _ h => h) (Or.inr ⟨by rfl, rfl⟩) (by assumption) ?_
                  simp only [Act.put, List.setIfInBounds_toArray, List.set_cons_zero, List.set_cons_succ]
                  refine anyH_take (i := 13) (v := undef) (some 102) rfl rfl (by kernel_rfl) (by kernel_rfl) (by kernel_rfl) (fun _ _ _ h => h) (Or.inr ⟨by rfl, rfl⟩) (by assumption) ?_
                  simp only [Act.put, List.setIfInBounds_toArray, List.set_cons_zero, List.set_cons_succ]
                  refine anyH_take (i := 14) (v := undef) (some 103) rfl rfl (by kernel_rfl) (by kernel_rfl) (by kernel_rfl) (fun _ _ _ h => h) (Or.inr ⟨by rfl, rfl⟩) (by assumption) ?_
                  simp only [Act.put, List.setIfInBounds_toArray, List.set_cons_zero, List.set_cons_succ]
                  refine anyH_take (i := 15) (v := undef) (some 104) rfl rfl (by kernel_rfl) (by kernel_rfl) (by kernel_rfl) (fun _ _ _ h => h) (Or.inr ⟨by rfl, rfl⟩) (by assumption) ?_
                  simp only [Act.put, List.setIfInBounds_toArray, List.set_cons_zero, List.set_cons_succ]
                  refine anyH_take (i := 16) (v := undef) (some 105) rfl rfl (by kernel_rfl) (by kernel_rfl) (by kernel_rfl) (fun _ _ _ h => h) (Or.inr ⟨by rfl, rfl⟩) (by assumption) ?_
                  simp only [Act.put, List.setIfInBounds_toArray, List.set_cons_zero, List.set_cons_succ]
                  refine anyH_take (i := 17) (v := .bool false) (some 106) rfl rfl (by kernel_rfl) (by kernel_rfl) (by kernel_rfl) (fun _ _ _ h => h) (Or.inl ⟨by rfl, fun w' hw => by (go_simp)⟩) (by assumption) ?_
                  simp only [Act.put, List.setIfInBounds_toArray, List.set_cons_zero, List.set_cons_succ]
                  refine anyH_take (i := 18) (v := .bool false) (some 107) rfl rfl (by kernel_rfl) (by kernel_rfl) (by kernel_rfl) (fun _ _ _ h => h) (Or.inl ⟨by rfl, fun w' hw => by (go_simp)⟩) (by assumption) ?_
                  simp only [Act.put, List.setIfInBounds_toArray, List.set_cons_zero, List.set_cons_succ]
                  refine wpAnyH_done (by kernel_rfl) ?_ _
                  have hXd : Arr wr.drew gv 83 XV := hXX
                  obtain ⟨wb, hwb⟩ : ∃ z, z = (wr.drewN 1).alloc (.cells XV.toArray 83) := ⟨_, rfl⟩
                  have hbb : Below wr.heap.size wr wb := by rw [hwb]; exact (Below.dN (Below.refl _ wr) 1).alloc (Nat.le_refl _) _
                  have hVb := HV.out.up hbb
                  have hAb : Arr wb wr.heap.size 83 XV := by rw [hwb]; exact Arr.new (wr.drewN 1) 83 XV
                  have hbs : q + 1 ≤ wb.heap.size := by have := hbb.size; omega
                  have Hwb := Lib.hid hwb
                  have hokb := Hok.out.keep (G' := fun b => q + 1 ≤ b ∧ (Value.slice Ao 0 co).ownBlock ≠ some b) hbb.size (fun b _ hlt => hbb.block b hlt) fun _ _ h => h
                  have hlm : xs.length + 1 ≤ 1000000 := by rw [Hlen.out.1]; omega
                  clear hwb
                  go_wp2_with (first
                    | ((with_reducible refine wpList_at 109 (by rfl) ?_); refine wpList_load_row rfl _ _ rfl gv rfl 83 XV.toArray (0, 0) _ hXd Try.underlying83 rfl HXVi.out ?_)
                    | ((with_reducible refine wpList_at 110 (by rfl) ?_); refine wpList_build_vl rfl _ rfl XV HXVl.out rfl ?_; change wpList _ _ _ _ _ ((wr.drewN 1).alloc (.cells XV.toArray 83)); rw [← Hwb.out])
                    | ((with_reducible refine wpList_at 111 (by rfl) ?_); refine wpList_append_vl rfl _ _ rfl hVb hbs rfl ⟨wr.heap.size, 0, none⟩ 1 1 rfl [x] rfl (fun z hz => by rw [List.mem_singleton] at hz; rw [hz]; exact hokb) (one_vl HXV.out hAb) hlm ?_; intro v9 w9 hV9 hg9))
                  have hb9 : Below w.heap.size w w9 := (Hbw.out.trans (hbb.mono Hbw.out.size)).grown hg9 (Nat.le_trans Hbw.out.size hbb.size) fun g hg => by have := (hVb.lt g hg).1; have := Hq.out; omega
                  have hS9 : RSt w9 q b A c s := HS.out.low ⟨Nat.le_trans hbb.size hg9.size, fun i hi => (hg9.block i (by have := HS.out.lt; have := hbb.size; omega) (fun e => by have := (hVb.lt i e.symm).1; omega)).trans (hbb.block i (by have := HS.out.lt; omega))⟩
                  clear hXd hXX hbb hVb hAb hg9 hokb hcg
                  go_wp2_with fail
                  go_roundw
                  case rel => exact ⟨0 + 1, xs ++ [x], s, by omega, by go_num, hV9, hS9, Lib.hid ⟨fun h => Hgood.out rfl rfl h, HT.out.2⟩, Lib.hid ⟨by rw [List.length_append, Hlen.out.1]; rfl, fun h => Hli.out.2 h⟩, hb9⟩
                  case measure => (simp [Go.RowKit.intOf]; try omega)
                · have hkp : 0 < k := by omega
                  obtain ⟨k1, hk1⟩ : ∃ z, k - 1 = z := ⟨_, rfl⟩
                  have hk1k : k1 < k := by omega
                  obtain ⟨y, hy⟩ : ∃ z, xs[k1]? = some z := ⟨_, List.getElem?_eq_getElem (by rw [Hlen.out.1]; omega)⟩
                  obtain ⟨ob, ooff, hAo, hog, holt, hor⟩ := hVat.1 (by rw [Hlen.out.1]; omega)
                  subst hAo
                  have hcy : wr.cell? ⟨ob, ooff + k1 * 4, none⟩ = some (.string y.v.name) := hor k1 y hy 0 _ rfl
                  have hly : lastV (xs.map (·.v)) = y.v.name.data.toList := by
                    unfold lastV
                    rw [List.getLast?_eq_getElem?, List.length_map, Hlen.out.1, hk1, List.getElem?_map, hy]
                    rfl
                  obtain ⟨yn, hyn⟩ : ∃ z, y.v.name = z := ⟨_, rfl⟩
                  rw [hyn] at hcy hly
                  have hcmp : Op.bytesLess yn.toList nmB.toList = bf := by rw [ba_less, ← Hbf.out, hly, HnmB.out]
                  have hkk : ((k : Int) - 1) = (k1 : Int) := by omega
                  have hk16 : k1 ≤ 65536 := by omega
                  have hwk : IntKind.u64.wrap (k1 : Int) = (k1 : Int) := by rw [IntKind.wrap_u64]; omega
                  clear hy hor hly hyn hVat hk1
                  cases bf with
                  | false =>
                    have Hno := Lib.hid (Hbad.out (.inr rfl))
                    refine wp_region_held_drew (S := (fun w' => w'.cell? ⟨gv, 0, none⟩ = some (.string nmB) ∧ w'.cell? ⟨ob, ooff + k1 * 4, none⟩ = some (.string yn))) (by kernel_rfl) ⟨hcg, hcy⟩ (fun hHeld => ?_)
                    refine anyH_take (i := 0) (v := (.pointer (some ⟨gv, 0, none⟩))) (some 89) rfl rfl (by kernel_rfl) (by kernel_rfl) (by kernel_rfl) (fun _ _ _ h => h) (Or.inl ⟨by rfl, fun w' hw => by (go_simp)⟩) (by assumption) ?_
                    simp only [Act.put, List.setIfInBounds_toArray, List.set_cons_zero, List.set_cons_succ]
                    refine anyH_take (i := 1) (v := .string nmB) (some 90) rfl rfl (by kernel_rfl) (by kernel_rfl) (by kernel_rfl) (fun _ _ _ h => h) (Or.inl ⟨by rfl, fun w' hw => by (have hcc := hw.1; go_simp)⟩) (by assumption) ?_
                    simp only [Act.put, List.setIfInBounds_toArray, List.set_cons_zero, List.set_cons_succ]
                    refine wpAnyH_ready (rs := [2]) (by kernel_rfl) (by simp) ?_
                    refine AllReadyH.cons rfl (fun K hK => ?_) AllReadyH.nil
                    go_simp
                    go_at_call 38
                    refine Calls.mono (Hmay.out _ true Hnb.out) ?_
                    rintro e wn ⟨rfl, rfl⟩
                    refine hK.out _ _ ⟨hcg, hcy⟩ (fun hHeldx => ?_)
                    clear hK K
                    try simp only [Act.put, List.setIfInBounds_toArray, List.set_cons_zero, List.set_cons_succ]
                    refine anyH_take (i := 3) (v := .bool false) (some 92) rfl rfl (by kernel_rfl) (by kernel_rfl) (by kernel_rfl) (fun _ _ _ h => h) (Or.inl ⟨by rfl, fun w' hw => by (go_simp)⟩) (by assumption) ?_
                    simp only [Act.put, List.setIfInBounds_toArray, List.set_cons_zero, List.set_cons_succ]
                    refine anyH_take (i := 4) (v := .bool false) (some 93) rfl rfl (by kernel_rfl) (by kernel_rfl) (by kernel_rfl) (fun _ _ _ h => h) (Or.inl ⟨by rfl, fun w' hw => by (go_simp)⟩) (by assumption) ?_
                    simp only [Act.put, List.setIfInBounds_toArray, List.set_cons_zero, List.set_cons_succ]
                    refine anyH_take (i := 5) (v := .int .u64 (k : Nat)) (some 94) rfl rfl (by kernel_rfl) (by kernel_rfl) (by kernel_rfl) (fun _ _ _ h => h) (Or.inl ⟨by rfl, fun w' hw => by (go_simp)⟩) (by assumption) ?_
                    simp only [Act.put, List.setIfInBounds_toArray, List.set_cons_zero, List.set_cons_succ]
                    refine anyH_take (i := 6) (v := .bool true) (some 95) rfl rfl (by kernel_rfl) (by kernel_rfl) (by kernel_rfl) (fun _ _ _ h => h) (Or.inl ⟨by rfl, fun w' hw => by (go_simp; try omega)⟩) (by assumption) ?_
                    simp only [Act.put, List.setIfInBounds_toArray, List.set_cons_zero, List.set_cons_succ]
                    refine anyH_take (i := 7) (v := .bool true) (some 96) rfl rfl (by kernel_rfl) (by kernel_rfl) (by kernel_rfl) (fun _ _ _ h => h) (Or.inl ⟨by rfl, fun w' hw => by (go_simp)⟩) (by assumption) ?_
                    simp only [Act.put, List.setIfInBounds_toArray, List.set_cons_zero, List.set_cons_succ]
                    refine anyH_take (i := 8) (v := .slice (some ⟨ob, ooff, none⟩) k co) (some 97) rfl rfl (by kernel_rfl) (by kernel_rfl) (by kernel_rfl) (fun _ _ _ h => h) (Or.inl ⟨by rfl, fun w' hw => by (go_simp)⟩) (by assumption) ?_
                    simp only [Act.put, List.setIfInBounds_toArray, List.set_cons_zero, List.set_cons_succ]
                    refine anyH_take (i := 9) (v := .int .u64 (k : Nat)) (some 98) rfl rfl (by kernel_rfl) (by kernel_rfl) (by kernel_rfl) (fun _ _ _ h => h) (Or.inl ⟨by rfl, fun w' hw => by (go_simp)⟩) (by assumption) ?_
                    simp only [Act.put, List.setIfInBounds_toArray, List.set_cons_zero, List.set_cons_succ]
                    refine anyH_take (i := 10) (v := .int .u64 (k1 : Nat)) (some 99) rfl rfl (by kernel_rfl) (by kernel_rfl) (by kernel_rfl) (fun _ _ _ h => h) (Or.inl ⟨by rfl, fun w' hw => by (go_simp; try omega)⟩) (by assumption) ?_
                    simp only [Act.put, List.setIfInBounds_toArray, List.set_cons_zero, List.set_cons_succ]
                    refine anyH_take (i := 11) (v := (.pointer (some ⟨ob, ooff + k1 * 4, none⟩))) (some 100) rfl rfl (by kernel_rfl) (by kernel_rfl) (by kernel_rfl) (fun _ _ _ h => h) (Or.inl ⟨by rfl, fun w' hw => by (go_simp; try (intro h; omega))⟩) (by assumption) ?_
                    simp only [Act.put, List.setIfInBounds_toArray, List.set_cons_zero, List.set_cons_succ]
                    refine anyH_take (i := 12) (v := (.pointer (some ⟨ob, ooff + k1 * 4, none⟩))) (some 101) rfl rfl (by kernel_rfl) (by kernel_rfl) (by kernel_rfl) (fun _ _ _ h => h) (Or.inl ⟨by rfl, fun w' hw => by (go_simp)⟩) (by assumption) ?_
                    simp only [Act.put, List.setIfInBounds_toArray, List.set_cons_zero, List.set_cons_succ]
                    refine anyH_take (i := 13) (v := .string yn) (some 102) rfl rfl (by kernel_rfl) (by kernel_rfl) (by kernel_rfl) (fun _ _ _ h => h) (Or.inl ⟨by rfl, fun w' hw => by (have hcc := hw.2; go_simp)⟩) (by assumption) ?_
                    simp only [Act.put, List.setIfInBounds_toArray, List.set_cons_zero, List.set_cons_succ]
                    refine anyH_take (i := 14) (v := (.pointer (some ⟨gv, 0, none⟩))) (some 103) rfl rfl (by kernel_rfl) (by kernel_rfl) (by kernel_rfl) (fun _ _ _ h => h) (Or.inl ⟨by rfl, fun w' hw => by (go_simp)⟩) (by assumption) ?_
                    simp only [Act.put, List.setIfInBounds_toArray, List.set_cons_zero, List.set_cons_succ]
                    refine anyH_take (i := 15) (v := .string nmB) (some 104) rfl rfl (by kernel_rfl) (by kernel_rfl) (by kernel_rfl) (fun _ _ _ h => h) (Or.inl ⟨by rfl, fun w' hw => by (have hcc := hw.1; go_simp)⟩) (by assumption) ?_
                    simp only [Act.put, List.setIfInBounds_toArray, List.set_cons_zero, List.set_cons_succ]
                    refine anyH_take (i := 16) (v := .bool true) (some 105) rfl rfl (by kernel_rfl) (by kernel_rfl) (by kernel_rfl) (fun _ _ _ h => h) (Or.inl ⟨by rfl, fun w' hw => by (go_simp)⟩) (by assumption) ?_
                    simp only [Act.put, List.setIfInBounds_toArray, List.set_cons_zero, List.set_cons_succ]
                    refine anyH_take (i := 17) (v := .bool true) (some 106) rfl rfl (by kernel_rfl) (by kernel_rfl) (by kernel_rfl) (fun _ _ _ h => h) (Or.inl ⟨by rfl, fun w' hw => by (go_simp)⟩) (by assumption) ?_
                    simp only [Act.put, List.setIfInBounds_toArray, List.set_cons_zero, List.set_cons_succ]
                    refine anyH_take (i := 18) (v := .bool true) (some 107) rfl rfl (by kernel_rfl) (by kernel_rfl) (by kernel_rfl) (fun _ _ _ h => h) (Or.inl ⟨by rfl, fun w' hw => by (go_simp)⟩) (by assumption) ?_
                    simp only [Act.put, List.setIfInBounds_toArray, List.set_cons_zero, List.set_cons_succ]
                    refine wpAnyH_done (by kernel_rfl) ?_ _
                    go_wp2_with fail
                    go_ret2
                    exact ⟨Below.dN Hbw.out 1, .inl ⟨by rw [HR.out]; exact Hno.out, rfl⟩⟩
                  | true =>
                    refine wp_region_held_drew (S := (fun w' => w'.cell? ⟨gv, 0, none⟩ = some (.string nmB) ∧ w'.cell? ⟨ob, ooff + k1 * 4, none⟩ = some (.string yn))) (by kernel_rfl) ⟨hcg, hcy⟩ (fun hHeld => ?_)
                    refine anyH_take (i := 0) (v := (.pointer (some ⟨gv, 0, none⟩))) (some 89) rfl rfl (by kernel_rfl) (by kernel_rfl) (by kernel_rfl) (fun _ _ _ h => h) (Or.inl ⟨by rfl, fun w' hw => by (go_simp)⟩) (by assumption) ?_
                    simp only [Act.put, List.setIfInBounds_toArray, List.set_cons_zero, List.set_cons_succ]
                    refine anyH_take (i := 1) (v := .string nmB) (some 90) rfl rfl (by kernel_rfl) (by kernel_rfl) (by kernel_rfl) (fun _ _ _ h => h) (Or.inl ⟨by rfl, fun w' hw => by (have hcc := hw.1; go_simp)⟩) (by assumption) ?_
                    simp only [Act.put, List.setIfInBounds_toArray, List.set_cons_zero, List.set_cons_succ]
                    refine wpAnyH_ready (rs := [2]) (by kernel_rfl) (by simp) ?_
                    refine AllReadyH.cons rfl (fun K hK => ?_) AllReadyH.nil
                    go_simp
                    go_at_call 38
                    refine Calls.mono (Hmay.out _ true Hnb.out) ?_
                    rintro e wn ⟨rfl, rfl⟩
                    refine hK.out _ _ ⟨hcg, hcy⟩ (fun hHeldx => ?_)
                    clear hK K
                    try simp only [Act.put, List.setIfInBounds_toArray, List.set_cons_zero, List.set_cons_succ]
                    refine anyH_take (i := 3) (v := .bool false) (some 92) rfl rfl (by kernel_rfl) (by kernel_rfl) (by kernel_rfl) (fun _ _ _ h => h) (Or.inl ⟨by rfl, fun w' hw => by (go_simp)⟩) (by assumption) ?_
                    simp only [Act.put, List.setIfInBounds_toArray, List.set_cons_zero, List.set_cons_succ]
                    refine anyH_take (i := 4) (v := .bool false) (some 93) rfl rfl (by kernel_rfl) (by kernel_rfl) (by kernel_rfl) (fun _ _ _ h => h) (Or.inl ⟨by rfl, fun w' hw => by (go_simp)⟩) (by assumption) ?_
                    simp only [Act.put, List.setIfInBounds_toArray, List.set_cons_zero, List.set_cons_succ]
                    refine anyH_take (i := 5) (v := .int .u64 (k : Nat)) (some 94) rfl rfl (by kernel_rfl) (by kernel_rfl) (by kernel_rfl) (fun _ _ _ h => h) (Or.inl ⟨by rfl, fun w' hw => by (go_simp)⟩) (by assumption) ?_
                    simp only [Act.put, List.setIfInBounds_toArray, List.set_cons_zero, List.set_cons_succ]
                    refine anyH_take (i := 6) (v := .bool true) (some 95) rfl rfl (by kernel_rfl) (by kernel_rfl) (by kernel_rfl) (fun _ _ _ h => h) (Or.inl ⟨by rfl, fun w' hw => by (go_simp; try omega)⟩) (by assumption) ?_
                    simp only [Act.put, List.setIfInBounds_toArray, List.set_cons_zero, List.set_cons_succ]
                    refine anyH_take (i := 7) (v := .bool true) (some 96) rfl rfl (by kernel_rfl) (by kernel_rfl) (by kernel_rfl) (fun _ _ _ h => h) (Or.inl ⟨by rfl, fun w' hw => by (go_simp)⟩) (by assumption) ?_
                    simp only [Act.put, List.setIfInBounds_toArray, List.set_cons_zero, List.set_cons_succ]
                    refine anyH_take (i := 8) (v := .slice (some ⟨ob, ooff, none⟩) k co) (some 97) rfl rfl (by kernel_rfl) (by kernel_rfl) (by kernel_rfl) (fun _ _ _ h => h) (Or.inl ⟨by rfl, fun w' hw => by (go_simp)⟩) (by assumption) ?_
                    simp only [Act.put, List.setIfInBounds_toArray, List.set_cons_zero, List.set_cons_succ]
                    refine anyH_take (i := 9) (v := .int .u64 (k : Nat)) (some 98) rfl rfl (by kernel_rfl) (by kernel_rfl) (by kernel_rfl) (fun _ _ _ h => h) (Or.inl ⟨by rfl, fun w' hw => by (go_simp)⟩) (by assumption) ?_
                    simp only [Act.put, List.setIfInBounds_toArray, List.set_cons_zero, List.set_cons_succ]
                    refine anyH_take (i := 10) (v := .int .u64 (k1 : Nat)) (some 99) rfl rfl (by kernel_rfl) (by kernel_rfl) (by kernel_rfl) (fun _ _ _ h => h) (Or.inl ⟨by rfl, fun w' hw => by (go_simp; try omega)⟩) (by assumption) ?_
                    simp only [Act.put, List.setIfInBounds_toArray, List.set_cons_zero, List.set_cons_succ]
                    refine anyH_take (i := 11) (v := (.pointer (some ⟨ob, ooff + k1 * 4, none⟩))) (some 100) rfl rfl (by kernel_rfl) (by kernel_rfl) (by kernel_rfl) (fun _ _ _ h => h) (Or.inl ⟨by rfl, fun w' hw => by (go_simp; try (intro h; omega))⟩) (by assumption) ?_
                    simp only [Act.put, List.setIfInBounds_toArray, List.set_cons_zero, List.set_cons_succ]
                    refine anyH_take (i := 12) (v := (.pointer (some ⟨ob, ooff + k1 * 4, none⟩))) (some 101) rfl rfl (by kernel_rfl) (by kernel_rfl) (by kernel_rfl) (fun _ _ _ h => h) (Or.inl ⟨by rfl, fun w' hw => by (go_simp)⟩) (by assumption) ?_
                    simp only [Act.put, List.setIfInBounds_toArray, List.set_cons_zero, List.set_cons_succ]
                    refine anyH_take (i := 13) (v := .string yn) (some 102) rfl rfl (by kernel_rfl) (by kernel_rfl) (by kernel_rfl) (fun _ _ _ h => h) (Or.inl ⟨by rfl, fun w' hw => by (have hcc := hw.2; go_simp)⟩) (by assumption) ?_
                    simp only [Act.put, List.setIfInBounds_toArray, List.set_cons_zero, List.set_cons_succ]
                    refine anyH_take (i := 14) (v := (.pointer (some ⟨gv, 0, none⟩))) (some 103) rfl rfl (by kernel_rfl) (by kernel_rfl) (by kernel_rfl) (fun _ _ _ h => h) (Or.inl ⟨by rfl, fun w' hw => by (go_simp)⟩) (by assumption) ?_
                    simp only [Act.put, List.setIfInBounds_toArray, List.set_cons_zero, List.set_cons_succ]
                    refine anyH_take (i := 15) (v := .string nmB) (some 104) rfl rfl (by kernel_rfl) (by kernel_rfl) (by kernel_rfl) (fun _ _ _ h => h) (Or.inl ⟨by rfl, fun w' hw => by (have hcc := hw.1; go_simp)⟩) (by assumption) ?_
                    simp only [Act.put, List.setIfInBounds_toArray, List.set_cons_zero, List.set_cons_succ]
                    refine anyH_take (i := 16) (v := .bool false) (some 105) rfl rfl (by kernel_rfl) (by kernel_rfl) (by kernel_rfl) (fun _ _ _ h => h) (Or.inl ⟨by rfl, fun w' hw => by (go_simp)⟩) (by assumption) ?_
                    simp only [Act.put, List.setIfInBounds_toArray, List.set_cons_zero, List.set_cons_succ]
                    refine anyH_take (i := 17) (v := .bool false) (some 106) rfl rfl (by kernel_rfl) (by kernel_rfl) (by kernel_rfl) (fun _ _ _ h => h) (Or.inl ⟨by rfl, fun w' hw => by (go_simp)⟩) (by assumption) ?_
                    simp only [Act.put, List.setIfInBounds_toArray, List.set_cons_zero, List.set_cons_succ]
                    refine anyH_take (i := 18) (v := .bool false) (some 107) rfl rfl (by kernel_rfl) (by kernel_rfl) (by kernel_rfl) (fun _ _ _ h => h) (Or.inl ⟨by rfl, fun w' hw => by (go_simp)⟩) (by assumption) ?_
                    simp only [Act.put, List.setIfInBounds_toArray, List.set_cons_zero, List.set_cons_succ]
                    refine wpAnyH_done (by kernel_rfl) ?_ _
                    have hXd : Arr wr.drew gv 83 XV := hXX
                    obtain ⟨wb, hwb⟩ : ∃ z, z = (wr.drewN 1).alloc (.cells XV.toArray 83) := ⟨_, rfl⟩
                    have hbb : Below wr.heap.size wr wb := by rw [hwb]; exact (Below.dN (Below.refl _ wr) 1).alloc (Nat.le_refl _) _
                    have hVb := HV.out.up hbb
                    have hAb : Arr wb wr.heap.size 83 XV := by rw [hwb]; exact Arr.new (wr.drewN 1) 83 XV
                    have hbs : q + 1 ≤ wb.heap.size := by have := hbb.size; omega
                    have Hwb := Lib.hid hwb
                    have hokb := Hok.out.keep (G' := fun b => q + 1 ≤ b ∧ (Value.slice (some ⟨ob, ooff, none⟩) k co).ownBlock ≠ some b) hbb.size (fun b _ hlt => hbb.block b hlt) fun _ _ h => h
                    have hlm : xs.length + 1 ≤ 1000000 := by rw [Hlen.out.1]; omega
                    clear hwb
                    go_wp2_with (first
                      | ((with_reducible refine wpList_at 109 (by rfl) ?_); refine wpList_load_row rfl _ _ rfl gv rfl 83 XV.toArray (0, 0) _ hXd Try.underlying83 rfl HXVi.out ?_)
                      | ((with_reducible refine wpList_at 110 (by rfl) ?_); refine wpList_build_vl rfl _ rfl XV HXVl.out rfl ?_; change wpList _ _ _ _ _ ((wr.drewN 1).alloc (.cells XV.toArray 83)); rw [← Hwb.out])
                      | ((with_reducible refine wpList_at 111 (by rfl) ?_); refine wpList_append_vl rfl _ _ rfl hVb hbs rfl ⟨wr.heap.size, 0, none⟩ 1 1 rfl [x] rfl (fun z hz => by rw [List.mem_singleton] at hz; rw [hz]; exact hokb) (one_vl HXV.out hAb) hlm ?_; intro v9 w9 hV9 hg9))
                    have hb9 : Below w.heap.size w w9 := (Hbw.out.trans (hbb.mono Hbw.out.size)).grown hg9 (Nat.le_trans Hbw.out.size hbb.size) fun g hg => by have := (hVb.lt g hg).1; have := Hq.out; omega
                    have hS9 : RSt w9 q b A c s := HS.out.low ⟨Nat.le_trans hbb.size hg9.size, fun i hi => (hg9.block i (by have := HS.out.lt; have := hbb.size; omega) (fun e => by have := (hVb.lt i e.symm).1; omega)).trans (hbb.block i (by have := HS.out.lt; omega))⟩
                    clear hXd hXX hbb hVb hAb hg9 hokb hcg
                    go_wp2_with fail
                    go_roundw
                    case rel => exact ⟨k + 1, xs ++ [x], s, by omega, by go_num, hV9, hS9, Lib.hid ⟨fun h => Hgood.out rfl rfl h, HT.out.2⟩, Lib.hid ⟨by rw [List.length_append, Hlen.out.1]; rfl, fun h => Hli.out.2 h⟩, hb9⟩
                    case measure => (simp [Go.RowKit.intOf]; try omega)
    · obtain rfl : k = N := by omega
      have hd1 : decide ((k : Int) < (k : Int)) = false := by simp
      have hd2 : decide (k < k) = false := by simp
      obtain ⟨A', c', hov, h1, h2, hVat⟩ := hV.slice
      subst hov
      clear hwf hwc
      by_cases hdn : s4.2 = true ∨ 0 < s4.1.length
      · have Hno := Lib.hid (show R = none from by
          cases hs2 : s4.2 with
          | true => exact Hcont.out.2 hs2
          | false =>
            have h := Hcont.out.1 hs2
            rw [Nat.sub_self] at h
            rw [← h]
            exact if_pos hdn)
        have hdf : doneF s4.1 s4.2 = 3 := if_pos hdn
        clear hdn
        go_wp2_with fail
        refine Calls.mono (rdone_fl q s4 wr hS) ?_
        rintro e w5 ⟨rfl, j5, rfl⟩
        rw [hdf]
        clear hdf
        go_wp2_with fail
        go_ret2
        exact ⟨Below.dN hbw j5, .inl ⟨by rw [HR.out]; exact Hno.out, rfl⟩⟩
      · have Hyes := Lib.hid (show R = some (xs.map (·.v)) from by
          have h := Hcont.out.1 (by cases hs2 : s4.2 with | false => rfl | true => exact absurd (.inl hs2) hdn)
          rw [Nat.sub_self] at h
          rw [← h]
          exact if_neg hdn)
        have hdf : doneF s4.1 s4.2 = 0 := if_neg hdn
        clear hdn
        go_wp2_with fail
        refine Calls.mono (rdone_fl q s4 wr hS) ?_
        rintro e w5 ⟨rfl, j5, rfl⟩
        rw [hdf]
        clear hdf
        go_wp2_with fail
        go_ret2
        exact ⟨Below.dN hbw j5, .inr ⟨A', _, c', xs, by rw [HR.out]; exact Hyes.out, rfl, rfl, h1, h2, (hVat.keep (w' := wr) (G' := fun b => w.heap.size ≤ b) (Nat.le_refl _) (fun _ _ _ => rfl) (fun b _ hb => by have := Hq.out; rcases hb with h | h <;> omega)).drewN j5⟩⟩

end Go.Proofs.Ytcajhndhjlfmaaa

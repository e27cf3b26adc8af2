/-
  The laws' call.
-/
import Derived.Test.YtcajhndhjlfmaaaGreatVolRSetAny
namespace Go.Proofs.YtcajhndhjlfmaaaGreat
open Go.RowKit
set_option linter.unusedVariables false
set_option linter.unusedSimpArgs false

/-- What a call leaves: the set, the document's volumes, in blocks of their own. -/
def CallPost (s : Nat) (L1 L2 : List Vol) (x : Cl12) (w : World) (F G : Nat → Prop) (e : Ending) (w' : World) : Prop :=
  ∃ (A' : Option Addr) (n' c' : Nat) (r : Bool) (F' G' : Nat → Prop), e = .returned (.tuple #[.slice A' n' c', .bool r]) ∧ SetL w' F' s (opL L1 x).1 ∧ VSl w' G' A' n' c' (opL L2 x).1 ∧ (∀ b, G' b → ¬ F' b) ∧ (∀ b, F' b → F b ∨ w.heap.size ≤ b) ∧ (∀ b, G' b → G b ∨ w.heap.size ≤ b) ∧ (∀ b, G' b → b < w'.heap.size) ∧ (L1 = L2 → r = true) ∧ Only F w w'
/-- First the document's side, then the set's; then what turns no block of theirs. -/
theorem call_post {s : Nat} {L1 L2 L1' L2' : List Vol} {x : Cl12} {w w1 w2 w4 w5 w' : World} {F G : Nat → Prop} {A' : Option Addr} {n' c' : Nat} {r : Bool} (hF : ∀ b, F b → b < w.heap.size) (hFG : ∀ b, G b → ¬ F b) (hG : ∀ b, G b → b < w.heap.size) (hb1 : Below w.heap.size w w1) (hb2 : Below w1.heap.size w1 w2) (hb4 : Below w2.heap.size w2 w4)
    (hv : VSl w2 (fun b => G b ∨ w1.heap.size ≤ b) A' n' c' L2') (hs : SetL w5 (newF F w4 w5) s L1') (hO : Only F w4 w5) (hR : Only (fun b => w2.heap.size ≤ b ∧ b < w4.heap.size) w5 w') (e1 : (opL L1 x).1 = L1') (e2 : (opL L2 x).1 = L2') (hr : L1 = L2 → r = true) : CallPost s L1 L2 x w F G (.returned (.tuple #[.slice A' n' c', .bool r])) w' := by
  have z1 := hb1.size
  have z2 := hb2.size
  have z4 := hb4.size
  have z5 := hO.size
  have z6 := hR.size
  refine ⟨A', n', c', r, newF F w4 w5, (fun b => (G b ∨ w1.heap.size ≤ b) ∧ b < w2.heap.size), rfl, ?_, ?_, ?_, ?_, ?_, ?_, hr, ?_⟩
  · rw [e1]
    refine hs.only hR fun b hb hr => ?_
    rcases hb with hb | hb
    · have := hF b hb; omega
    · omega
  · rw [e2]
    refine ((hv.tight.below hb4).only hO fun b hb hf => ?_).only hR fun b hb hr => ?_
    · rcases hb.1 with h | h
      · exact hFG b h hf
      · have := hF b hf; omega
    · omega
  · rintro b ⟨hb, hlt⟩ hf
    rcases hf with hf | hf
    · rcases hb with h | h
      · exact hFG b h hf
      · have := hF b hf; omega
    · omega
  · rintro b (hb | hb)
    · exact .inl hb
    · exact .inr (by omega)
  · rintro b ⟨hb | hb, _⟩
    · exact .inl hb
    · exact .inr (by omega)
  · rintro b ⟨_, hb⟩
    omega
  · have o1 : Only F w w4 := ((Only.of_below hb1).step hb2).step hb4
    exact (o1.trans hO).then hR fun i hi => .inr (by omega)
/-- First the set's side, then the document's. -/
theorem call_post2 {s : Nat} {L1 L2 L1' L2' : List Vol} {x : Cl12} {w w1 w2 w3 : World} {F G : Nat → Prop} {A' : Option Addr} {n' c' : Nat} {r : Bool} (hF : ∀ b, F b → b < w.heap.size) (hFG : ∀ b, G b → ¬ F b) (hG : ∀ b, G b → b < w.heap.size) (hb1 : Below w.heap.size w w1)
    (hs : SetL w2 (newF F w1 w2) s L1') (hO : Only F w1 w2) (hb3 : Below w2.heap.size w2 w3) (hv : VSl w3 (fun b => G b ∨ w2.heap.size ≤ b) A' n' c' L2') (e1 : (opL L1 x).1 = L1') (e2 : (opL L2 x).1 = L2') (hr : L1 = L2 → r = true) : CallPost s L1 L2 x w F G (.returned (.tuple #[.slice A' n' c', .bool r])) w3 := by
  have z1 := hb1.size
  have z2 := hO.size
  have z3 := hb3.size
  refine ⟨A', n', c', r, newF F w1 w2, (fun b => (G b ∨ w2.heap.size ≤ b) ∧ b < w3.heap.size), rfl, ?_, ?_, ?_, ?_, ?_, ?_, hr, ?_⟩
  · rw [e1]
    exact hs.below hb3
  · rw [e2]
    exact hv.tight
  · rintro b ⟨hb, hlt⟩ hf
    rcases hf with hf | hf
    · rcases hb with h | h
      · exact hFG b h hf
      · have := hF b hf; omega
    · rcases hb with h | h
      · have := hG b h; omega
      · omega
  · rintro b (hb | hb)
    · exact .inl hb
    · exact .inr (by omega)
  · rintro b ⟨hb | hb, _⟩
    · exact .inl hb
    · exact .inr (by omega)
  · rintro b ⟨_, hb⟩
    exact hb
  · exact ((Only.of_below hb1).trans hO).step hb3
theorem putL_err {L L' : List Vol} {nm : ByteArray} {n : Int} {f o : List UInt8} {b : Bool} {k : Int} (hk : putL L nm n f = (L', o, b, k)) (h0 : k ≠ 0) : o = zeros ∧ b = false := by
  unfold putL at hk
  cases hf : findV L nm with
  | none => rw [hf] at hk; simp only [Prod.mk.injEq] at hk; obtain ⟨rfl, rfl, rfl, rfl⟩ := hk; exact ⟨rfl, rfl⟩
  | some v =>
    rw [hf] at hk
    dsimp only at hk
    split at hk
    · split at hk
      · simp only [Prod.mk.injEq] at hk; obtain ⟨rfl, rfl, rfl, rfl⟩ := hk; exact ⟨rfl, rfl⟩
      · split at hk
        · simp only [Prod.mk.injEq] at hk; obtain ⟨rfl, rfl, rfl, rfl⟩ := hk; exact ⟨rfl, rfl⟩
        · simp only [Prod.mk.injEq] at hk; obtain ⟨rfl, rfl, rfl, rfl⟩ := hk; exact absurd rfl h0
    · simp only [Prod.mk.injEq] at hk; obtain ⟨rfl, rfl, rfl, rfl⟩ := hk; exact ⟨rfl, rfl⟩
theorem dropL_err {L L' : List Vol} {nm : ByteArray} {n : Int} {o : List UInt8} {b : Bool} {k : Int} (hk : dropL L nm n = (L', o, b, k)) (h0 : k ≠ 0) : o = zeros ∧ b = false := by
  unfold dropL at hk
  cases hf : findV L nm with
  | none => rw [hf] at hk; simp only [Prod.mk.injEq] at hk; obtain ⟨rfl, rfl, rfl, rfl⟩ := hk; exact ⟨rfl, rfl⟩
  | some v =>
    rw [hf] at hk
    dsimp only at hk
    split at hk
    · split at hk
      · simp only [Prod.mk.injEq] at hk; obtain ⟨rfl, rfl, rfl, rfl⟩ := hk; exact ⟨rfl, rfl⟩
      · simp only [Prod.mk.injEq] at hk; obtain ⟨rfl, rfl, rfl, rfl⟩ := hk; exact absurd rfl h0
    · simp only [Prod.mk.injEq] at hk; obtain ⟨rfl, rfl, rfl, rfl⟩ := hk; exact ⟨rfl, rfl⟩
theorem dropL_32 {L L' : List Vol} (hok : ∀ v ∈ L, VolOk v) {nm : ByteArray} {n : Int} {o : List UInt8} {b : Bool} {k : Int} (hk : dropL L nm n = (L', o, b, k)) : o.length = 32 := by
  unfold dropL at hk
  cases hf : findV L nm with
  | none => rw [hf] at hk; simp only [Prod.mk.injEq] at hk; obtain ⟨rfl, rfl, rfl, rfl⟩ := hk; rfl
  | some v =>
    rw [hf] at hk
    dsimp only at hk
    split at hk
    · split at hk
      · simp only [Prod.mk.injEq] at hk; obtain ⟨rfl, rfl, rfl, rfl⟩ := hk; rfl
      · simp only [Prod.mk.injEq] at hk; obtain ⟨rfl, rfl, rfl, rfl⟩ := hk; exact atC_length (hok v (findV_mem hf).1) n
    · simp only [Prod.mk.injEq] at hk; obtain ⟨rfl, rfl, rfl, rfl⟩ := hk; rfl

set_option maxHeartbeats 8000000 in
set_option maxRecDepth 100000 in
theorem call12_rest (s : Nat) (A : Option Addr) (n c : Nat) (x : Cl12) (hx : C12Ok x) (VL : List Value) (hVL : VL = c12C x) (w : World) (F G : Nat → Prop) (L1 L2 : List Vol) (h1 : SetL w F s L1) (h2 : VSl w G A n c L2) (hFG : ∀ b, G b → ¬ F b) (hG : ∀ b, G b → b < w.heap.size) (hl1 : L1.length ≤ 100000) (hl2 : L2.length ≤ 100000) (hr2 : RiseV L2) (hok2 : ∀ v ∈ L2, VolOk v) (hw0 : x.what ≠ 0) (hw1' : x.what ≠ 1) : Calls Tryz.prog 7 #[.pointer (some ⟨s, 0, none⟩), .slice A n c, .agg VL.toArray] w (CallPost s L1 L2 x w F G) := by
  obtain ⟨w1, hw1⟩ : ∃ z, z = w.alloc (.cells VL.toArray 31) := ⟨_, rfl⟩
  have hb1 : Below w.heap.size w w1 := by rw [hw1]; exact (Below.refl _ _).alloc (Nat.le_refl _) _
  have hV1 : Arr w1 w.heap.size 31 VL := by rw [hw1]; exact Arr.new w _ VL
  obtain ⟨FL, hFL⟩ : ∃ z, z = Lib.byteCells x.finger := ⟨_, rfl⟩
  have HFi := Lib.hid (show (Tryz.prog.info? 29).map (·.size) = some FL.length by rw [hFL, Lib.byteCells_length, hx.f32]; exact digInfo)
  have Hc : Hid (∀ w', Arr w' w.heap.size 31 VL → (w'.cell? ⟨w.heap.size, 0, none⟩ = some (.int .i64 x.what) ∧ w'.cell? ⟨w.heap.size, 1, none⟩ = some (.string x.name) ∧ w'.cell? ⟨w.heap.size, 2, none⟩ = some (.string x.other) ∧ w'.cell? ⟨w.heap.size, 3, none⟩ = some (.int .i64 x.num) ∧ w'.cell? ⟨w.heap.size, 4, none⟩ = some (.int .i64 x.quota) ∧ w'.cell? ⟨w.heap.size, 5, none⟩ = some (.bool x.frozen)) ∧ w'.rangeAt w.heap.size 6 FL) := fun w' h => ⟨c12_cells h hVL, c12_finger h hVL hFL⟩
  obtain ⟨wh, hwh⟩ : ∃ z, x.what = z := ⟨_, rfl⟩
  rw [hwh] at hw0 hw1'
  obtain ⟨nm, hnm⟩ : ∃ z, x.name = z := ⟨_, rfl⟩
  obtain ⟨ot, hot⟩ : ∃ z, x.other = z := ⟨_, rfl⟩
  obtain ⟨nu, hnu⟩ : ∃ z, x.num = z := ⟨_, rfl⟩
  obtain ⟨qu, hqu⟩ : ∃ z, x.quota = z := ⟨_, rfl⟩
  obtain ⟨fz, hfz⟩ : ∃ z, x.frozen = z := ⟨_, rfl⟩
  rw [hwh, hnm, hot, hnu, hqu, hfz] at Hc
  have Hnm : Hid (nm.size ≤ maxLen) := by rw [← hnm]; exact Lib.hid hx.n1
  have Hot : Hid (ot.size ≤ maxLen) := by rw [← hot]; exact Lib.hid hx.n2
  have Hqu : Hid (-9223372036854775808 ≤ qu ∧ qu ≤ 9223372036854775807) := by rw [← hqu]; exact Lib.hid hx.i2
  have Hop := Lib.hid (fun L => show opL L x = (if wh = 0 then putL L nm nu x.finger else if wh = 1 then dropL L nm nu else if wh = 2 then (let p := createL L nm qu; (p.1, zeros, false, p.2)) else if wh = 3 then (let p := copyL L nm ot qu fz; (p.1, zeros, false, p.2)) else (let p := deleteL L nm; (p.1, zeros, false, p.2))) by unfold opL; rw [hwh, hnm, hot, hnu, hqu, hfz])
  have H32 := Lib.hid hx.f32
  have HFL := Lib.hid hFL
  have HW1 := Lib.hid hw1
  have Hb1 := Lib.hid hb1
  have H1 := Lib.hid h1
  have H2 := Lib.hid (h2.below hb1)
  have HF := Lib.hid h1.lt
  have HFG := Lib.hid hFG
  have HG := Lib.hid hG
  have HV1 := Lib.hid hV1
  have hG1 : Hid (∀ b, G b → b < w1.heap.size) := fun b hb => Nat.lt_of_lt_of_le (hG b hb) hb1.size
  have hz1 := hb1.size
  have hV1lt := hV1.lt
  obtain ⟨⟨p0, p1, p2, p3, p4, p5⟩, p6⟩ := Hc.out w1 hV1
  clear hw1 hb1 hV1 hVL hFL hwh hnm hot hnu hqu hfz h1 h2 hFG hG hx
  have q0 : (wh == 0) = false := by simpa using hw0
  have q1 : (wh == 1) = false := by simpa using hw1'
  have Hw01 := Lib.hid (And.intro hw0 hw1')
  clear hw0 hw1'
  by_cases h2 : wh = 2
  · subst h2
    obtain ⟨L1', k1, hk1⟩ : ∃ L' k', createL L1 nm qu = (L', k') := ⟨_, _, rfl⟩
    obtain ⟨L2', k2, hk2⟩ : ∃ L' k', createL L2 nm qu = (L', k') := ⟨_, _, rfl⟩
    have He1 := Lib.hid (show (opL L1 x).1 = L1' by rw [Hop.out]; simp [hk1])
    have He2 := Lib.hid (show (opL L2 x).1 = L2' by rw [Hop.out]; simp [hk2])
    have Hk1 := Lib.hid hk1
    have Hk2 := Lib.hid hk2
    have Hkk := Lib.hid (show L1 = L2 → k1 = k2 from fun e => by rw [e, hk2] at hk1; injection hk1 with _ h; exact h.symm)
    clear hk1 hk2
    go_enter Tryz.func7, Tryz.ntmps7
    go_upto_region 1 with fail
    change Code.wp _ _ _ _ (w.alloc (.cells VL.toArray 31))
    rw [← HW1.out]
    go_wp2_with fail
    refine Calls.mono (rcreate_any A n c L2 nm Hnm.out qu w1 G H2.out hG1.out hl2 L2' k2 Hk2.out) ?_
    rintro e w2 ⟨A', n', c', rfl, hvs2, hb2⟩
    have HV2 := Lib.hid (HV1.out.up hb2)
    have HS2 := Lib.hid ((H1.out.below Hb1.out).below hb2)
    have Hvs2 := Lib.hid hvs2
    have Hb2 := Lib.hid hb2
    obtain ⟨⟨r0, r1, r2, r3, r4, r5⟩, r6⟩ := Hc.out w2 HV2.out
    clear hvs2 hb2 p0 p1 p2 p3 p4 p5 p6
    go_wp2_with fail
    refine Calls.mono (create_any s nm Hnm.out qu w2 F L1 HS2.out hl1 L1' k1 Hk1.out) ?_
    rintro e w3 ⟨rfl, hS3, hO3⟩
    have HP := Lib.hid (fun (r : Bool) (hr : L1 = L2 → r = true) => call_post (r := r) HF.out HFG.out HG.out Hb1.out Hb2.out (Below.refl _ _) Hvs2.out hS3 hO3 (Only.refl _ w3) He1.out He2.out hr)
    clear hS3 hO3 r0 r1 r2 r3 r4 r5 r6
    go_wp2_with fail
    go_ret2
    exact HP.out _ fun e => by rw [Hkk.out e]; simp
  · have q2 : (wh == 2) = false := by simpa using h2
    by_cases h3 : wh = 3
    · subst h3
      obtain ⟨L1', k1, hk1⟩ : ∃ L' k', copyL L1 nm ot qu fz = (L', k') := ⟨_, _, rfl⟩
      obtain ⟨L2', k2, hk2⟩ : ∃ L' k', copyL L2 nm ot qu fz = (L', k') := ⟨_, _, rfl⟩
      have He1 := Lib.hid (show (opL L1 x).1 = L1' by rw [Hop.out]; simp [hk1])
      have He2 := Lib.hid (show (opL L2 x).1 = L2' by rw [Hop.out]; simp [hk2])
      have Hk1 := Lib.hid hk1
      have Hk2 := Lib.hid hk2
      have Hkk := Lib.hid (show L1 = L2 → k1 = k2 from fun e => by rw [e, hk2] at hk1; injection hk1 with _ h; exact h.symm)
      clear hk1 hk2 h2
      go_enter Tryz.func7, Tryz.ntmps7
      go_upto_region 1 with fail
      change Code.wp _ _ _ _ (w.alloc (.cells VL.toArray 31))
      rw [← HW1.out]
      go_wp2_with fail
      refine Calls.mono (rcopy_any A n c L2 nm ot Hnm.out Hot.out qu fz w1 G H2.out hG1.out hl2 L2' k2 Hk2.out) ?_
      rintro e w2 ⟨A', n', c', rfl, hvs2, hb2⟩
      have HV2 := Lib.hid (HV1.out.up hb2)
      have HS2 := Lib.hid ((H1.out.below Hb1.out).below hb2)
      have Hvs2 := Lib.hid hvs2
      have Hb2 := Lib.hid hb2
      obtain ⟨⟨r0, r1, r2, r3, r4, r5⟩, r6⟩ := Hc.out w2 HV2.out
      clear hvs2 hb2 p0 p1 p2 p3 p4 p5 p6
      go_wp2_with fail
      refine Calls.mono (copy_any s nm ot Hnm.out Hot.out qu Hqu.out.1 Hqu.out.2 fz w2 F L1 HS2.out hl1 L1' k1 Hk1.out) ?_
      rintro e w3 ⟨rfl, hS3, hO3⟩
      have HP := Lib.hid (fun (r : Bool) (hr : L1 = L2 → r = true) => call_post (r := r) HF.out HFG.out HG.out Hb1.out Hb2.out (Below.refl _ _) Hvs2.out hS3 hO3 (Only.refl _ w3) He1.out He2.out hr)
      clear hS3 hO3 r0 r1 r2 r3 r4 r5 r6
      go_wp2_with fail
      go_ret2
      exact HP.out _ fun e => by rw [Hkk.out e]; simp
    · have q3 : (wh == 3) = false := by simpa using h3
      obtain ⟨L1', k1, hk1⟩ : ∃ L' k', deleteL L1 nm = (L', k') := ⟨_, _, rfl⟩
      have He1 := Lib.hid (show (opL L1 x).1 = L1' by rw [Hop.out]; simp [Hw01.out.1, Hw01.out.2, h2, h3, hk1])
      have He2 := Lib.hid (show (opL L2 x).1 = (deleteL L2 nm).1 by rw [Hop.out]; simp [Hw01.out.1, Hw01.out.2, h2, h3])
      have Hk1 := Lib.hid hk1
      have Hkk := Lib.hid (show L1 = L2 → k1 = (deleteL L2 nm).2 from fun e => by rw [← e, hk1])
      clear hk1 h2 h3
      go_enter Tryz.func7, Tryz.ntmps7
      go_upto_region 1 with fail
      change Code.wp _ _ _ _ (w.alloc (.cells VL.toArray 31))
      rw [← HW1.out]
      go_wp2_with fail
      refine Calls.mono (H2.out.find nm Hnm.out) ?_
      rintro e w' ⟨rfl, rfl⟩
      go_wp2_with fail
      refine Calls.mono (delete_any s nm Hnm.out w1 F L1 (H1.out.below Hb1.out) L1' k1 Hk1.out) ?_
      rintro e w2 ⟨rfl, hS2, hO2⟩
      have HO2 := Lib.hid hO2
      have HS2 := Lib.hid hS2
      have Hvs2 := Lib.hid (H2.out.only hO2 HFG.out)
      clear hS2 hO2 p0 p1 p2 p3 p4 p5 p6
      cases hfv : findV L2 nm with
      | none =>
        have hno : hasV L2 nm = false := by rw [hasV_find, hfv]; rfl
        rw [findI_has.2 hno]
        have Hd : Hid (deleteL L2 nm = (L2, 5)) := by unfold deleteL; rw [hno]; rfl
        clear hfv hno
        go_wp2_with fail
        go_ret2
        exact call_post2 HF.out HFG.out HG.out Hb1.out HS2.out HO2.out (Below.refl _ _) (Hvs2.out.more fun b _ h => .inl h) He1.out (by rw [He2.out, Hd.out]) fun e => by rw [Hkk.out e, Hd.out]; simp
      | some v =>
        obtain ⟨i, hi, hLi⟩ := findI_at hfv
        rw [hi]
        have Hd := Lib.hid (show deleteL L2 nm = (L2.take i ++ L2.drop (i + 1), 0) by
          have hyes : hasV L2 nm = true := by rw [hasV_find, hfv]; rfl
          unfold deleteL
          rw [hyes, if_pos rfl, delV_at hr2 hLi (findV_mem hfv).2])
        have hin : i < n := by
          obtain ⟨xs, hxs, hn, _⟩ := H2.out
          have := (List.getElem?_eq_some_iff.1 hLi).1
          rw [← hxs, List.length_map, hn] at this
          exact this
        clear hfv hi hLi
        go_wp2_with fail
        refine Calls.mono (rwithout_any A n c L2 i hin w2 G Hvs2.out (fun b hb => Nat.lt_of_lt_of_le (hG1.out b hb) HO2.out.size) hl2) ?_
        rintro e w3 ⟨A', n', c', rfl, hvs3, hb3⟩
        have Hvs3 := Lib.hid hvs3
        clear hvs3
        go_wp2_with fail
        go_ret2
        exact call_post2 HF.out HFG.out HG.out Hb1.out HS2.out HO2.out hb3 Hvs3.out He1.out (by rw [He2.out, Hd.out]) fun e => by rw [Hkk.out e, Hd.out]; simp

set_option maxHeartbeats 8000000 in
set_option maxRecDepth 100000 in
theorem call12_put (s : Nat) (A : Option Addr) (n c : Nat) (x : Cl12) (hx : C12Ok x) (VL : List Value) (hVL : VL = c12C x) (w : World) (F G : Nat → Prop) (L1 L2 : List Vol) (h1 : SetL w F s L1) (h2 : VSl w G A n c L2) (hFG : ∀ b, G b → ¬ F b) (hG : ∀ b, G b → b < w.heap.size) (hl1 : L1.length ≤ 100000) (hl2 : L2.length ≤ 100000) (hr2 : RiseV L2) (hok2 : ∀ v ∈ L2, VolOk v) (hw0 : x.what = 0) : Calls Tryz.prog 7 #[.pointer (some ⟨s, 0, none⟩), .slice A n c, .agg VL.toArray] w (CallPost s L1 L2 x w F G) := by
  obtain ⟨w1, hw1⟩ : ∃ z, z = w.alloc (.cells VL.toArray 31) := ⟨_, rfl⟩
  have hb1 : Below w.heap.size w w1 := by rw [hw1]; exact (Below.refl _ _).alloc (Nat.le_refl _) _
  have hV1 : Arr w1 w.heap.size 31 VL := by rw [hw1]; exact Arr.new w _ VL
  obtain ⟨FL, hFL⟩ : ∃ z, z = Lib.byteCells x.finger := ⟨_, rfl⟩
  have HFi := Lib.hid (show (Tryz.prog.info? 29).map (·.size) = some FL.length by rw [hFL, Lib.byteCells_length, hx.f32]; exact digInfo)
  have Hc : Hid (∀ w', Arr w' w.heap.size 31 VL → (w'.cell? ⟨w.heap.size, 0, none⟩ = some (.int .i64 x.what) ∧ w'.cell? ⟨w.heap.size, 1, none⟩ = some (.string x.name) ∧ w'.cell? ⟨w.heap.size, 2, none⟩ = some (.string x.other) ∧ w'.cell? ⟨w.heap.size, 3, none⟩ = some (.int .i64 x.num) ∧ w'.cell? ⟨w.heap.size, 4, none⟩ = some (.int .i64 x.quota) ∧ w'.cell? ⟨w.heap.size, 5, none⟩ = some (.bool x.frozen)) ∧ w'.rangeAt w.heap.size 6 FL) := fun w' h => ⟨c12_cells h hVL, c12_finger h hVL hFL⟩
  obtain ⟨wh, hwh⟩ : ∃ z, x.what = z := ⟨_, rfl⟩
  rw [hwh] at hw0
  obtain ⟨nm, hnm⟩ : ∃ z, x.name = z := ⟨_, rfl⟩
  obtain ⟨ot, hot⟩ : ∃ z, x.other = z := ⟨_, rfl⟩
  obtain ⟨nu, hnu⟩ : ∃ z, x.num = z := ⟨_, rfl⟩
  obtain ⟨qu, hqu⟩ : ∃ z, x.quota = z := ⟨_, rfl⟩
  obtain ⟨fz, hfz⟩ : ∃ z, x.frozen = z := ⟨_, rfl⟩
  rw [hwh, hnm, hot, hnu, hqu, hfz] at Hc
  have Hnm : Hid (nm.size ≤ maxLen) := by rw [← hnm]; exact Lib.hid hx.n1
  have Hot : Hid (ot.size ≤ maxLen) := by rw [← hot]; exact Lib.hid hx.n2
  have Hqu : Hid (-9223372036854775808 ≤ qu ∧ qu ≤ 9223372036854775807) := by rw [← hqu]; exact Lib.hid hx.i2
  have Hop := Lib.hid (fun L => show opL L x = (if wh = 0 then putL L nm nu x.finger else if wh = 1 then dropL L nm nu else if wh = 2 then (let p := createL L nm qu; (p.1, zeros, false, p.2)) else if wh = 3 then (let p := copyL L nm ot qu fz; (p.1, zeros, false, p.2)) else (let p := deleteL L nm; (p.1, zeros, false, p.2))) by unfold opL; rw [hwh, hnm, hot, hnu, hqu, hfz])
  have H32 := Lib.hid hx.f32
  have HFL := Lib.hid hFL
  have HW1 := Lib.hid hw1
  have Hb1 := Lib.hid hb1
  have H1 := Lib.hid h1
  have H2 := Lib.hid (h2.below hb1)
  have HF := Lib.hid h1.lt
  have HFG := Lib.hid hFG
  have HG := Lib.hid hG
  have HV1 := Lib.hid hV1
  have hG1 : Hid (∀ b, G b → b < w1.heap.size) := fun b hb => Nat.lt_of_lt_of_le (hG b hb) hb1.size
  have hz1 := hb1.size
  have hV1lt := hV1.lt
  obtain ⟨⟨p0, p1, p2, p3, p4, p5⟩, p6⟩ := Hc.out w1 hV1
  clear hw1 hb1 hV1 hVL hFL hwh hnm hot hnu hqu hfz h1 h2 hFG hG hx
  subst hw0
  obtain ⟨L1', o1, b1, k1, hk1⟩ : ∃ L' o b k, putL L1 nm nu x.finger = (L', o, b, k) := ⟨_, _, _, _, rfl⟩
  obtain ⟨L2', o2, b2, k2, hk2⟩ : ∃ L' o b k, putL L2 nm nu x.finger = (L', o, b, k) := ⟨_, _, _, _, rfl⟩
  have He1 := Lib.hid (show (opL L1 x).1 = L1' by rw [Hop.out]; simp [hk1])
  have He2 := Lib.hid (show (opL L2 x).1 = L2' by rw [Hop.out]; simp [hk2])
  have Hk1 := Lib.hid hk1
  have Hk2 := Lib.hid (show setL L2 nm nu true x.finger = (L2', o2, b2, k2) from hk2)
  have Hkk := Lib.hid (show L1 = L2 → o1 = o2 ∧ b1 = b2 ∧ k1 = k2 from fun e => by rw [e, hk2] at hk1; simp only [Prod.mk.injEq] at hk1; exact ⟨hk1.2.1.symm, hk1.2.2.1.symm, hk1.2.2.2.symm⟩)
  have Herr := Lib.hid (fun h => putL_err hk2 h)
  have h132 : o1.length = 32 := putL_32 H1.out.ok hk1
  have h232 : o2.length = 32 := putL_32 hok2 hk2
  obtain ⟨ZL, hZL⟩ : ∃ ZL, ZL = Lib.byteCells zeros := ⟨_, rfl⟩
  obtain ⟨GL, hGL⟩ : ∃ ZL, ZL = Lib.byteCells o1 := ⟨_, rfl⟩
  obtain ⟨KL, hKL⟩ : ∃ ZL, ZL = Lib.byteCells o2 := ⟨_, rfl⟩
  have HZI := Lib.hid (show (Tryz.prog.info? 29).map (·.size) = some ZL.toArray.size ∧ (Lib.byteCells zeros).toArray.size = ZL.toArray.size by rw [hZL]; exact ⟨by simpa [Lib.byteCells, zeros] using digInfo, rfl⟩)
  have HZ1 := Lib.hid (show ZL.toArray.all (·.oneCell') = true by rw [hZL]; exact dig_one _)
  have HZb := Lib.hid (show Tryz.prog.built 29 [] = some ZL.toArray by rw [hZL]; exact digBuilt)
  have HKI := Lib.hid (show (Tryz.prog.info? 29).map (·.size) = some KL.toArray.size ∧ (Lib.byteCells zeros).toArray.size = KL.toArray.size by rw [hKL, List.size_toArray, List.size_toArray, Lib.byteCells_length, Lib.byteCells_length, h232]; exact ⟨digInfo, rfl⟩)
  have HK1 := Lib.hid (show KL.toArray.all (·.oneCell') = true by rw [hKL]; exact dig_one _)
  have HGI := Lib.hid (show (Tryz.prog.info? 29).map (·.size) = some GL.toArray.size ∧ ZL.toArray.size = GL.toArray.size by rw [hGL, hZL, List.size_toArray, List.size_toArray, Lib.byteCells_length, Lib.byteCells_length, h132]; exact ⟨digInfo, rfl⟩)
  have HG1' := Lib.hid (show GL.toArray.all (·.oneCell') = true by rw [hGL]; exact dig_one _)
  have HKZ := Lib.hid (show KL.toArray.size = ZL.toArray.size by rw [← HKI.out.2, ← HZI.out.2])
  have HcK := Lib.hid (fun w => show (Op.equalIn 10000 29 (.agg GL.toArray) (.agg KL.toArray)).run Tryz.prog w = .ok (decide (o1 = o2)) w from eqv_at Tryz.underlying29 o1 o2 h132 h232 GL KL hGL hKL w)
  have HcZ := Lib.hid (fun w => show (Op.equalIn 10000 29 (.agg GL.toArray) (.agg ZL.toArray)).run Tryz.prog w = .ok (decide (o1 = zeros)) w from eqv_at Tryz.underlying29 o1 zeros h132 rfl GL ZL hGL hZL w)
  have HZL := Lib.hid hZL
  have HGL := Lib.hid hGL
  have HKL := Lib.hid hKL
  clear hk1 hk2 hZL hGL hKL h132 h232
  go_enter Tryz.func7, Tryz.ntmps7
  go_upto_region 1 with fail
  change Code.wp _ _ _ _ (w.alloc (.cells VL.toArray 31))
  rw [← HW1.out]
  go_wp2_with (refine wpList_load_mid rfl _ _ rfl w.heap.size 6 rfl FL _ p6 Tryz.underlying29 rfl HFi.out ?_)
  refine Calls.mono (rset_any A n c L2 nm Hnm.out nu w1 G H2.out hG1.out hl2 hr2 hok2 true x.finger H32.out FL HFL.out L2' o2 b2 k2 Hk2.out KL HKL.out) ?_
  rintro e w2 ⟨A', n', c', rfl, hvs2, hb2⟩
  have hV2 := HV1.out.up hb2
  have Hvs2 := Lib.hid hvs2
  have Hb2 := Lib.hid hb2
  have hz2 := hb2.size
  clear hvs2 hb2 p0 p1 p2 p3 p4 p5 p6
  go_upto_region 5 with (first | (change wpList _ _ _ _ _ (w2.alloc (.cells (Lib.byteCells zeros).toArray 29)); refine wpList_store_row rfl _ _ _ rfl w2.heap.size KL.toArray rfl rfl 29 (Lib.byteCells zeros).toArray (heap_alloc_new w2 _) HKI.out.1 HKI.out.2 HK1.out ?_; obtain ⟨w3, hw3⟩ : ∃ x, x = (w2.alloc (.cells (Lib.byteCells zeros).toArray 29)).setRow w2.heap.size KL.toArray := ⟨_, rfl⟩; rw [← hw3]; obtain ⟨hP3, hb3⟩ := alloc_row w2 29 (Lib.byteCells zeros).toArray KL; rw [← hw3] at hP3 hb3; clear hw3))
  have hV3 := hV2.up hb3
  have hlt3 : w2.heap.size < w3.heap.size := hP3.lt
  go_upto_region 6 with (first | (refine wpList_builtV rfl _ _ rfl [] rfl ZL.toArray HZb.out ?_) | (change wpList _ _ _ _ _ (w3.alloc (.cells (Lib.byteCells zeros).toArray 29)); refine wpList_store_row rfl _ _ _ rfl w3.heap.size ZL.toArray rfl rfl 29 (Lib.byteCells zeros).toArray (heap_alloc_new w3 _) HZI.out.1 HZI.out.2 HZ1.out ?_; obtain ⟨w4, hw4⟩ : ∃ x, x = (w3.alloc (.cells (Lib.byteCells zeros).toArray 29)).setRow w3.heap.size ZL.toArray := ⟨_, rfl⟩; rw [← hw4]; obtain ⟨hP4, hb4⟩ := alloc_row w3 29 (Lib.byteCells zeros).toArray ZL; rw [← hw4] at hP4 hb4; clear hw4))
  have hV4 := hV3.up hb4
  have hP34 := hP3.up hb4
  have hlt4 : w3.heap.size < w4.heap.size := hP4.lt
  have Hb4 := Lib.hid (hb3.trans (hb4.mono hb3.size))
  have HS4 := Lib.hid (((H1.out.below Hb1.out).below Hb2.out).below Hb4.out)
  obtain ⟨⟨p0, p1, p2, p3, p4, p5⟩, p6⟩ := Hc.out w4 hV4
  clear hV2 hV3 hV4 hb3 hb4 hP3
  go_wp2_with (first | (refine wpList_load_mid rfl _ _ rfl w.heap.size 6 rfl FL _ p6 Tryz.underlying29 rfl HFi.out ?_))
  refine Calls.mono (put_any s nm Hnm.out nu w4 F L1 HS4.out x.finger H32.out FL HFL.out L1' o1 b1 k1 Hk1.out GL HGL.out) ?_
  rintro e w5 ⟨rfl, hS5, hO5⟩
  have hP5 : Arr w5 w3.heap.size 29 ZL := hP4.only hO5 fun h => by have := HF.out _ h; omega
  have hQ5 : Arr w5 w2.heap.size 29 KL := hP34.only hO5 fun h => by have := HF.out _ h; omega
  have HS5 := Lib.hid hS5
  have HO5 := Lib.hid hO5
  clear hS5 hO5 p0 p1 p2 p3 p4 p5 p6 hP4 hP34
  go_upto_region 9 with (first | (refine wpList_store_row rfl _ _ _ rfl w3.heap.size GL.toArray rfl rfl 29 ZL.toArray hP5 HGI.out.1 HGI.out.2 HG1'.out ?_))
  have hR6 := hP5.setRow GL
  have hQ6 := hQ5.rowOther (k := w3.heap.size) (by omega) GL.toArray
  have HO6 := Lib.hid ((Only.refl (fun b => w2.heap.size ≤ b ∧ b < w4.heap.size) w5).setRow (g := w3.heap.size) (.inl ⟨by omega, hlt4⟩) GL.toArray)
  obtain ⟨w6, hw6⟩ : ∃ z, z = w5.setRow w3.heap.size GL.toArray := ⟨_, rfl⟩
  rw [← hw6] at hR6 hQ6 HO6 ⊢
  clear hw6 hP5 hQ5
  have hgt : Tryz.prog.eqGuardType Tryz.prog.depth 29 = false := gt32
  have HP := Lib.hid (fun (w' : World) (r : Bool) (hO : Only (fun b => w2.heap.size ≤ b ∧ b < w4.heap.size) w6 w') (hr : L1 = L2 → r = true) => call_post (r := r) HF.out HFG.out HG.out Hb1.out Hb2.out Hb4.out Hvs2.out HS5.out HO5.out (HO6.out.trans hO) He1.out He2.out hr)
  by_cases hk0 : k2 = 0
  · subst hk0
    have hcmp := HcK.out
    obtain ⟨ro, hro⟩ : ∃ z, decide (o1 = o2) = z := ⟨_, rfl⟩
    rw [hro] at hcmp
    have Hro := Lib.hid hro
    clear hro
    go_upto_region 11 with fail
    have hend : ∀ e : L1 = L2, ro = true ∧ b1 = b2 ∧ k1 = 0 := fun e => ⟨by rw [← Hro.out, (Hkk.out e).1]; simp, (Hkk.out e).2.1, (Hkk.out e).2.2⟩
    have Hend := Lib.hid hend
    clear hend
    cases ro with
    | false =>
      go_wp2_with (first | (refine wpList_load_row rfl _ _ rfl w3.heap.size rfl 29 GL.toArray (0, 0) _ hR6 Tryz.underlying29 rfl HGI.out.1 ?_) | (refine wpList_load_row rfl _ _ rfl w2.heap.size rfl 29 KL.toArray (0, 0) _ hQ6 Tryz.underlying29 rfl HKI.out.1 ?_))
      go_ret2
      exact HP.out _ _ (Only.refl _ _) fun e => by have := (Hend.out e).1; cases this
    | true =>
      by_cases hbb : b1 = b2
      · have qb : (b1 == b2) = true := by rw [hbb]; simp
        by_cases hkk : k1 = 0
        · have qk : (k1 == 0) = true := by rw [hkk]; simp
          clear hbb hkk
          go_wp2_with (first | (refine wpList_load_row rfl _ _ rfl w3.heap.size rfl 29 GL.toArray (0, 0) _ hR6 Tryz.underlying29 rfl HGI.out.1 ?_) | (refine wpList_load_row rfl _ _ rfl w2.heap.size rfl 29 KL.toArray (0, 0) _ hQ6 Tryz.underlying29 rfl HKI.out.1 ?_))
          go_ret2
          exact HP.out _ _ (Only.refl _ _) fun e => by rfl
        · have qk : (k1 == 0) = false := by simpa using hkk
          have Hkk2 := Lib.hid hkk
          clear hbb hkk
          go_wp2_with (first | (refine wpList_load_row rfl _ _ rfl w3.heap.size rfl 29 GL.toArray (0, 0) _ hR6 Tryz.underlying29 rfl HGI.out.1 ?_) | (refine wpList_load_row rfl _ _ rfl w2.heap.size rfl 29 KL.toArray (0, 0) _ hQ6 Tryz.underlying29 rfl HKI.out.1 ?_))
          go_ret2
          exact HP.out _ _ (Only.refl _ _) fun e => by exact absurd (Hend.out e).2.2 Hkk2.out
      · have qb : (b1 == b2) = false := by simpa using hbb
        have Hbb2 := Lib.hid hbb
        clear hbb
        go_wp2_with (first | (refine wpList_load_row rfl _ _ rfl w3.heap.size rfl 29 GL.toArray (0, 0) _ hR6 Tryz.underlying29 rfl HGI.out.1 ?_) | (refine wpList_load_row rfl _ _ rfl w2.heap.size rfl 29 KL.toArray (0, 0) _ hQ6 Tryz.underlying29 rfl HKI.out.1 ?_))
        go_ret2
        exact HP.out _ _ (Only.refl _ _) fun e => by exact absurd (Hend.out e).2.1 Hbb2.out
  · have q0 : (k2 != 0) = true := by simpa using hk0
    have q1 : (k2 == 0) = false := by simpa using hk0
    have hoz := Herr.out hk0
    have hcmp := HcZ.out
    obtain ⟨ro, hro⟩ : ∃ z, decide (o1 = zeros) = z := ⟨_, rfl⟩
    rw [hro] at hcmp
    have Hend := Lib.hid (show ∀ e : L1 = L2, ro = true ∧ b1 = false ∧ k1 = k2 from fun e => ⟨by rw [← hro, (Hkk.out e).1, hoz.1]; simp, by rw [(Hkk.out e).2.1]; exact hoz.2, (Hkk.out e).2.2⟩)
    clear hro hoz hk0
    go_upto_region 11 with (first | (refine wpList_builtV rfl _ _ rfl [] rfl ZL.toArray HZb.out ?_) | (refine wpList_store_row rfl _ _ _ rfl w2.heap.size ZL.toArray rfl rfl 29 KL.toArray hQ6 HZI.out.1 HKZ.out HZ1.out ?_))
    have hR7 := hR6.rowOther (k := w2.heap.size) (by omega) ZL.toArray
    have hQ7 := hQ6.setRow ZL
    have HO7 := Lib.hid ((Only.refl (fun b => w2.heap.size ≤ b ∧ b < w4.heap.size) w6).setRow (g := w2.heap.size) (.inl ⟨by omega, by omega⟩) ZL.toArray)
    obtain ⟨w7, hw7⟩ : ∃ z, z = w6.setRow w2.heap.size ZL.toArray := ⟨_, rfl⟩
    rw [← hw7] at hR7 hQ7 HO7 ⊢
    clear hw7 hR6 hQ6 q0 q1
    cases ro with
    | false =>
      go_wp2_with (first | (refine wpList_load_row rfl _ _ rfl w3.heap.size rfl 29 GL.toArray (0, 0) _ hR7 Tryz.underlying29 rfl HGI.out.1 ?_) | (refine wpList_load_row rfl _ _ rfl w2.heap.size rfl 29 ZL.toArray (0, 0) _ hQ7 Tryz.underlying29 rfl HZI.out.1 ?_))
      go_ret2
      exact HP.out _ _ HO7.out fun e => by have := (Hend.out e).1; cases this
    | true =>
      by_cases hbb : b1 = false
      · have qb : (b1 == false) = true := by rw [hbb]; simp
        by_cases hkk : k1 = k2
        · have qk : (k1 == k2) = true := by rw [hkk]; simp
          clear hbb hkk
          go_wp2_with (first | (refine wpList_load_row rfl _ _ rfl w3.heap.size rfl 29 GL.toArray (0, 0) _ hR7 Tryz.underlying29 rfl HGI.out.1 ?_) | (refine wpList_load_row rfl _ _ rfl w2.heap.size rfl 29 ZL.toArray (0, 0) _ hQ7 Tryz.underlying29 rfl HZI.out.1 ?_))
          go_ret2
          exact HP.out _ _ HO7.out fun e => by rfl
        · have qk : (k1 == k2) = false := by simpa using hkk
          have Hkk2 := Lib.hid hkk
          clear hbb hkk
          go_wp2_with (first | (refine wpList_load_row rfl _ _ rfl w3.heap.size rfl 29 GL.toArray (0, 0) _ hR7 Tryz.underlying29 rfl HGI.out.1 ?_) | (refine wpList_load_row rfl _ _ rfl w2.heap.size rfl 29 ZL.toArray (0, 0) _ hQ7 Tryz.underlying29 rfl HZI.out.1 ?_))
          go_ret2
          exact HP.out _ _ HO7.out fun e => by exact absurd (Hend.out e).2.2 Hkk2.out
      · have qb : (b1 == false) = false := by simpa using hbb
        have Hbb2 := Lib.hid hbb
        clear hbb
        go_wp2_with (first | (refine wpList_load_row rfl _ _ rfl w3.heap.size rfl 29 GL.toArray (0, 0) _ hR7 Tryz.underlying29 rfl HGI.out.1 ?_) | (refine wpList_load_row rfl _ _ rfl w2.heap.size rfl 29 ZL.toArray (0, 0) _ hQ7 Tryz.underlying29 rfl HZI.out.1 ?_))
        go_ret2
        exact HP.out _ _ HO7.out fun e => by exact absurd (Hend.out e).2.1 Hbb2.out

set_option maxHeartbeats 8000000 in
set_option maxRecDepth 100000 in
theorem call12_drop (s : Nat) (A : Option Addr) (n c : Nat) (x : Cl12) (hx : C12Ok x) (VL : List Value) (hVL : VL = c12C x) (w : World) (F G : Nat → Prop) (L1 L2 : List Vol) (h1 : SetL w F s L1) (h2 : VSl w G A n c L2) (hFG : ∀ b, G b → ¬ F b) (hG : ∀ b, G b → b < w.heap.size) (hl1 : L1.length ≤ 100000) (hl2 : L2.length ≤ 100000) (hr2 : RiseV L2) (hok2 : ∀ v ∈ L2, VolOk v) (hw0 : x.what = 1) : Calls Tryz.prog 7 #[.pointer (some ⟨s, 0, none⟩), .slice A n c, .agg VL.toArray] w (CallPost s L1 L2 x w F G) := by
  obtain ⟨w1, hw1⟩ : ∃ z, z = w.alloc (.cells VL.toArray 31) := ⟨_, rfl⟩
  have hb1 : Below w.heap.size w w1 := by rw [hw1]; exact (Below.refl _ _).alloc (Nat.le_refl _) _
  have hV1 : Arr w1 w.heap.size 31 VL := by rw [hw1]; exact Arr.new w _ VL
  obtain ⟨FL, hFL⟩ : ∃ z, z = Lib.byteCells x.finger := ⟨_, rfl⟩
  have HFi := Lib.hid (show (Tryz.prog.info? 29).map (·.size) = some FL.length by rw [hFL, Lib.byteCells_length, hx.f32]; exact digInfo)
  have Hc : Hid (∀ w', Arr w' w.heap.size 31 VL → (w'.cell? ⟨w.heap.size, 0, none⟩ = some (.int .i64 x.what) ∧ w'.cell? ⟨w.heap.size, 1, none⟩ = some (.string x.name) ∧ w'.cell? ⟨w.heap.size, 2, none⟩ = some (.string x.other) ∧ w'.cell? ⟨w.heap.size, 3, none⟩ = some (.int .i64 x.num) ∧ w'.cell? ⟨w.heap.size, 4, none⟩ = some (.int .i64 x.quota) ∧ w'.cell? ⟨w.heap.size, 5, none⟩ = some (.bool x.frozen)) ∧ w'.rangeAt w.heap.size 6 FL) := fun w' h => ⟨c12_cells h hVL, c12_finger h hVL hFL⟩
  obtain ⟨wh, hwh⟩ : ∃ z, x.what = z := ⟨_, rfl⟩
  rw [hwh] at hw0
  obtain ⟨nm, hnm⟩ : ∃ z, x.name = z := ⟨_, rfl⟩
  obtain ⟨ot, hot⟩ : ∃ z, x.other = z := ⟨_, rfl⟩
  obtain ⟨nu, hnu⟩ : ∃ z, x.num = z := ⟨_, rfl⟩
  obtain ⟨qu, hqu⟩ : ∃ z, x.quota = z := ⟨_, rfl⟩
  obtain ⟨fz, hfz⟩ : ∃ z, x.frozen = z := ⟨_, rfl⟩
  rw [hwh, hnm, hot, hnu, hqu, hfz] at Hc
  have Hnm : Hid (nm.size ≤ maxLen) := by rw [← hnm]; exact Lib.hid hx.n1
  have Hot : Hid (ot.size ≤ maxLen) := by rw [← hot]; exact Lib.hid hx.n2
  have Hqu : Hid (-9223372036854775808 ≤ qu ∧ qu ≤ 9223372036854775807) := by rw [← hqu]; exact Lib.hid hx.i2
  have Hop := Lib.hid (fun L => show opL L x = (if wh = 0 then putL L nm nu x.finger else if wh = 1 then dropL L nm nu else if wh = 2 then (let p := createL L nm qu; (p.1, zeros, false, p.2)) else if wh = 3 then (let p := copyL L nm ot qu fz; (p.1, zeros, false, p.2)) else (let p := deleteL L nm; (p.1, zeros, false, p.2))) by unfold opL; rw [hwh, hnm, hot, hnu, hqu, hfz])
  have H32 := Lib.hid hx.f32
  have HFL := Lib.hid hFL
  have HW1 := Lib.hid hw1
  have Hb1 := Lib.hid hb1
  have H1 := Lib.hid h1
  have H2 := Lib.hid (h2.below hb1)
  have HF := Lib.hid h1.lt
  have HFG := Lib.hid hFG
  have HG := Lib.hid hG
  have HV1 := Lib.hid hV1
  have hG1 : Hid (∀ b, G b → b < w1.heap.size) := fun b hb => Nat.lt_of_lt_of_le (hG b hb) hb1.size
  have hz1 := hb1.size
  have hV1lt := hV1.lt
  obtain ⟨⟨p0, p1, p2, p3, p4, p5⟩, p6⟩ := Hc.out w1 hV1
  clear hw1 hb1 hV1 hVL hFL hwh hnm hot hnu hqu hfz h1 h2 hFG hG hx
  subst hw0
  obtain ⟨L1', o1, b1, k1, hk1⟩ : ∃ L' o b k, dropL L1 nm nu = (L', o, b, k) := ⟨_, _, _, _, rfl⟩
  obtain ⟨L2', o2, b2, k2, hk2⟩ : ∃ L' o b k, dropL L2 nm nu = (L', o, b, k) := ⟨_, _, _, _, rfl⟩
  have He1 := Lib.hid (show (opL L1 x).1 = L1' by rw [Hop.out]; simp [hk1])
  have He2 := Lib.hid (show (opL L2 x).1 = L2' by rw [Hop.out]; simp [hk2])
  have Hk1 := Lib.hid hk1
  have Hk2 := Lib.hid (show setL L2 nm nu false x.finger = (L2', o2, b2, k2) from hk2)
  have Hkk := Lib.hid (show L1 = L2 → o1 = o2 ∧ b1 = b2 ∧ k1 = k2 from fun e => by rw [e, hk2] at hk1; simp only [Prod.mk.injEq] at hk1; exact ⟨hk1.2.1.symm, hk1.2.2.1.symm, hk1.2.2.2.symm⟩)
  have Herr := Lib.hid (fun h => dropL_err hk2 h)
  have h132 : o1.length = 32 := dropL_32 H1.out.ok hk1
  have h232 : o2.length = 32 := dropL_32 hok2 hk2
  obtain ⟨ZL, hZL⟩ : ∃ ZL, ZL = Lib.byteCells zeros := ⟨_, rfl⟩
  obtain ⟨GL, hGL⟩ : ∃ ZL, ZL = Lib.byteCells o1 := ⟨_, rfl⟩
  obtain ⟨KL, hKL⟩ : ∃ ZL, ZL = Lib.byteCells o2 := ⟨_, rfl⟩
  have HZI := Lib.hid (show (Tryz.prog.info? 29).map (·.size) = some ZL.toArray.size ∧ (Lib.byteCells zeros).toArray.size = ZL.toArray.size by rw [hZL]; exact ⟨by simpa [Lib.byteCells, zeros] using digInfo, rfl⟩)
  have HZ1 := Lib.hid (show ZL.toArray.all (·.oneCell') = true by rw [hZL]; exact dig_one _)
  have HZb := Lib.hid (show Tryz.prog.built 29 [] = some ZL.toArray by rw [hZL]; exact digBuilt)
  have HKI := Lib.hid (show (Tryz.prog.info? 29).map (·.size) = some KL.toArray.size ∧ (Lib.byteCells zeros).toArray.size = KL.toArray.size by rw [hKL, List.size_toArray, List.size_toArray, Lib.byteCells_length, Lib.byteCells_length, h232]; exact ⟨digInfo, rfl⟩)
  have HK1 := Lib.hid (show KL.toArray.all (·.oneCell') = true by rw [hKL]; exact dig_one _)
  have HGI := Lib.hid (show (Tryz.prog.info? 29).map (·.size) = some GL.toArray.size ∧ ZL.toArray.size = GL.toArray.size by rw [hGL, hZL, List.size_toArray, List.size_toArray, Lib.byteCells_length, Lib.byteCells_length, h132]; exact ⟨digInfo, rfl⟩)
  have HG1' := Lib.hid (show GL.toArray.all (·.oneCell') = true by rw [hGL]; exact dig_one _)
  have HKZ := Lib.hid (show KL.toArray.size = ZL.toArray.size by rw [← HKI.out.2, ← HZI.out.2])
  have HcK := Lib.hid (fun w => show (Op.equalIn 10000 29 (.agg GL.toArray) (.agg KL.toArray)).run Tryz.prog w = .ok (decide (o1 = o2)) w from eqv_at Tryz.underlying29 o1 o2 h132 h232 GL KL hGL hKL w)
  have HcZ := Lib.hid (fun w => show (Op.equalIn 10000 29 (.agg GL.toArray) (.agg ZL.toArray)).run Tryz.prog w = .ok (decide (o1 = zeros)) w from eqv_at Tryz.underlying29 o1 zeros h132 rfl GL ZL hGL hZL w)
  have HZL := Lib.hid hZL
  have HGL := Lib.hid hGL
  have HKL := Lib.hid hKL
  clear hk1 hk2 hZL hGL hKL h132 h232
  go_enter Tryz.func7, Tryz.ntmps7
  go_upto_region 1 with fail
  change Code.wp _ _ _ _ (w.alloc (.cells VL.toArray 31))
  rw [← HW1.out]
  go_wp2_with (refine wpList_load_mid rfl _ _ rfl w.heap.size 6 rfl FL _ p6 Tryz.underlying29 rfl HFi.out ?_)
  refine Calls.mono (rset_any A n c L2 nm Hnm.out nu w1 G H2.out hG1.out hl2 hr2 hok2 false x.finger H32.out FL HFL.out L2' o2 b2 k2 Hk2.out KL HKL.out) ?_
  rintro e w2 ⟨A', n', c', rfl, hvs2, hb2⟩
  have hV2 := HV1.out.up hb2
  have Hvs2 := Lib.hid hvs2
  have Hb2 := Lib.hid hb2
  have hz2 := hb2.size
  clear hvs2 hb2 p0 p1 p2 p3 p4 p5 p6
  go_upto_region 5 with (first | (change wpList _ _ _ _ _ (w2.alloc (.cells (Lib.byteCells zeros).toArray 29)); refine wpList_store_row rfl _ _ _ rfl w2.heap.size KL.toArray rfl rfl 29 (Lib.byteCells zeros).toArray (heap_alloc_new w2 _) HKI.out.1 HKI.out.2 HK1.out ?_; obtain ⟨w3, hw3⟩ : ∃ x, x = (w2.alloc (.cells (Lib.byteCells zeros).toArray 29)).setRow w2.heap.size KL.toArray := ⟨_, rfl⟩; rw [← hw3]; obtain ⟨hP3, hb3⟩ := alloc_row w2 29 (Lib.byteCells zeros).toArray KL; rw [← hw3] at hP3 hb3; clear hw3))
  have hV3 := hV2.up hb3
  have hlt3 : w2.heap.size < w3.heap.size := hP3.lt
  go_upto_region 6 with (first | (refine wpList_builtV rfl _ _ rfl [] rfl ZL.toArray HZb.out ?_) | (change wpList _ _ _ _ _ (w3.alloc (.cells (Lib.byteCells zeros).toArray 29)); refine wpList_store_row rfl _ _ _ rfl w3.heap.size ZL.toArray rfl rfl 29 (Lib.byteCells zeros).toArray (heap_alloc_new w3 _) HZI.out.1 HZI.out.2 HZ1.out ?_; obtain ⟨w4, hw4⟩ : ∃ x, x = (w3.alloc (.cells (Lib.byteCells zeros).toArray 29)).setRow w3.heap.size ZL.toArray := ⟨_, rfl⟩; rw [← hw4]; obtain ⟨hP4, hb4⟩ := alloc_row w3 29 (Lib.byteCells zeros).toArray ZL; rw [← hw4] at hP4 hb4; clear hw4))
  have hV4 := hV3.up hb4
  have hP34 := hP3.up hb4
  have hlt4 : w3.heap.size < w4.heap.size := hP4.lt
  have Hb4 := Lib.hid (hb3.trans (hb4.mono hb3.size))
  have HS4 := Lib.hid (((H1.out.below Hb1.out).below Hb2.out).below Hb4.out)
  obtain ⟨⟨p0, p1, p2, p3, p4, p5⟩, p6⟩ := Hc.out w4 hV4
  clear hV2 hV3 hV4 hb3 hb4 hP3
  go_wp2_with (first | (refine wpList_load_mid rfl _ _ rfl w.heap.size 6 rfl FL _ p6 Tryz.underlying29 rfl HFi.out ?_))
  refine Calls.mono (drop_any s nm Hnm.out nu w4 F L1 HS4.out L1' o1 b1 k1 Hk1.out GL HGL.out) ?_
  rintro e w5 ⟨rfl, hS5, hO5⟩
  have hP5 : Arr w5 w3.heap.size 29 ZL := hP4.only hO5 fun h => by have := HF.out _ h; omega
  have hQ5 : Arr w5 w2.heap.size 29 KL := hP34.only hO5 fun h => by have := HF.out _ h; omega
  have HS5 := Lib.hid hS5
  have HO5 := Lib.hid hO5
  clear hS5 hO5 p0 p1 p2 p3 p4 p5 p6 hP4 hP34
  go_upto_region 9 with (first | (refine wpList_store_row rfl _ _ _ rfl w3.heap.size GL.toArray rfl rfl 29 ZL.toArray hP5 HGI.out.1 HGI.out.2 HG1'.out ?_))
  have hR6 := hP5.setRow GL
  have hQ6 := hQ5.rowOther (k := w3.heap.size) (by omega) GL.toArray
  have HO6 := Lib.hid ((Only.refl (fun b => w2.heap.size ≤ b ∧ b < w4.heap.size) w5).setRow (g := w3.heap.size) (.inl ⟨by omega, hlt4⟩) GL.toArray)
  obtain ⟨w6, hw6⟩ : ∃ z, z = w5.setRow w3.heap.size GL.toArray := ⟨_, rfl⟩
  rw [← hw6] at hR6 hQ6 HO6 ⊢
  clear hw6 hP5 hQ5
  have hgt : Tryz.prog.eqGuardType Tryz.prog.depth 29 = false := gt32
  have HP := Lib.hid (fun (w' : World) (r : Bool) (hO : Only (fun b => w2.heap.size ≤ b ∧ b < w4.heap.size) w6 w') (hr : L1 = L2 → r = true) => call_post (r := r) HF.out HFG.out HG.out Hb1.out Hb2.out Hb4.out Hvs2.out HS5.out HO5.out (HO6.out.trans hO) He1.out He2.out hr)
  by_cases hk0 : k2 = 0
  · subst hk0
    have hcmp := HcK.out
    obtain ⟨ro, hro⟩ : ∃ z, decide (o1 = o2) = z := ⟨_, rfl⟩
    rw [hro] at hcmp
    have Hro := Lib.hid hro
    clear hro
    go_upto_region 11 with fail
    have hend : ∀ e : L1 = L2, ro = true ∧ b1 = b2 ∧ k1 = 0 := fun e => ⟨by rw [← Hro.out, (Hkk.out e).1]; simp, (Hkk.out e).2.1, (Hkk.out e).2.2⟩
    have Hend := Lib.hid hend
    clear hend
    cases ro with
    | false =>
      go_wp2_with (first | (refine wpList_load_row rfl _ _ rfl w3.heap.size rfl 29 GL.toArray (0, 0) _ hR6 Tryz.underlying29 rfl HGI.out.1 ?_) | (refine wpList_load_row rfl _ _ rfl w2.heap.size rfl 29 KL.toArray (0, 0) _ hQ6 Tryz.underlying29 rfl HKI.out.1 ?_))
      go_ret2
      exact HP.out _ _ (Only.refl _ _) fun e => by have := (Hend.out e).1; cases this
    | true =>
      by_cases hbb : b1 = b2
      · have qb : (b1 == b2) = true := by rw [hbb]; simp
        by_cases hkk : k1 = 0
        · have qk : (k1 == 0) = true := by rw [hkk]; simp
          clear hbb hkk
          go_wp2_with (first | (refine wpList_load_row rfl _ _ rfl w3.heap.size rfl 29 GL.toArray (0, 0) _ hR6 Tryz.underlying29 rfl HGI.out.1 ?_) | (refine wpList_load_row rfl _ _ rfl w2.heap.size rfl 29 KL.toArray (0, 0) _ hQ6 Tryz.underlying29 rfl HKI.out.1 ?_))
          go_ret2
          exact HP.out _ _ (Only.refl _ _) fun e => by rfl
        · have qk : (k1 == 0) = false := by simpa using hkk
          have Hkk2 := Lib.hid hkk
          clear hbb hkk
          go_wp2_with (first | (refine wpList_load_row rfl _ _ rfl w3.heap.size rfl 29 GL.toArray (0, 0) _ hR6 Tryz.underlying29 rfl HGI.out.1 ?_) | (refine wpList_load_row rfl _ _ rfl w2.heap.size rfl 29 KL.toArray (0, 0) _ hQ6 Tryz.underlying29 rfl HKI.out.1 ?_))
          go_ret2
          exact HP.out _ _ (Only.refl _ _) fun e => by exact absurd (Hend.out e).2.2 Hkk2.out
      · have qb : (b1 == b2) = false := by simpa using hbb
        have Hbb2 := Lib.hid hbb
        clear hbb
        go_wp2_with (first | (refine wpList_load_row rfl _ _ rfl w3.heap.size rfl 29 GL.toArray (0, 0) _ hR6 Tryz.underlying29 rfl HGI.out.1 ?_) | (refine wpList_load_row rfl _ _ rfl w2.heap.size rfl 29 KL.toArray (0, 0) _ hQ6 Tryz.underlying29 rfl HKI.out.1 ?_))
        go_ret2
        exact HP.out _ _ (Only.refl _ _) fun e => by exact absurd (Hend.out e).2.1 Hbb2.out
  · have q0 : (k2 != 0) = true := by simpa using hk0
    have q1 : (k2 == 0) = false := by simpa using hk0
    have hoz := Herr.out hk0
    have hcmp := HcZ.out
    obtain ⟨ro, hro⟩ : ∃ z, decide (o1 = zeros) = z := ⟨_, rfl⟩
    rw [hro] at hcmp
    have Hend := Lib.hid (show ∀ e : L1 = L2, ro = true ∧ b1 = false ∧ k1 = k2 from fun e => ⟨by rw [← hro, (Hkk.out e).1, hoz.1]; simp, by rw [(Hkk.out e).2.1]; exact hoz.2, (Hkk.out e).2.2⟩)
    clear hro hoz hk0
    go_upto_region 11 with (first | (refine wpList_builtV rfl _ _ rfl [] rfl ZL.toArray HZb.out ?_) | (refine wpList_store_row rfl _ _ _ rfl w2.heap.size ZL.toArray rfl rfl 29 KL.toArray hQ6 HZI.out.1 HKZ.out HZ1.out ?_))
    have hR7 := hR6.rowOther (k := w2.heap.size) (by omega) ZL.toArray
    have hQ7 := hQ6.setRow ZL
    have HO7 := Lib.hid ((Only.refl (fun b => w2.heap.size ≤ b ∧ b < w4.heap.size) w6).setRow (g := w2.heap.size) (.inl ⟨by omega, by omega⟩) ZL.toArray)
    obtain ⟨w7, hw7⟩ : ∃ z, z = w6.setRow w2.heap.size ZL.toArray := ⟨_, rfl⟩
    rw [← hw7] at hR7 hQ7 HO7 ⊢
    clear hw7 hR6 hQ6 q0 q1
    cases ro with
    | false =>
      go_wp2_with (first | (refine wpList_load_row rfl _ _ rfl w3.heap.size rfl 29 GL.toArray (0, 0) _ hR7 Tryz.underlying29 rfl HGI.out.1 ?_) | (refine wpList_load_row rfl _ _ rfl w2.heap.size rfl 29 ZL.toArray (0, 0) _ hQ7 Tryz.underlying29 rfl HZI.out.1 ?_))
      go_ret2
      exact HP.out _ _ HO7.out fun e => by have := (Hend.out e).1; cases this
    | true =>
      by_cases hbb : b1 = false
      · have qb : (b1 == false) = true := by rw [hbb]; simp
        by_cases hkk : k1 = k2
        · have qk : (k1 == k2) = true := by rw [hkk]; simp
          clear hbb hkk
          go_wp2_with (first | (refine wpList_load_row rfl _ _ rfl w3.heap.size rfl 29 GL.toArray (0, 0) _ hR7 Tryz.underlying29 rfl HGI.out.1 ?_) | (refine wpList_load_row rfl _ _ rfl w2.heap.size rfl 29 ZL.toArray (0, 0) _ hQ7 Tryz.underlying29 rfl HZI.out.1 ?_))
          go_ret2
          exact HP.out _ _ HO7.out fun e => by rfl
        · have qk : (k1 == k2) = false := by simpa using hkk
          have Hkk2 := Lib.hid hkk
          clear hbb hkk
          go_wp2_with (first | (refine wpList_load_row rfl _ _ rfl w3.heap.size rfl 29 GL.toArray (0, 0) _ hR7 Tryz.underlying29 rfl HGI.out.1 ?_) | (refine wpList_load_row rfl _ _ rfl w2.heap.size rfl 29 ZL.toArray (0, 0) _ hQ7 Tryz.underlying29 rfl HZI.out.1 ?_))
          go_ret2
          exact HP.out _ _ HO7.out fun e => by exact absurd (Hend.out e).2.2 Hkk2.out
      · have qb : (b1 == false) = false := by simpa using hbb
        have Hbb2 := Lib.hid hbb
        clear hbb
        go_wp2_with (first | (refine wpList_load_row rfl _ _ rfl w3.heap.size rfl 29 GL.toArray (0, 0) _ hR7 Tryz.underlying29 rfl HGI.out.1 ?_) | (refine wpList_load_row rfl _ _ rfl w2.heap.size rfl 29 ZL.toArray (0, 0) _ hQ7 Tryz.underlying29 rfl HZI.out.1 ?_))
        go_ret2
        exact HP.out _ _ HO7.out fun e => by exact absurd (Hend.out e).2.1 Hbb2.out

/-- The laws' call: the document's volumes, the set; is all answered as the document says? -/
theorem call12_any (s : Nat) (A : Option Addr) (n c : Nat) (x : Cl12) (hx : C12Ok x) (VL : List Value) (hVL : VL = c12C x) (w : World) (F G : Nat → Prop) (L1 L2 : List Vol) (h1 : SetL w F s L1) (h2 : VSl w G A n c L2) (hFG : ∀ b, G b → ¬ F b) (hG : ∀ b, G b → b < w.heap.size) (hl1 : L1.length ≤ 100000) (hl2 : L2.length ≤ 100000) (hr2 : RiseV L2) (hok2 : ∀ v ∈ L2, VolOk v) : Calls Tryz.prog 7 #[.pointer (some ⟨s, 0, none⟩), .slice A n c, .agg VL.toArray] w (CallPost s L1 L2 x w F G) := by
  by_cases h0 : x.what = 0
  · exact call12_put s A n c x hx VL hVL w F G L1 L2 h1 h2 hFG hG hl1 hl2 hr2 hok2 h0
  · by_cases h1' : x.what = 1
    · exact call12_drop s A n c x hx VL hVL w F G L1 L2 h1 h2 hFG hG hl1 hl2 hr2 hok2 h1'
    · exact call12_rest s A n c x hx VL hVL w F G L1 L2 h1 h2 hFG hG hl1 hl2 hr2 hok2 h0 h1'
end Go.Proofs.YtcajhndhjlfmaaaGreat

/-
  An argument api.Commit, opened.
-/
import Derived.Test.YtejnonpmjaeagaaComDecode
import Derived.Test.YtejnonpmjaeagaaComEncode
import Derived.Test.YtejnonpmjaeagaaGen
import Derived.Test.YtejnonpmjaeagaaComCx
import Derived.Test.YtejnonpmjaeagaaComMay
import Derived.Test.YtejnonpmjaeagaaSame
import Derived.Test.YtejnonpmjaeagaaTagged
import Derived.Deep.Slices
import Derived.Deep.Fields
import Derived.ChangeSame
import Derived.OpenShut
namespace Go.Proofs.Ytejnonpmjaeagaa
open Go.RowKit
set_option linter.unusedVariables false
set_option linter.unusedSimpArgs false


def c0 : Com := ⟨3, zR, zR, zR, [], List.replicate 32 0, [[1]]⟩
theorem com_built2 (A : Option Addr) : Try.prog.built 30 [(0, .int .u64 3), (6, .slice A 1 1)] = some (comC ⟨c0, none, 0, A, 1⟩).toArray := by kernel_rfl
theorem zR_w : RefW zR := ⟨rfl, by unfold I64 zR; decide, by unfold I64 zR; decide⟩
theorem c0_may : MayC c0 := ⟨by decide, ⟨by decide, by decide, by decide, by decide⟩, ⟨by decide, by decide, by decide, by decide⟩, ⟨by decide, by decide, by decide, by decide⟩, by intro b hb; simp [c0] at hb, by intro i hi; simp [c0] at hi⟩
theorem c0_ok : OkC c0 := ⟨by decide, ⟨⟨by decide, by decide, by decide, by decide⟩, rfl⟩, ⟨⟨by decide, by decide, by decide, by decide⟩, rfl⟩, ⟨⟨by decide, by decide, by decide, by decide⟩, rfl⟩, ⟨by decide, by intro b hb; simp [c0] at hb⟩, rfl, ⟨by decide, by decide⟩⟩
theorem c0_len : (encC c0).length ≤ 65536 := by
  have h0 : Lib.uvarint 0 = [0] := Lib.uvarint_small (by omega)
  have h1 : Lib.uvarint 1 = [1] := Lib.uvarint_small (by omega)
  have h3 : Lib.uvarint 3 = [3] := Lib.uvarint_small (by omega)
  have hu : uF 0 = 0 := by decide
  simp [encC, encH, encR, refB, encE, c0, zR, hu, h0, h1, h3]
theorem c0_good : Good (encC c0) ∧ ∀ c, IsDec (encC c0) c → c = c0 := by
  have h := dec_back c0_ok []
  rw [List.append_nil] at h
  exact ⟨⟨c0_len, h.2, c0, h.1, by decide, c0_may.2.2.2.2.2⟩, fun c hc => dec_one hc h.1⟩
set_option maxHeartbeats 4000000 in
set_option maxRecDepth 100000 in
theorem speaks13_any (w : World) : Calls Try.prog 7 #[] w fun e w' => e = .returned (.bool true) ∧ Below w.heap.size w w' := by
  obtain ⟨W1, hW1⟩ : ∃ z, z = w.alloc (.cells #[.int .u8 1] 5) := ⟨_, rfl⟩
  obtain ⟨W2, hW2⟩ : ∃ z, z = W1.alloc (.cells #[.slice (some ⟨w.heap.size, 0, none⟩) 1 1] 33) := ⟨_, rfl⟩
  have hA1 : Arr W1 w.heap.size 5 [.int .u8 1] := by rw [hW1]; exact Arr.new w _ _
  have hs1 : W1.heap.size = w.heap.size + 1 := by rw [hW1]; simp
  have hb1 : Below w.heap.size w W1 := by rw [hW1]; exact (Below.refl _ w).alloc (Nat.le_refl _) _
  have hb2 : Below W1.heap.size W1 W2 := by rw [hW2]; exact (Below.refl _ W1).alloc (Nat.le_refl _) _
  have hA2 : Arr W2 W1.heap.size 33 [.slice (some ⟨w.heap.size, 0, none⟩) 1 1] := by rw [hW2]; exact Arr.new W1 _ _
  have hA3 : Arr W2 w.heap.size 5 [.int .u8 1] := Arr.up hA1 hb2
  have hs2 : W2.heap.size = w.heap.size + 2 := by rw [hW2]; simp [hs1]
  have hb0 : Below w.heap.size w W2 := hb1.trans (hb2.mono hb1.size)
  obtain ⟨x0, hx0⟩ : ∃ x : Cx, x = ⟨c0, none, 0, some ⟨W1.heap.size, 0, none⟩, 1⟩ := ⟨_, rfl⟩
  have hox : CxOk W2 W2.heap.size x0 := by
    rw [hx0]
    exact { ep := (by decide : (3 : Nat) < 18446744073709551616), r1 := zR_w, r2 := zR_w, r3 := zR_w, bw := (by intro b hb; simp at hb : ∀ b ∈ ([] : List BinF), BinW b), st := rfl, lb := Nat.le_refl 0, mb := Nat.zero_le _, le := Nat.le_refl 1, me := (by unfold maxLen; decide : (1 : Nat) ≤ maxLen),
            bins := fun h => absurd h (by simp [c0]),
            evs := fun _ => ⟨W1.heap.size, 0, rfl, by omega, fun i hi => by
              have hi0 : i = 0 := by simp [c0] at hi; exact hi
              subst hi0
              refine ⟨some ⟨w.heap.size, 0, none⟩, 1, ?_, Nat.le_refl 1, (by unfold maxLen; decide : (1 : Nat) ≤ maxLen), fun _ => ⟨w.heap.size, 0, rfl, by omega, fun j hj => ?_⟩⟩
              · rw [hA2.cell]; rfl
              · have hj0 : j = 0 := by simp [c0] at hj; exact hj
                subst hj0
                rw [hA3.cell]; rfl⟩ }
  obtain ⟨VL, hVL⟩ : ∃ z, z = comC x0 := ⟨_, rfl⟩
  have Hbt := Lib.hid (show Try.prog.built 30 [(0, .int .u64 3), (6, .slice (some ⟨w.heap.size + 1, 0, none⟩) 1 1)] = some VL.toArray by rw [hVL, hx0, hs1]; exact com_built2 _)
  have hc : x0.c = c0 := by rw [hx0]
  have Henc := Lib.hid (show Calls Try.prog 9 #[.agg VL.toArray] W2 (EncPost c0 W2) by
    have h := enc_any x0 VL hVL W2 hox (by rw [hc]; decide) (by rw [hc]; decide) (by rw [hc]; decide)
    rw [hc] at h
    exact h)
  have HW1 := Lib.hid hW1
  have HW2 := Lib.hid hW2
  have Hb0 := Lib.hid hb0
  clear hW1 hW2 hA1 hA2 hA3 hs1 hb1 hb2 hox hx0 hVL hc hb0 hs2
  go_enter Try.func7, Try.ntmps7
  go_wp2_with (refine wpList_builtD rfl _ _ rfl _ rfl VL.toArray Hbt.out ?_)
  rw [← HW1.out, ← HW2.out]
  refine Calls.mono Henc.out ?_
  rintro e w3 ⟨v, k, rfl, hb3, hpost⟩
  obtain ⟨rfl, hown⟩ : k = 0 ∧ Owns w3 W2.heap.size 5 v (encC c0) := by
    rcases hpost with ⟨h, _⟩ | ⟨_, h, _⟩ | ⟨_, _, h, h2⟩
    · exact absurd c0_may h
    · have := c0_len; omega
    · exact ⟨h, h2⟩
  obtain ⟨A, cc, rfl, hcc, hcm, hbs⟩ := Owns.slice hown
  obtain ⟨n, hn⟩ : ∃ z, (encC c0).length = z := ⟨_, rfl⟩
  have hdec := dec_any A n cc (encC c0) hn (by omega) hcm w3 hbs
  have Hdec := Lib.hid hdec
  have Hb3 := Lib.hid (show Below w.heap.size w w3 from Hb0.out.trans (hb3.mono Hb0.out.size))
  rw [hn]
  clear hpost hown hcc hcm hbs hn hdec hb3
  go_wp2_with fail
  refine Calls.mono Hdec.out ?_
  rintro e w4 ⟨hb4, hres⟩
  obtain ⟨x, rfl, hw, hxc⟩ : ∃ x, e = .returned (.tuple #[.agg (comC x).toArray, .int .i64 0]) ∧ CxW x ∧ x.c = c0 := by
    rcases hres with ⟨x, he, hw, hd, _⟩ | ⟨_, h⟩
    · exact ⟨x, he, hw, c0_good.2 _ hd⟩
    · exact absurd c0_good.1 h
  obtain ⟨XL, hXL⟩ : ∃ z, z = comC x := ⟨_, rfl⟩
  rw [← hXL]
  have hXlen : XL.length = 137 := by rw [hXL]; exact comV_length (rC_length hw.r1) (rC_length hw.r2) (rC_length hw.r3) (by rw [Lib.byteCells_length, hw.st])
  have HXi := Lib.hid (show (Try.prog.info? 30).map (·.size) = some XL.toArray.size ∧ comZ.toArray.size = XL.toArray.size by rw [List.size_toArray, hXlen]; exact ⟨comSize, by rw [List.size_toArray, comZ_length]⟩)
  have HX1 := Lib.hid (show XL.toArray.all (·.oneCell') = true by rw [hXL]; exact all_oneC (comC_one x))
  have Hp := Lib.hid (fun (w' : World) (g : Nat) (hR : Arr w' g 30 XL) => show w'.cell? ⟨g, 0, none⟩ = some (.int .u64 (3 : Nat)) ∧ ∃ A c, w'.cell? ⟨g, 136, none⟩ = some (.slice A 1 c) by
    rw [hXL] at hR
    obtain ⟨p0, _, _, _, _, _, p6⟩ := Arr.com hR (rC_length hw.r1) (rC_length hw.r2) (rC_length hw.r3) (by rw [Lib.byteCells_length, hw.st])
    rw [hxc] at p0 p6
    exact ⟨p0, _, _, p6⟩)
  obtain ⟨ZL, hZL⟩ : ∃ z, z = comZ := ⟨_, rfl⟩
  have HZ0 := Lib.hid (fun w : World => show (zeroValue 30).run Try.prog w = .ok (.agg ZL.toArray) w by rw [hZL]; exact comZero w)
  rw [← hZL] at HXi
  have Hb4 := Lib.hid (show Below w.heap.size w w4 from Hb3.out.trans (hb4.mono Hb3.out.size))
  clear hres hw hxc hXL hXlen hZL hb4 Hdec Hb3 Henc Hbt HW1 HW2 Hb0
  go_upto_region 3 with (first | (refine wpList_allocZC rfl 30 rfl ZL.toArray (HZ0.out _) ?_) | (change wpList _ _ _ _ _ (w4.alloc (.cells ZL.toArray 30)); refine wpList_store_row rfl _ _ _ rfl w4.heap.size XL.toArray rfl rfl 30 ZL.toArray (heap_alloc_new w4 _) HXi.out.1 HXi.out.2 HX1.out ?_; obtain ⟨w5, hw5⟩ : ∃ x, x = (w4.alloc (.cells ZL.toArray 30)).setRow w4.heap.size XL.toArray := ⟨_, rfl⟩; rw [← hw5]; obtain ⟨hP5, hb5⟩ := alloc_row w4 30 ZL.toArray XL; rw [← hw5] at hP5 hb5; clear hw5))
  obtain ⟨q0, Ae, ce, q6⟩ := Hp.out _ _ hP5
  have Hb5 := Lib.hid hb5
  clear hb5 hP5 Hp HX1 HXi HZ0
  go_wp2_with fail
  go_ret
  exact ⟨rfl, Hb4.out.trans (Hb5.out.mono Hb4.out.size)⟩

end Go.Proofs.Ytejnonpmjaeagaa

namespace Go.Proofs.Ytejnonpmjaeagaa
open Go.RowKit
set_option linter.unusedVariables false
set_option linter.unusedSimpArgs false


def greatC (c : Com) : Bool := decide (40 < c.bins.length) || decide (40 < c.evs.length) || c.evs.any fun e => decide (70000 < e.length)
theorem greatC_no {c : Com} (h : greatC c = false) : c.bins.length ≤ 40 ∧ c.evs.length ≤ 40 ∧ ∀ e ∈ c.evs, e.length ≤ 70000 := by
  unfold greatC at h
  simp only [Bool.or_eq_false_iff, decide_eq_false_iff_not, List.any_eq_false, decide_eq_true_eq] at h
  exact ⟨by omega, by omega, fun e he => by have := h.2 e he; omega⟩
set_option maxHeartbeats 4000000 in
set_option maxRecDepth 100000 in
theorem great_anyC (x : Cx) (VL : List Value) (hVL : VL = comC x) (w : World) (h : CxOk w w.heap.size x) (r : Bool) (hr : greatC x.c = r) :
    Calls Try.prog 8 #[.agg VL.toArray] w fun e w' => e = .returned (.bool r) ∧ Below w.heap.size w w' := by
  obtain ⟨W1, hW1⟩ : ∃ z, z = w.alloc (.cells VL.toArray 30) := ⟨_, rfl⟩
  have hR1 : Arr W1 w.heap.size 30 VL := by rw [hW1]; exact Arr.new w _ _
  have hb0 : Below w.heap.size w W1 := by rw [hW1]; exact (Below.refl _ w).alloc (Nat.le_refl _) _
  rw [hVL] at hR1
  obtain ⟨_, _, _, _, p4, _, p6⟩ := Arr.com hR1 (rC_length h.r1) (rC_length h.r2) (rC_length h.r3) (by rw [Lib.byteCells_length, h.st])
  obtain ⟨nb, hnb⟩ : ∃ z, x.c.bins.length = z := ⟨_, rfl⟩
  obtain ⟨ne, hne⟩ : ∃ z, x.c.evs.length = z := ⟨_, rfl⟩
  obtain ⟨Ae, hAe⟩ : ∃ z, x.Ae = z := ⟨_, rfl⟩
  obtain ⟨ce, hce⟩ : ∃ z, x.ce = z := ⟨_, rfl⟩
  rw [hnb] at p4
  rw [hne, hAe, hce] at p6
  have hnec : ne ≤ ce ∧ ce ≤ 9223372036854775807 := by rw [← hne, ← hce]; exact ⟨h.le, by have := h.me; unfold maxLen at this; omega⟩
  have hnbc : nb ≤ 9223372036854775807 := by rw [← hnb]; have := h.lb; have := h.mb; unfold maxLen at this; omega
  have Hevs := Lib.hid (show RowsAt W1 w.heap.size Ae x.c.evs by rw [← hAe]; exact h.evs.below hb0 (Nat.le_refl _))
  have Hne := Lib.hid hne
  have HW1 := Lib.hid hW1
  have Hr : Hid (r = (decide (40 < nb) || decide (40 < ne) || x.c.evs.any fun e => decide (70000 < e.length))) := Lib.hid (by rw [← hr, ← hnb, ← hne]; rfl)
  clear hVL hW1 hR1 h hnb hne hAe hce hr
  go_enter Try.func8, Try.ntmps8
  go_upto_region 1 with fail
  change Code.wp _ _ _ _ (w.alloc (.cells VL.toArray 30))
  rw [← HW1.out]
  clear HW1
  by_cases h1 : 40 < nb
  · have q : decide ((40 : Int) < (nb : Int)) = true := by simp; omega
    have Hy := Lib.hid (show r = true by rw [Hr.out]; simp [h1])
    go_wp2_with fail
    go_ret
    exact ⟨by rw [Hy.out]; rfl, hb0⟩
  have q : decide ((40 : Int) < (nb : Int)) = false := by simp; omega
  by_cases h2 : 40 < ne
  · have q2 : decide ((40 : Int) < (ne : Int)) = true := by simp; omega
    have Hy := Lib.hid (show r = true by rw [Hr.out]; simp [h2])
    go_wp2_with fail
    go_ret
    exact ⟨by rw [Hy.out]; rfl, hb0⟩
  have q2 : decide ((40 : Int) < (ne : Int)) = false := by simp; omega
  have Hr2 := Lib.hid (show r = (x.c.evs.any fun e => decide (70000 < e.length)) by rw [Hr.out]; simp [h1, h2])
  clear h1 h2 Hr
  go_wp2_with fail
  go_loopw [18] (fun i wr => ∃ k : Nat, k ≤ ne ∧ i = .int .i64 k ∧ W1 = wr ∧ Hid (∀ j, j < k → (x.c.evs.getD j []).length ≤ 70000)) (fun i _ => ne - (Go.RowKit.intOf i).toNat)
  case atStart => exact ⟨0, Nat.zero_le _, rfl, rfl, fun j hj => by omega⟩
  case round =>
    obtain ⟨k, hk, rfl, rfl, Hk⟩ := hrel
    by_cases hlt : k < ne
    · have hd1 : decide ((k : Int) < (ne : Int)) = true := by simp; omega
      obtain ⟨bb, off, rfl, hblk, hrow⟩ := Hevs.out (by rw [Hne.out]; omega)
      obtain ⟨Ax, cx, hcx, hxc, hxm, _⟩ := hrow k (by rw [Hne.out]; exact hlt)
      obtain ⟨lx, hlx⟩ : ∃ z, (x.c.evs.getD k []).length = z := ⟨_, rfl⟩
      rw [hlx] at hcx hxc
      have hxm' : cx ≤ 9223372036854775807 := by unfold maxLen at hxm; omega
      have Hlx := Lib.hid hlx
      clear hrow hlx hblk
      by_cases hbig : 70000 < lx
      · have q3 : decide ((70000 : Int) < (lx : Int)) = true := by simp; omega
        have Hy := Lib.hid (show r = true by
          rw [Hr2.out, List.any_eq_true]
          have hkl : k < x.c.evs.length := by rw [Hne.out]; exact hlt
          refine ⟨x.c.evs[k], List.getElem_mem hkl, ?_⟩
          have e : x.c.evs.getD k [] = x.c.evs[k] := by simp [List.getD, hkl]
          rw [← e, decide_eq_true_eq, Hlx.out]
          exact hbig)
        clear hbig
        go_wp2_with fail
        go_ret
        exact ⟨by rw [Hy.out]; rfl, hb0⟩
      · have q3 : decide ((70000 : Int) < (lx : Int)) = false := by simp; omega
        have Hk2 : Hid (∀ j, j < k + 1 → (x.c.evs.getD j []).length ≤ 70000) := fun j hj => by
          by_cases e : j = k
          · rw [e, Hlx.out]; omega
          · exact Hk.out j (by omega)
        clear hbig
        go_wp2_with fail
        go_roundw
        case rel => exact ⟨k + 1, by omega, by go_num, by first | rfl | trivial, Hk2⟩
        case measure => simp [Go.RowKit.intOf]; omega
    · obtain rfl : k = ne := by omega
      have hd1 : decide (k < k) = false := by simp
      have Hn := Lib.hid (show r = false by
        rw [Hr2.out, List.any_eq_false]
        intro e he
        obtain ⟨j, hj, rfl⟩ := List.getElem_of_mem he
        have := Hk.out j (by rw [← Hne.out]; exact hj)
        have e : x.c.evs.getD j [] = x.c.evs[j] := by simp [List.getD, hj]
        rw [e] at this
        simpa using this)
      go_wp2_with fail
      go_ret
      exact ⟨by rw [Hn.out]; rfl, hb0⟩

end Go.Proofs.Ytejnonpmjaeagaa

namespace Go.Proofs.Ytejnonpmjaeagaa
open Go.RowKit
set_option linter.unusedVariables false
set_option linter.unusedSimpArgs false


theorem wpList_at {P : Program} {ops : Array Oper} {rest : List Oper} {o : Oper} {a : Act} {w : World} {Q : Exit → Act → World → Prop} (n : Nat) (hd : o.dst = some n) (h : wpList P ops Q (o :: rest) a w) : wpList P ops Q (o :: rest) a w := h
theorem wpList_neq_ifC {P : Program} {ops : Array Oper} {rest : List Oper} {o : Oper} {a : Act} {w : World} {Q : Exit → Act → World → Prop} (hw : Region.wanted o (yielded ops a.tmps) = true) (ty ty2 : TypeId) (x y : Operand) (ho : o.op = .binOp .neq ty x y ty2)
    (X Y : List Value) (hx : a.eval x = .agg X.toArray) (hy : a.eval y = .agg Y.toArray) (b : Bool) (he : ∀ w, (Op.equalIn 10000 ty (.agg X.toArray) (.agg Y.toArray)).run P w = .ok b w) (hm : P.eqGuardType P.depth ty = false)
    (h : wpList P ops Q rest (a.put o.dst (.bool (!b))) w) : wpList P ops Q (o :: rest) a w :=
  wpList_step fun K hK => by
    rw [if_pos hw]
    unfold Oper.wp execOp
    simp only [ho, hx, hy, Sem.run_bind, Sem.run_pure, Result.andThen_ok, run_eqGuard_agg, run_neq_struct, he, hm]
    exact hK _ _ h
theorem ref_cmp {a b : RefF} (ha : a.d.length = 32) (hb : b.d.length = 32) {XL YL : List Value} (hX : XL = rC a) (hY : YL = rC b) : ∃ r : Bool, (∀ w, (Op.equalIn 10000 26 (.agg XL.toArray) (.agg YL.toArray)).run Try.prog w = .ok r w) ∧ (r = true ↔ a = b) := by
  classical
  refine ⟨decide (a = b), fun w => ?_, decide_eq_true_iff⟩
  obtain ⟨r, h1, h2⟩ := refs_eqv a b ha hb XL YL hX hY w
  have e : r = decide (a = b) := by rw [Bool.eq_iff_iff, h2, decide_eq_true_eq]
  rw [h1, e]
theorem bin_cmp {a b : BinF} (ha : a.d.length = 32) (hb : b.d.length = 32) {XL YL : List Value} (hX : XL = bC a) (hY : YL = bC b) : ∃ r : Bool, (∀ w, (Op.equalIn 10000 54 (.agg XL.toArray) (.agg YL.toArray)).run Try.prog w = .ok r w) ∧ (r = true ↔ a = b) := by
  classical
  refine ⟨decide (a = b), fun w => ?_, decide_eq_true_iff⟩
  obtain ⟨r, h1, h2⟩ := bin_eqv a b ha hb XL YL hX hY w
  have e : r = decide (a = b) := by rw [Bool.eq_iff_iff, h2, decide_eq_true_eq]
  rw [h1, e]


set_option maxHeartbeats 16000000 in
set_option maxRecDepth 100000 in
theorem same_anyC (x y : Cx) (XL YL : List Value) (hXL : XL = comC x) (hYL : YL = comC y) (w : World) (hx : CxOk w w.heap.size x) (hy : CxOk w w.heap.size y) (r : Bool) (hr : r = true ↔ x.c = y.c) :
    Calls Try.prog 14 #[.agg XL.toArray, .agg YL.toArray] w fun e w' => e = .returned (.bool r) ∧ Below w.heap.size w w' := by
  obtain ⟨W1, hW1⟩ : ∃ z, z = w.alloc (.cells XL.toArray 30) := ⟨_, rfl⟩
  obtain ⟨W2, hW2⟩ : ∃ z, z = W1.alloc (.cells YL.toArray 30) := ⟨_, rfl⟩
  have hb01 : Below w.heap.size w W1 := by rw [hW1]; exact (Below.refl _ w).alloc (Nat.le_refl _) _
  have hb12 : Below W1.heap.size W1 W2 := by rw [hW2]; exact (Below.refl _ W1).alloc (Nat.le_refl _) _
  have hb0 := hb01.trans (hb12.mono hb01.size)
  have hRx : Arr W2 w.heap.size 30 XL := Arr.up (by rw [hW1]; exact Arr.new w _ _) hb12
  have hRy : Arr W2 W1.heap.size 30 YL := by rw [hW2]; exact Arr.new W1 _ _
  rw [hXL] at hRx
  rw [hYL] at hRy
  obtain ⟨x0, x1, x2, x3, x4, x5, x6⟩ := Arr.com hRx (rC_length hx.r1) (rC_length hx.r2) (rC_length hx.r3) (by rw [Lib.byteCells_length, hx.st])
  obtain ⟨y0, y1, y2, y3, y4, y5, y6⟩ := Arr.com hRy (rC_length hy.r1) (rC_length hy.r2) (rC_length hy.r3) (by rw [Lib.byteCells_length, hy.st])
  have hltx := hRx.lt
  have hlty := hRy.lt
  have hW1s : W1.heap.size = w.heap.size + 1 := by rw [hW1]; simp
  obtain ⟨X1, hX1⟩ : ∃ z, z = rC x.c.r1 := ⟨_, rfl⟩
  obtain ⟨X2, hX2⟩ : ∃ z, z = rC x.c.r2 := ⟨_, rfl⟩
  obtain ⟨X3, hX3⟩ : ∃ z, z = rC x.c.r3 := ⟨_, rfl⟩
  obtain ⟨X4, hX4⟩ : ∃ z, z = Lib.byteCells x.c.st := ⟨_, rfl⟩
  obtain ⟨epx, hepx⟩ : ∃ z, x.c.ep = z := ⟨_, rfl⟩
  obtain ⟨nbx, hnbx⟩ : ∃ z, x.c.bins.length = z := ⟨_, rfl⟩
  obtain ⟨nex, hnex⟩ : ∃ z, x.c.evs.length = z := ⟨_, rfl⟩
  obtain ⟨Abx, hAbx⟩ : ∃ z, x.Ab = z := ⟨_, rfl⟩
  obtain ⟨cbx, hcbx⟩ : ∃ z, x.cb = z := ⟨_, rfl⟩
  obtain ⟨Aex, hAex⟩ : ∃ z, x.Ae = z := ⟨_, rfl⟩
  obtain ⟨cex, hcex⟩ : ∃ z, x.ce = z := ⟨_, rfl⟩
  rw [hepx] at x0
  rw [← hX1] at x1
  rw [← hX2] at x2
  rw [← hX3] at x3
  rw [hAbx, hnbx, hcbx] at x4
  rw [← hX4] at x5
  rw [hAex, hnex, hcex] at x6
  obtain ⟨Y1, hY1⟩ : ∃ z, z = rC y.c.r1 := ⟨_, rfl⟩
  obtain ⟨Y2, hY2⟩ : ∃ z, z = rC y.c.r2 := ⟨_, rfl⟩
  obtain ⟨Y3, hY3⟩ : ∃ z, z = rC y.c.r3 := ⟨_, rfl⟩
  obtain ⟨Y4, hY4⟩ : ∃ z, z = Lib.byteCells y.c.st := ⟨_, rfl⟩
  obtain ⟨epy, hepy⟩ : ∃ z, y.c.ep = z := ⟨_, rfl⟩
  obtain ⟨nby, hnby⟩ : ∃ z, y.c.bins.length = z := ⟨_, rfl⟩
  obtain ⟨ney, hney⟩ : ∃ z, y.c.evs.length = z := ⟨_, rfl⟩
  obtain ⟨Aby, hAby⟩ : ∃ z, y.Ab = z := ⟨_, rfl⟩
  obtain ⟨cby, hcby⟩ : ∃ z, y.cb = z := ⟨_, rfl⟩
  obtain ⟨Aey, hAey⟩ : ∃ z, y.Ae = z := ⟨_, rfl⟩
  obtain ⟨cey, hcey⟩ : ∃ z, y.ce = z := ⟨_, rfl⟩
  rw [hepy] at y0
  rw [← hY1] at y1
  rw [← hY2] at y2
  rw [← hY3] at y3
  rw [hAby, hnby, hcby] at y4
  rw [← hY4] at y5
  rw [hAey, hney, hcey] at y6
  obtain ⟨gx, hgx⟩ : ∃ z, w.heap.size = z := ⟨_, rfl⟩
  obtain ⟨gy, hgy⟩ : ∃ z, W1.heap.size = z := ⟨_, rfl⟩
  have HW1 := Lib.hid hW1
  have HW2 := Lib.hid hW2
  have Hr := Lib.hid hr
  have Hext := Lib.hid (fun h1 h2 h3 h4 h5 h6 h7 => show x.c = y.c from com_ext h1 h2 h3 h4 h5 h6 h7)
  have Hbx := Lib.hid (show RowOf bC 35 W2 w.heap.size Abx x.c.bins by rw [← hAbx]; exact hx.bins.below hb0 (Nat.le_refl _))
  have Hby := Lib.hid (show RowOf bC 35 W2 w.heap.size Aby y.c.bins by rw [← hAby]; exact hy.bins.below hb0 (Nat.le_refl _))
  have Hex := Lib.hid (show RowsAt W2 w.heap.size Aex x.c.evs by rw [← hAex]; exact hx.evs.below hb0 (Nat.le_refl _))
  have Hey := Lib.hid (show RowsAt W2 w.heap.size Aey y.c.evs by rw [← hAey]; exact hy.evs.below hb0 (Nat.le_refl _))
  have Hbwx := Lib.hid hx.bw
  have Hbwy := Lib.hid hy.bw
  have hcx : nbx ≤ cbx ∧ cbx ≤ 9223372036854775807 ∧ nex ≤ cex ∧ cex ≤ 9223372036854775807 := by
    rw [← hnbx, ← hcbx, ← hnex, ← hcex]
    exact ⟨hx.lb, by have := hx.mb; unfold maxLen at this; omega, hx.le, by have := hx.me; unfold maxLen at this; omega⟩
  have hcy : nby ≤ cby ∧ cby ≤ 9223372036854775807 ∧ ney ≤ cey ∧ cey ≤ 9223372036854775807 := by
    rw [← hnby, ← hcby, ← hney, ← hcey]
    exact ⟨hy.lb, by have := hy.mb; unfold maxLen at this; omega, hy.le, by have := hy.me; unfold maxLen at this; omega⟩
  have hepl : epx < 18446744073709551616 ∧ epy < 18446744073709551616 := by rw [← hepx, ← hepy]; exact ⟨hx.ep, hy.ep⟩
  obtain ⟨f1, hf1, hf1r⟩ : ∃ r : Bool, (∀ w, (Op.equalIn 10000 26 (.agg X1.toArray) (.agg Y1.toArray)).run Try.prog w = .ok r w) ∧ (r = true ↔ x.c.r1 = y.c.r1) := ref_cmp hx.r1.d hy.r1.d hX1 hY1
  obtain ⟨f2, hf2, hf2r⟩ : ∃ r : Bool, (∀ w, (Op.equalIn 10000 26 (.agg X2.toArray) (.agg Y2.toArray)).run Try.prog w = .ok r w) ∧ (r = true ↔ x.c.r2 = y.c.r2) := ref_cmp hx.r2.d hy.r2.d hX2 hY2
  obtain ⟨f3, hf3, hf3r⟩ : ∃ r : Bool, (∀ w, (Op.equalIn 10000 26 (.agg X3.toArray) (.agg Y3.toArray)).run Try.prog w = .ok r w) ∧ (r = true ↔ x.c.r3 = y.c.r3) := ref_cmp hx.r3.d hy.r3.d hX3 hY3
  obtain ⟨f4, hf4, hf4r⟩ : ∃ r : Bool, (∀ w, (Op.equalIn 10000 24 (.agg X4.toArray) (.agg Y4.toArray)).run Try.prog w = .ok r w) ∧ (r = true ↔ x.c.st = y.c.st) := ⟨_, fun w => eqv_at Try.underlying24 x.c.st y.c.st hx.st hy.st X4 Y4 hX4 hY4 w, by simp⟩
  have Hf := Lib.hid (show (f1 = true ↔ x.c.r1 = y.c.r1) ∧ (f2 = true ↔ x.c.r2 = y.c.r2) ∧ (f3 = true ↔ x.c.r3 = y.c.r3) ∧ (f4 = true ↔ x.c.st = y.c.st) from ⟨hf1r, hf2r, hf3r, hf4r⟩)
  have Hep := Lib.hid (show x.c.ep = epx ∧ y.c.ep = epy from ⟨hepx, hepy⟩)
  have Hnb := Lib.hid (show x.c.bins.length = nbx ∧ y.c.bins.length = nby from ⟨hnbx, hnby⟩)
  have Hne := Lib.hid (show x.c.evs.length = nex ∧ y.c.evs.length = ney from ⟨hnex, hney⟩)
  have HX1 := Lib.hid (show (Try.prog.info? 26).map (·.size) = some X1.length by rw [hX1, rC_length hx.r1]; exact refSize)
  have HX2 := Lib.hid (show (Try.prog.info? 26).map (·.size) = some X2.length by rw [hX2, rC_length hx.r2]; exact refSize)
  have HX3 := Lib.hid (show (Try.prog.info? 26).map (·.size) = some X3.length by rw [hX3, rC_length hx.r3]; exact refSize)
  have HX4 := Lib.hid (show (Try.prog.info? 24).map (·.size) = some X4.length by rw [hX4, Lib.byteCells_length, hx.st]; exact digInfo)
  have HY1 := Lib.hid (show (Try.prog.info? 26).map (·.size) = some Y1.length by rw [hY1, rC_length hy.r1]; exact refSize)
  have HY2 := Lib.hid (show (Try.prog.info? 26).map (·.size) = some Y2.length by rw [hY2, rC_length hy.r2]; exact refSize)
  have HY3 := Lib.hid (show (Try.prog.info? 26).map (·.size) = some Y3.length by rw [hY3, rC_length hy.r3]; exact refSize)
  have HY4 := Lib.hid (show (Try.prog.info? 24).map (·.size) = some Y4.length by rw [hY4, Lib.byteCells_length, hy.st]; exact digInfo)
  have Hhx := Lib.hid hx
  have Hhy := Lib.hid hy
  rw [hgx] at hb0 x0 x1 x2 x3 x4 x5 x6 Hbx Hby Hex Hey ⊢
  rw [hgy] at y0 y1 y2 y3 y4 y5 y6
  have hgg : gx < gy := by omega
  have Hgx := Lib.hid hgx
  have Hgy := Lib.hid (show w.heap.size + 1 = gy by omega)
  have Hb0 := Lib.hid hb0
  rw [hgx] at hltx
  rw [hgy] at hlty
  have HF1 := Lib.hid hf1
  have HF2 := Lib.hid hf2
  have HF3 := Lib.hid hf3
  have HF4 := Lib.hid hf4
  clear hf1 hf2 hf3 hf4 hXL hYL hW1 hW2 hb01 hb12 hRx hRy hr hx hy hf1r hf2r hf3r hf4r hgx hgy hW1s hb0 hX1 hX2 hX3 hX4 hY1 hY2 hY3 hY4 hepx hnbx hnex hAbx hcbx hAex hcex hepy hnby hney hAby hcby hAey hcey
  go_enter Try.func14, Try.ntmps14
  go_upto_region 1 with fail
  rw [← HW1.out, ← HW2.out, Hgy.out, Hgx.out]
  by_cases h0 : epx = epy
  · subst h0
    have q0 : ((epx : Int) != (epx : Int)) = false := by simp
    have q0' : (epx != epx) = false := by simp
    cases f1 with
    | false =>
      have Hno := Lib.hid (show r = false by
        cases r with
        | false => rfl
        | true =>
          exfalso
          have he := Hr.out.1 rfl
          have := Hf.out.1.2 (by rw [he])
          cases this)
      go_wp2_with (first
    | ((with_reducible refine wpList_at 14 (by rfl) ?_); refine wpList_load_mid_ifC (by rfl) _ _ rfl gx 1 rfl X1 _ x1 Try.underlying26 rfl HX1.out ?_)
    | ((with_reducible refine wpList_at 16 (by rfl) ?_); refine wpList_load_mid_ifC (by rfl) _ _ rfl gy 1 rfl Y1 _ y1 Try.underlying26 rfl HY1.out ?_)
    | ((with_reducible refine wpList_at 21 (by rfl) ?_); refine wpList_load_mid_ifC (by rfl) _ _ rfl gx 35 rfl X2 _ x2 Try.underlying26 rfl HX2.out ?_)
    | ((with_reducible refine wpList_at 23 (by rfl) ?_); refine wpList_load_mid_ifC (by rfl) _ _ rfl gy 35 rfl Y2 _ y2 Try.underlying26 rfl HY2.out ?_)
    | ((with_reducible refine wpList_at 28 (by rfl) ?_); refine wpList_load_mid_ifC (by rfl) _ _ rfl gx 69 rfl X3 _ x3 Try.underlying26 rfl HX3.out ?_)
    | ((with_reducible refine wpList_at 30 (by rfl) ?_); refine wpList_load_mid_ifC (by rfl) _ _ rfl gy 69 rfl Y3 _ y3 Try.underlying26 rfl HY3.out ?_)
    | ((with_reducible refine wpList_at 35 (by rfl) ?_); refine wpList_load_mid_ifC (by rfl) _ _ rfl gx 104 rfl X4 _ x5 Try.underlying24 rfl HX4.out ?_)
    | ((with_reducible refine wpList_at 37 (by rfl) ?_); refine wpList_load_mid_ifC (by rfl) _ _ rfl gy 104 rfl Y4 _ y5 Try.underlying24 rfl HY4.out ?_)
    | ((with_reducible refine wpList_at 17 (by rfl) ?_); refine wpList_neq_ifC (by rfl) _ _ _ _ rfl X1 Y1 rfl rfl _ HF1.out gtR ?_)
    | ((with_reducible refine wpList_at 24 (by rfl) ?_); refine wpList_neq_ifC (by rfl) _ _ _ _ rfl X2 Y2 rfl rfl _ HF2.out gtR ?_)
    | ((with_reducible refine wpList_at 31 (by rfl) ?_); refine wpList_neq_ifC (by rfl) _ _ _ _ rfl X3 Y3 rfl rfl _ HF3.out gtR ?_)
    | ((with_reducible refine wpList_at 38 (by rfl) ?_); refine wpList_neq_ifC (by rfl) _ _ _ _ rfl X4 Y4 rfl rfl _ HF4.out gt32 ?_))
      go_ret
      exact ⟨by rw [Hno.out]; rfl, Hb0.out⟩
    | true =>
      cases f2 with
      | false =>
        have Hno := Lib.hid (show r = false by
          cases r with
          | false => rfl
          | true =>
            exfalso
            have he := Hr.out.1 rfl
            have := Hf.out.2.1.2 (by rw [he])
            cases this)
        go_wp2_with (first
    | ((with_reducible refine wpList_at 14 (by rfl) ?_); refine wpList_load_mid_ifC (by rfl) _ _ rfl gx 1 rfl X1 _ x1 Try.underlying26 rfl HX1.out ?_)
    | ((with_reducible refine wpList_at 16 (by rfl) ?_); refine wpList_load_mid_ifC (by rfl) _ _ rfl gy 1 rfl Y1 _ y1 Try.underlying26 rfl HY1.out ?_)
    | ((with_reducible refine wpList_at 21 (by rfl) ?_); refine wpList_load_mid_ifC (by rfl) _ _ rfl gx 35 rfl X2 _ x2 Try.underlying26 rfl HX2.out ?_)
    | ((with_reducible refine wpList_at 23 (by rfl) ?_); refine wpList_load_mid_ifC (by rfl) _ _ rfl gy 35 rfl Y2 _ y2 Try.underlying26 rfl HY2.out ?_)
    | ((with_reducible refine wpList_at 28 (by rfl) ?_); refine wpList_load_mid_ifC (by rfl) _ _ rfl gx 69 rfl X3 _ x3 Try.underlying26 rfl HX3.out ?_)
    | ((with_reducible refine wpList_at 30 (by rfl) ?_); refine wpList_load_mid_ifC (by rfl) _ _ rfl gy 69 rfl Y3 _ y3 Try.underlying26 rfl HY3.out ?_)
    | ((with_reducible refine wpList_at 35 (by rfl) ?_); refine wpList_load_mid_ifC (by rfl) _ _ rfl gx 104 rfl X4 _ x5 Try.underlying24 rfl HX4.out ?_)
    | ((with_reducible refine wpList_at 37 (by rfl) ?_); refine wpList_load_mid_ifC (by rfl) _ _ rfl gy 104 rfl Y4 _ y5 Try.underlying24 rfl HY4.out ?_)
    | ((with_reducible refine wpList_at 17 (by rfl) ?_); refine wpList_neq_ifC (by rfl) _ _ _ _ rfl X1 Y1 rfl rfl _ HF1.out gtR ?_)
    | ((with_reducible refine wpList_at 24 (by rfl) ?_); refine wpList_neq_ifC (by rfl) _ _ _ _ rfl X2 Y2 rfl rfl _ HF2.out gtR ?_)
    | ((with_reducible refine wpList_at 31 (by rfl) ?_); refine wpList_neq_ifC (by rfl) _ _ _ _ rfl X3 Y3 rfl rfl _ HF3.out gtR ?_)
    | ((with_reducible refine wpList_at 38 (by rfl) ?_); refine wpList_neq_ifC (by rfl) _ _ _ _ rfl X4 Y4 rfl rfl _ HF4.out gt32 ?_))
        go_ret
        exact ⟨by rw [Hno.out]; rfl, Hb0.out⟩
      | true =>
        cases f3 with
        | false =>
          have Hno := Lib.hid (show r = false by
            cases r with
            | false => rfl
            | true =>
              exfalso
              have he := Hr.out.1 rfl
              have := Hf.out.2.2.1.2 (by rw [he])
              cases this)
          go_wp2_with (first
    | ((with_reducible refine wpList_at 14 (by rfl) ?_); refine wpList_load_mid_ifC (by rfl) _ _ rfl gx 1 rfl X1 _ x1 Try.underlying26 rfl HX1.out ?_)
    | ((with_reducible refine wpList_at 16 (by rfl) ?_); refine wpList_load_mid_ifC (by rfl) _ _ rfl gy 1 rfl Y1 _ y1 Try.underlying26 rfl HY1.out ?_)
    | ((with_reducible refine wpList_at 21 (by rfl) ?_); refine wpList_load_mid_ifC (by rfl) _ _ rfl gx 35 rfl X2 _ x2 Try.underlying26 rfl HX2.out ?_)
    | ((with_reducible refine wpList_at 23 (by rfl) ?_); refine wpList_load_mid_ifC (by rfl) _ _ rfl gy 35 rfl Y2 _ y2 Try.underlying26 rfl HY2.out ?_)
    | ((with_reducible refine wpList_at 28 (by rfl) ?_); refine wpList_load_mid_ifC (by rfl) _ _ rfl gx 69 rfl X3 _ x3 Try.underlying26 rfl HX3.out ?_)
    | ((with_reducible refine wpList_at 30 (by rfl) ?_); refine wpList_load_mid_ifC (by rfl) _ _ rfl gy 69 rfl Y3 _ y3 Try.underlying26 rfl HY3.out ?_)
    | ((with_reducible refine wpList_at 35 (by rfl) ?_); refine wpList_load_mid_ifC (by rfl) _ _ rfl gx 104 rfl X4 _ x5 Try.underlying24 rfl HX4.out ?_)
    | ((with_reducible refine wpList_at 37 (by rfl) ?_); refine wpList_load_mid_ifC (by rfl) _ _ rfl gy 104 rfl Y4 _ y5 Try.underlying24 rfl HY4.out ?_)
    | ((with_reducible refine wpList_at 17 (by rfl) ?_); refine wpList_neq_ifC (by rfl) _ _ _ _ rfl X1 Y1 rfl rfl _ HF1.out gtR ?_)
    | ((with_reducible refine wpList_at 24 (by rfl) ?_); refine wpList_neq_ifC (by rfl) _ _ _ _ rfl X2 Y2 rfl rfl _ HF2.out gtR ?_)
    | ((with_reducible refine wpList_at 31 (by rfl) ?_); refine wpList_neq_ifC (by rfl) _ _ _ _ rfl X3 Y3 rfl rfl _ HF3.out gtR ?_)
    | ((with_reducible refine wpList_at 38 (by rfl) ?_); refine wpList_neq_ifC (by rfl) _ _ _ _ rfl X4 Y4 rfl rfl _ HF4.out gt32 ?_))
          go_ret
          exact ⟨by rw [Hno.out]; rfl, Hb0.out⟩
        | true =>
          cases f4 with
          | false =>
            have Hno := Lib.hid (show r = false by
              cases r with
              | false => rfl
              | true =>
                exfalso
                have he := Hr.out.1 rfl
                have := Hf.out.2.2.2.2 (by rw [he])
                cases this)
            go_wp2_with (first
    | ((with_reducible refine wpList_at 14 (by rfl) ?_); refine wpList_load_mid_ifC (by rfl) _ _ rfl gx 1 rfl X1 _ x1 Try.underlying26 rfl HX1.out ?_)
    | ((with_reducible refine wpList_at 16 (by rfl) ?_); refine wpList_load_mid_ifC (by rfl) _ _ rfl gy 1 rfl Y1 _ y1 Try.underlying26 rfl HY1.out ?_)
    | ((with_reducible refine wpList_at 21 (by rfl) ?_); refine wpList_load_mid_ifC (by rfl) _ _ rfl gx 35 rfl X2 _ x2 Try.underlying26 rfl HX2.out ?_)
    | ((with_reducible refine wpList_at 23 (by rfl) ?_); refine wpList_load_mid_ifC (by rfl) _ _ rfl gy 35 rfl Y2 _ y2 Try.underlying26 rfl HY2.out ?_)
    | ((with_reducible refine wpList_at 28 (by rfl) ?_); refine wpList_load_mid_ifC (by rfl) _ _ rfl gx 69 rfl X3 _ x3 Try.underlying26 rfl HX3.out ?_)
    | ((with_reducible refine wpList_at 30 (by rfl) ?_); refine wpList_load_mid_ifC (by rfl) _ _ rfl gy 69 rfl Y3 _ y3 Try.underlying26 rfl HY3.out ?_)
    | ((with_reducible refine wpList_at 35 (by rfl) ?_); refine wpList_load_mid_ifC (by rfl) _ _ rfl gx 104 rfl X4 _ x5 Try.underlying24 rfl HX4.out ?_)
    | ((with_reducible refine wpList_at 37 (by rfl) ?_); refine wpList_load_mid_ifC (by rfl) _ _ rfl gy 104 rfl Y4 _ y5 Try.underlying24 rfl HY4.out ?_)
    | ((with_reducible refine wpList_at 17 (by rfl) ?_); refine wpList_neq_ifC (by rfl) _ _ _ _ rfl X1 Y1 rfl rfl _ HF1.out gtR ?_)
    | ((with_reducible refine wpList_at 24 (by rfl) ?_); refine wpList_neq_ifC (by rfl) _ _ _ _ rfl X2 Y2 rfl rfl _ HF2.out gtR ?_)
    | ((with_reducible refine wpList_at 31 (by rfl) ?_); refine wpList_neq_ifC (by rfl) _ _ _ _ rfl X3 Y3 rfl rfl _ HF3.out gtR ?_)
    | ((with_reducible refine wpList_at 38 (by rfl) ?_); refine wpList_neq_ifC (by rfl) _ _ _ _ rfl X4 Y4 rfl rfl _ HF4.out gt32 ?_))
            go_ret
            exact ⟨by rw [Hno.out]; rfl, Hb0.out⟩
          | true =>
            by_cases hnb : nbx = nby
            · subst hnb
              have qb : ((nbx : Int) != (nbx : Int)) = false := by simp
              by_cases hne : nex = ney
              · subst hne
                have qe : ((nex : Int) != (nex : Int)) = false := by simp
                go_upto_region 3 with (first
    | ((with_reducible refine wpList_at 14 (by rfl) ?_); refine wpList_load_mid_ifC (by rfl) _ _ rfl gx 1 rfl X1 _ x1 Try.underlying26 rfl HX1.out ?_)
    | ((with_reducible refine wpList_at 16 (by rfl) ?_); refine wpList_load_mid_ifC (by rfl) _ _ rfl gy 1 rfl Y1 _ y1 Try.underlying26 rfl HY1.out ?_)
    | ((with_reducible refine wpList_at 21 (by rfl) ?_); refine wpList_load_mid_ifC (by rfl) _ _ rfl gx 35 rfl X2 _ x2 Try.underlying26 rfl HX2.out ?_)
    | ((with_reducible refine wpList_at 23 (by rfl) ?_); refine wpList_load_mid_ifC (by rfl) _ _ rfl gy 35 rfl Y2 _ y2 Try.underlying26 rfl HY2.out ?_)
    | ((with_reducible refine wpList_at 28 (by rfl) ?_); refine wpList_load_mid_ifC (by rfl) _ _ rfl gx 69 rfl X3 _ x3 Try.underlying26 rfl HX3.out ?_)
    | ((with_reducible refine wpList_at 30 (by rfl) ?_); refine wpList_load_mid_ifC (by rfl) _ _ rfl gy 69 rfl Y3 _ y3 Try.underlying26 rfl HY3.out ?_)
    | ((with_reducible refine wpList_at 35 (by rfl) ?_); refine wpList_load_mid_ifC (by rfl) _ _ rfl gx 104 rfl X4 _ x5 Try.underlying24 rfl HX4.out ?_)
    | ((with_reducible refine wpList_at 37 (by rfl) ?_); refine wpList_load_mid_ifC (by rfl) _ _ rfl gy 104 rfl Y4 _ y5 Try.underlying24 rfl HY4.out ?_)
    | ((with_reducible refine wpList_at 17 (by rfl) ?_); refine wpList_neq_ifC (by rfl) _ _ _ _ rfl X1 Y1 rfl rfl _ HF1.out gtR ?_)
    | ((with_reducible refine wpList_at 24 (by rfl) ?_); refine wpList_neq_ifC (by rfl) _ _ _ _ rfl X2 Y2 rfl rfl _ HF2.out gtR ?_)
    | ((with_reducible refine wpList_at 31 (by rfl) ?_); refine wpList_neq_ifC (by rfl) _ _ _ _ rfl X3 Y3 rfl rfl _ HF3.out gtR ?_)
    | ((with_reducible refine wpList_at 38 (by rfl) ?_); refine wpList_neq_ifC (by rfl) _ _ _ _ rfl X4 Y4 rfl rfl _ HF4.out gt32 ?_))
                clear x0 x1 x2 x3 x5 y0 y1 y2 y3 y5 q0 q0' qb qe
                go_wp2_with fail
                go_loopw [5] (fun i wr => ∃ k : Nat, k ≤ nbx ∧ i = .int .i64 k ∧ Drawn W2 wr ∧ Hid (∀ j, j < k → x.c.bins[j]? = y.c.bins[j]?)) (fun i _ => nbx - (Go.RowKit.intOf i).toNat)
                case atStart => exact ⟨0, Nat.zero_le _, rfl, Drawn.refl W2, fun j hj => by omega⟩
                case round =>
                  obtain ⟨k, hk, rfl, ⟨dn, rfl⟩, Hk⟩ := hrel
                  have x4' : (W2.drewN dn).cell? ⟨gx, 103, none⟩ = some (.slice Abx nbx cbx) := x4
                  have y4' : (W2.drewN dn).cell? ⟨gy, 103, none⟩ = some (.slice Aby nbx cby) := y4
                  by_cases hlt : k < nbx
                  · have hd1 : decide ((k : Int) < (nbx : Int)) = true := by simp; omega
                    obtain ⟨bx, ox, rfl, hbx, hrx⟩ := Hbx.out (by rw [Hnb.out.1]; omega)
                    obtain ⟨bY, oy, rfl, hby, hry⟩ := Hby.out (by rw [Hnb.out.2]; omega)
                    obtain ⟨u, hu⟩ : ∃ z, x.c.bins[k]? = some z := ⟨_, List.getElem?_eq_getElem (by rw [Hnb.out.1]; exact hlt)⟩
                    obtain ⟨v, hv⟩ : ∃ z, y.c.bins[k]? = some z := ⟨_, List.getElem?_eq_getElem (by rw [Hnb.out.2]; exact hlt)⟩
                    have huw := Hbwx.out u (List.mem_of_getElem? hu)
                    have hvw := Hbwy.out v (List.mem_of_getElem? hv)
                    obtain ⟨UL, hUL⟩ : ∃ z, z = bC u := ⟨_, rfl⟩
                    obtain ⟨VL, hVL⟩ : ∃ z, z = bC v := ⟨_, rfl⟩
                    obtain ⟨r0, hr0, hr0r⟩ := bin_cmp huw.d hvw.d hUL hVL
                    have Hr0 := Lib.hid hr0
                    have Hr0r := Lib.hid hr0r
                    have HUi := Lib.hid (show (Try.prog.info? 54).map (·.size) = some UL.length by rw [hUL, bC_length huw]; exact binSize)
                    have HVi := Lib.hid (show (Try.prog.info? 54).map (·.size) = some VL.length by rw [hVL, bC_length hvw]; exact binSize)
                    have hru : (W2.drewN dn).rangeAt bx (ox + k * 35) UL := fun j q hq => by rw [hUL] at hq; exact hrx k u hu j q hq
                    have hrv : (W2.drewN dn).rangeAt bY (oy + k * 35) VL := fun j q hq => by rw [hVL] at hq; exact hry k v hv j q hq
                    have Hu := Lib.hid hu
                    have Hv := Lib.hid hv
                    clear hr0 hr0r hUL hVL huw hvw hu hv hrx hry hbx hby
                    go_upto_region 6 with fail
                    refine wp_region_held_drew (S := fun w' => w'.cell? ⟨gx, 103, none⟩ = some (.slice (some ⟨bx, ox, none⟩) nbx cbx) ∧ w'.cell? ⟨gy, 103, none⟩ = some (.slice (some ⟨bY, oy, none⟩) nbx cby) ∧ w'.rangeAt bx (ox + k * 35) UL ∧ w'.rangeAt bY (oy + k * 35) VL) (by kernel_rfl) ⟨x4', y4', hru, hrv⟩ (fun hHeld => ?_)
                    refine anyH_take (i := 0) (v := .pointer (some ⟨gx, 103, none⟩)) (some 65) rfl rfl (by kernel_rfl) (by kernel_rfl) (by kernel_rfl) (fun _ _ _ h => h) (Or.inl ⟨by rfl, fun w' hw => by (go_simp)⟩) (by assumption) ?_
                    simp only [Act.put, List.setIfInBounds_toArray, List.set_cons_zero, List.set_cons_succ]
                    refine anyH_take (i := 1) (v := .slice (some ⟨bx, ox, none⟩) nbx cbx) (some 66) rfl rfl (by kernel_rfl) (by kernel_rfl) (by kernel_rfl) (fun _ _ _ h => h) (Or.inl ⟨by rfl, fun w' hw => by (have hcc := hw.1; go_simp)⟩) (by assumption) ?_
                    simp only [Act.put, List.setIfInBounds_toArray, List.set_cons_zero, List.set_cons_succ]
                    refine anyH_take (i := 2) (v := .int .i64 (k : Nat)) (some 67) rfl rfl (by kernel_rfl) (by kernel_rfl) (by kernel_rfl) (fun _ _ _ h => h) (Or.inl ⟨by rfl, fun w' hw => by (go_simp)⟩) (by assumption) ?_
                    simp only [Act.put, List.setIfInBounds_toArray, List.set_cons_zero, List.set_cons_succ]
                    refine anyH_take (i := 3) (v := .pointer (some ⟨bx, ox + k * 35, none⟩)) (some 68) rfl rfl (by kernel_rfl) (by kernel_rfl) (by kernel_rfl) (fun _ _ _ h => h) (Or.inl ⟨by rfl, fun w' hw => by (go_simp; try (intro h; omega))⟩) (by assumption) ?_
                    simp only [Act.put, List.setIfInBounds_toArray, List.set_cons_zero, List.set_cons_succ]
                    refine anyH_take (i := 4) (v := .agg UL.toArray) (some 69) rfl rfl (by kernel_rfl) (by kernel_rfl) (by kernel_rfl) (fun _ _ _ h => h) (yieldsIf_load_mid (by rfl) 54 (.tmp 68) rfl bx (ox + k * 35) rfl UL _ (fun w' h => h.2.2.1) Try.underlying54 rfl HUi.out) (by assumption) ?_
                    simp only [Act.put, List.setIfInBounds_toArray, List.set_cons_zero, List.set_cons_succ]
                    refine anyH_take (i := 5) (v := .pointer (some ⟨gy, 103, none⟩)) (some 70) rfl rfl (by kernel_rfl) (by kernel_rfl) (by kernel_rfl) (fun _ _ _ h => h) (Or.inl ⟨by rfl, fun w' hw => by (go_simp)⟩) (by assumption) ?_
                    simp only [Act.put, List.setIfInBounds_toArray, List.set_cons_zero, List.set_cons_succ]
                    refine anyH_take (i := 6) (v := .slice (some ⟨bY, oy, none⟩) nbx cby) (some 71) rfl rfl (by kernel_rfl) (by kernel_rfl) (by kernel_rfl) (fun _ _ _ h => h) (Or.inl ⟨by rfl, fun w' hw => by (have hcc := hw.2.1; go_simp)⟩) (by assumption) ?_
                    simp only [Act.put, List.setIfInBounds_toArray, List.set_cons_zero, List.set_cons_succ]
                    refine anyH_take (i := 7) (v := .int .i64 (k : Nat)) (some 72) rfl rfl (by kernel_rfl) (by kernel_rfl) (by kernel_rfl) (fun _ _ _ h => h) (Or.inl ⟨by rfl, fun w' hw => by (go_simp)⟩) (by assumption) ?_
                    simp only [Act.put, List.setIfInBounds_toArray, List.set_cons_zero, List.set_cons_succ]
                    refine anyH_take (i := 8) (v := .pointer (some ⟨bY, oy + k * 35, none⟩)) (some 73) rfl rfl (by kernel_rfl) (by kernel_rfl) (by kernel_rfl) (fun _ _ _ h => h) (Or.inl ⟨by rfl, fun w' hw => by (go_simp; try (intro h; omega))⟩) (by assumption) ?_
                    simp only [Act.put, List.setIfInBounds_toArray, List.set_cons_zero, List.set_cons_succ]
                    refine anyH_take (i := 9) (v := .agg VL.toArray) (some 74) rfl rfl (by kernel_rfl) (by kernel_rfl) (by kernel_rfl) (fun _ _ _ h => h) (yieldsIf_load_mid (by rfl) 54 (.tmp 73) rfl bY (oy + k * 35) rfl VL _ (fun w' h => h.2.2.2) Try.underlying54 rfl HVi.out) (by assumption) ?_
                    simp only [Act.put, List.setIfInBounds_toArray, List.set_cons_zero, List.set_cons_succ]
                    refine anyH_take (i := 10) (v := .bool (!r0)) (some 75) rfl rfl (by kernel_rfl) (by kernel_rfl) (by kernel_rfl) (fun _ _ _ h => h) (Or.inl ⟨by rfl, fun w' hw => by (have hc := Hr0.out; have hg := gtNN; go_simp)⟩) (by assumption) ?_
                    simp only [Act.put, List.setIfInBounds_toArray, List.set_cons_zero, List.set_cons_succ]
                    refine wpAnyH_done (by kernel_rfl) ?_ _
                    clear hHeld hru hrv
                    cases r0 with
                    | false =>
                      have Hno := Lib.hid (show r = false by
                        cases r with
                        | false => rfl
                        | true =>
                          have he := Hr.out.1 rfl
                          have h1 := Hu.out
                          rw [he, Hv.out] at h1
                          injection h1 with h1
                          have := Hr0r.out.2 h1.symm
                          cases this)
                      go_wp2_with fail
                      go_ret
                      exact ⟨by rw [Hno.out]; rfl, by first | exact Below.dN Hb0.out _ | exact Below.dN (Below.dN Hb0.out _) _⟩
                    | true =>
                      have Hk2 : Hid (∀ j, j < k + 1 → x.c.bins[j]? = y.c.bins[j]?) := fun j hj => by
                        by_cases e : j = k
                        · rw [e, Hu.out, Hv.out, Hr0r.out.1 rfl]
                        · exact Hk.out j (by omega)
                      go_wp2_with fail
                      go_roundw
                      case rel => exact ⟨k + 1, by omega, by go_num, ⟨dn + 1, rfl⟩, Hk2⟩
                      case measure => simp [Go.RowKit.intOf]; omega
                  · obtain rfl : k = nbx := by omega
                    have hd1 : decide ((k : Int) < (k : Int)) = false := by simp
                    have Hbins := Lib.hid (show x.c.bins = y.c.bins from List.ext_getElem? fun j => by
                      by_cases hj : j < k
                      · exact Hk.out j hj
                      · rw [List.getElem?_eq_none (by rw [Hnb.out.1]; omega), List.getElem?_eq_none (by rw [Hnb.out.2]; omega)])
                    have X6 := Lib.hid x6
                    have Y6 := Lib.hid y6
                    clear x4 y4 x6 y6
                    go_wp2_with fail
                    obtain ⟨W3, hW3⟩ : ∃ z, z = W2.drewN dn := ⟨_, rfl⟩
                    have x6 : W3.cell? ⟨gx, 136, none⟩ = some (.slice Aex nex cex) := by rw [hW3]; exact X6.out
                    have y6 : W3.cell? ⟨gy, 136, none⟩ = some (.slice Aey nex cey) := by rw [hW3]; exact Y6.out
                    have Hex3 := Lib.hid (show RowsAt W3 gx Aex x.c.evs by rw [hW3]; exact Hex.out)
                    have Hey3 := Lib.hid (show RowsAt W3 gx Aey y.c.evs by rw [hW3]; exact Hey.out)
                    have Hb3 := Lib.hid (show Below gx w W3 by rw [hW3]; exact Below.dN Hb0.out _)
                    rw [← hW3]
                    clear hW3 x4' y4'
                    go_loopw [6] (fun i wr => ∃ k : Nat, k ≤ nex ∧ i = .int .i64 k ∧ Drawn W3 wr ∧ Hid (∀ j, j < k → x.c.evs.getD j [] = y.c.evs.getD j [])) (fun i _ => nex - (Go.RowKit.intOf i).toNat)
                    case atStart => exact ⟨0, Nat.zero_le _, rfl, Drawn.refl W3, fun j hj => by omega⟩
                    case round =>
                      obtain ⟨k2, hk2, rfl, ⟨dm, rfl⟩, Hk2⟩ := hrel
                      have x6' : (W3.drewN dm).cell? ⟨gx, 136, none⟩ = some (.slice Aex nex cex) := x6
                      have y6' : (W3.drewN dm).cell? ⟨gy, 136, none⟩ = some (.slice Aey nex cey) := y6
                      by_cases hlt2 : k2 < nex
                      · have hd2 : decide ((k2 : Int) < (nex : Int)) = true := by simp; omega
                        obtain ⟨bx, ox, rfl, hbx, hrx⟩ := Hex3.out (by rw [Hne.out.1]; omega)
                        obtain ⟨bY, oy, rfl, hby, hry⟩ := Hey3.out (by rw [Hne.out.2]; omega)
                        obtain ⟨Au, cu, hcu, hlu, hmu, hbu⟩ := hrx k2 (by rw [Hne.out.1]; exact hlt2)
                        obtain ⟨Av, cv, hcv, hlv, hmv, hbv⟩ := hry k2 (by rw [Hne.out.2]; exact hlt2)
                        obtain ⟨u, hu⟩ : ∃ z, x.c.evs.getD k2 [] = z := ⟨_, rfl⟩
                        obtain ⟨v, hv⟩ : ∃ z, y.c.evs.getD k2 [] = z := ⟨_, rfl⟩
                        rw [hu] at hcu hlu hbu
                        rw [hv] at hcv hlv hbv
                        have hcu' : (W3.drewN dm).cell? ⟨bx, ox + k2, none⟩ = some (.slice Au u.length cu) := hcu
                        have hcv' : (W3.drewN dm).cell? ⟨bY, oy + k2, none⟩ = some (.slice Av v.length cv) := hcv
                        have hlim : u.length ≤ maxLen ∧ v.length ≤ maxLen := ⟨Nat.le_trans hlu hmu, Nat.le_trans hlv hmv⟩
                        obtain ⟨lu, hlu2⟩ : ∃ z, u.length = z := ⟨_, rfl⟩
                        obtain ⟨lv, hlv2⟩ : ∃ z, v.length = z := ⟨_, rfl⟩
                        have hsame := fun dd => same_any gx gx Au Av cu cv u v (W3.drewN dd) (hbu.drewN dd) (hbv.drewN dd) hlim.1 hlim.2
                        rw [hlu2, hlv2] at hsame
                        rw [hlu2] at hcu'
                        rw [hlv2] at hcv'
                        have Hsame := Lib.hid hsame
                        have Hu := Lib.hid hu
                        have Hv := Lib.hid hv
                        clear hrx hry hcu hcv hbu hbv hu hv hlu hlv hmu hmv hlu2 hlv2 hsame hlim hbx hby
                        go_upto_region 11 with fail
                        refine wp_region_held_drew (S := fun w' => w'.cell? ⟨gx, 136, none⟩ = some (.slice (some ⟨bx, ox, none⟩) nex cex) ∧ w'.cell? ⟨gy, 136, none⟩ = some (.slice (some ⟨bY, oy, none⟩) nex cey) ∧ w'.cell? ⟨bx, ox + k2, none⟩ = some (.slice Au lu cu) ∧ w'.cell? ⟨bY, oy + k2, none⟩ = some (.slice Av lv cv)) (by kernel_rfl) ⟨x6', y6', hcu', hcv'⟩ (fun hHeld => ?_)
                        refine anyH_take (i := 0) (v := .pointer (some ⟨gx, 136, none⟩)) (some 83) rfl rfl (by kernel_rfl) (by kernel_rfl) (by kernel_rfl) (fun _ _ _ h => h) (Or.inl ⟨by rfl, fun w' hw => by (go_simp)⟩) (by assumption) ?_
                        simp only [Act.put, List.setIfInBounds_toArray, List.set_cons_zero, List.set_cons_succ]
                        refine anyH_take (i := 1) (v := .slice (some ⟨bx, ox, none⟩) nex cex) (some 84) rfl rfl (by kernel_rfl) (by kernel_rfl) (by kernel_rfl) (fun _ _ _ h => h) (Or.inl ⟨by rfl, fun w' hw => by (have hcc := hw.1; go_simp)⟩) (by assumption) ?_
                        simp only [Act.put, List.setIfInBounds_toArray, List.set_cons_zero, List.set_cons_succ]
                        refine anyH_take (i := 2) (v := .int .i64 (k2 : Nat)) (some 85) rfl rfl (by kernel_rfl) (by kernel_rfl) (by kernel_rfl) (fun _ _ _ h => h) (Or.inl ⟨by rfl, fun w' hw => by (go_simp)⟩) (by assumption) ?_
                        simp only [Act.put, List.setIfInBounds_toArray, List.set_cons_zero, List.set_cons_succ]
                        refine anyH_take (i := 3) (v := .pointer (some ⟨bx, ox + k2, none⟩)) (some 86) rfl rfl (by kernel_rfl) (by kernel_rfl) (by kernel_rfl) (fun _ _ _ h => h) (Or.inl ⟨by rfl, fun w' hw => by (go_simp; try (intro h; omega))⟩) (by assumption) ?_
                        simp only [Act.put, List.setIfInBounds_toArray, List.set_cons_zero, List.set_cons_succ]
                        refine anyH_take (i := 4) (v := .slice Au lu cu) (some 87) rfl rfl (by kernel_rfl) (by kernel_rfl) (by kernel_rfl) (fun _ _ _ h => h) (Or.inl ⟨by rfl, fun w' hw => by (have hcc := hw.2.2.1; go_simp)⟩) (by assumption) ?_
                        simp only [Act.put, List.setIfInBounds_toArray, List.set_cons_zero, List.set_cons_succ]
                        refine anyH_take (i := 5) (v := .pointer (some ⟨gy, 136, none⟩)) (some 88) rfl rfl (by kernel_rfl) (by kernel_rfl) (by kernel_rfl) (fun _ _ _ h => h) (Or.inl ⟨by rfl, fun w' hw => by (go_simp)⟩) (by assumption) ?_
                        simp only [Act.put, List.setIfInBounds_toArray, List.set_cons_zero, List.set_cons_succ]
                        refine anyH_take (i := 6) (v := .slice (some ⟨bY, oy, none⟩) nex cey) (some 89) rfl rfl (by kernel_rfl) (by kernel_rfl) (by kernel_rfl) (fun _ _ _ h => h) (Or.inl ⟨by rfl, fun w' hw => by (have hcc := hw.2.1; go_simp)⟩) (by assumption) ?_
                        simp only [Act.put, List.setIfInBounds_toArray, List.set_cons_zero, List.set_cons_succ]
                        refine anyH_take (i := 7) (v := .int .i64 (k2 : Nat)) (some 90) rfl rfl (by kernel_rfl) (by kernel_rfl) (by kernel_rfl) (fun _ _ _ h => h) (Or.inl ⟨by rfl, fun w' hw => by (go_simp)⟩) (by assumption) ?_
                        simp only [Act.put, List.setIfInBounds_toArray, List.set_cons_zero, List.set_cons_succ]
                        refine anyH_take (i := 8) (v := .pointer (some ⟨bY, oy + k2, none⟩)) (some 91) rfl rfl (by kernel_rfl) (by kernel_rfl) (by kernel_rfl) (fun _ _ _ h => h) (Or.inl ⟨by rfl, fun w' hw => by (go_simp; try (intro h; omega))⟩) (by assumption) ?_
                        simp only [Act.put, List.setIfInBounds_toArray, List.set_cons_zero, List.set_cons_succ]
                        refine anyH_take (i := 9) (v := .slice Av lv cv) (some 92) rfl rfl (by kernel_rfl) (by kernel_rfl) (by kernel_rfl) (fun _ _ _ h => h) (Or.inl ⟨by rfl, fun w' hw => by (have hcc := hw.2.2.2; go_simp)⟩) (by assumption) ?_
                        simp only [Act.put, List.setIfInBounds_toArray, List.set_cons_zero, List.set_cons_succ]
                        refine wpAnyH_ready (rs := [10]) (by kernel_rfl) (by simp) ?_
                        refine AllReadyH.cons rfl (fun K hK => ?_) AllReadyH.nil
                        go_simp
                        go_at_call 13
                        refine Calls.mono (Hsame.out (dm + 1)) ?_
                        rintro e w5 ⟨rfl, nd, rfl⟩
                        go_wp2_with fail
                        refine hK.out _ _ ⟨x6', y6', hcu', hcv'⟩ (fun hHeldx => ?_)
                        clear hK K
                        try simp only [Act.put, List.setIfInBounds_toArray, List.set_cons_zero, List.set_cons_succ]
                        refine anyH_take (i := 11) (v := .bool (!decide (u = v))) (some 94) rfl rfl (by kernel_rfl) (by kernel_rfl) (by kernel_rfl) (fun _ _ _ h => h) (Or.inl ⟨by rfl, fun w' hw => by (go_simp)⟩) (by assumption) ?_
                        simp only [Act.put, List.setIfInBounds_toArray, List.set_cons_zero, List.set_cons_succ]
                        refine wpAnyH_done (by kernel_rfl) ?_ _
                        clear hHeld hcu' hcv'
                        by_cases huv : u = v
                        · have hq : decide (u = v) = true := by simp [huv]
                          have Hk3 : Hid (∀ j, j < k2 + 1 → x.c.evs.getD j [] = y.c.evs.getD j []) := fun j hj => by
                            by_cases e : j = k2
                            · rw [e, Hu.out, Hv.out, huv]
                            · exact Hk2.out j (by omega)
                          rw [hq]
                          clear huv hq
                          go_wp2_with fail
                          go_roundw
                          case rel => exact ⟨k2 + 1, by omega, by go_num, ⟨dm + 1 + nd, by first | rfl | (simp only [World.drewN_add_]; done) | (rw [World.drewN_add_]; rfl) | skip⟩, Hk3⟩
                          case measure => simp [Go.RowKit.intOf]; omega
                        · have hq : decide (u = v) = false := by simp [huv]
                          have Hno := Lib.hid (show r = false by
                            cases r with
                            | false => rfl
                            | true =>
                              have he := Hr.out.1 rfl
                              exact absurd (by rw [← Hu.out, ← Hv.out, he]) huv)
                          rw [hq]
                          clear huv hq
                          go_wp2_with fail
                          go_ret
                          exact ⟨by rw [Hno.out]; rfl, by first | exact Below.dN Hb3.out _ | exact Below.dN (Below.dN Hb3.out _) _ | exact Below.dN (Below.dN (Below.dN Hb3.out _) _) _⟩
                      · obtain rfl : k2 = nex := by omega
                        have hd2 : decide ((k2 : Int) < (k2 : Int)) = false := by simp
                        have Hyes := Lib.hid (show r = true from Hr.out.2 (Hext.out (by rw [Hep.out.1, Hep.out.2]) (Hf.out.1.1 (by simp)) (Hf.out.2.1.1 (by simp)) (Hf.out.2.2.1.1 (by simp)) Hbins.out (Hf.out.2.2.2.1 (by simp)) (List.ext_getElem? fun j => by
                          by_cases hj : j < k2
                          · have := Hk2.out j hj
                            have h1 : j < x.c.evs.length := by rw [Hne.out.1]; exact hj
                            have h2 : j < y.c.evs.length := by rw [Hne.out.2]; exact hj
                            simp only [List.getD, List.getElem?_eq_getElem h1, List.getElem?_eq_getElem h2, Option.getD_some] at this
                            rw [List.getElem?_eq_getElem h1, List.getElem?_eq_getElem h2, this]
                          · rw [List.getElem?_eq_none (by rw [Hne.out.1]; omega), List.getElem?_eq_none (by rw [Hne.out.2]; omega)])))
                        go_wp2_with fail
                        go_ret
                        exact ⟨by rw [Hyes.out]; rfl, by first | exact Below.dN Hb3.out _ | exact Hb3.out⟩
              · have qe : ((nex : Int) != (ney : Int)) = true := by simp; omega
                have Hno := Lib.hid (show r = false by
                  cases r with
                  | false => rfl
                  | true =>
                    exfalso
                    have he := Hr.out.1 rfl
                    exact hne (by rw [← Hne.out.1, ← Hne.out.2, he]))
                go_wp2_with (first
    | ((with_reducible refine wpList_at 14 (by rfl) ?_); refine wpList_load_mid_ifC (by rfl) _ _ rfl gx 1 rfl X1 _ x1 Try.underlying26 rfl HX1.out ?_)
    | ((with_reducible refine wpList_at 16 (by rfl) ?_); refine wpList_load_mid_ifC (by rfl) _ _ rfl gy 1 rfl Y1 _ y1 Try.underlying26 rfl HY1.out ?_)
    | ((with_reducible refine wpList_at 21 (by rfl) ?_); refine wpList_load_mid_ifC (by rfl) _ _ rfl gx 35 rfl X2 _ x2 Try.underlying26 rfl HX2.out ?_)
    | ((with_reducible refine wpList_at 23 (by rfl) ?_); refine wpList_load_mid_ifC (by rfl) _ _ rfl gy 35 rfl Y2 _ y2 Try.underlying26 rfl HY2.out ?_)
    | ((with_reducible refine wpList_at 28 (by rfl) ?_); refine wpList_load_mid_ifC (by rfl) _ _ rfl gx 69 rfl X3 _ x3 Try.underlying26 rfl HX3.out ?_)
    | ((with_reducible refine wpList_at 30 (by rfl) ?_); refine wpList_load_mid_ifC (by rfl) _ _ rfl gy 69 rfl Y3 _ y3 Try.underlying26 rfl HY3.out ?_)
    | ((with_reducible refine wpList_at 35 (by rfl) ?_); refine wpList_load_mid_ifC (by rfl) _ _ rfl gx 104 rfl X4 _ x5 Try.underlying24 rfl HX4.out ?_)
    | ((with_reducible refine wpList_at 37 (by rfl) ?_); refine wpList_load_mid_ifC (by rfl) _ _ rfl gy 104 rfl Y4 _ y5 Try.underlying24 rfl HY4.out ?_)
    | ((with_reducible refine wpList_at 17 (by rfl) ?_); refine wpList_neq_ifC (by rfl) _ _ _ _ rfl X1 Y1 rfl rfl _ HF1.out gtR ?_)
    | ((with_reducible refine wpList_at 24 (by rfl) ?_); refine wpList_neq_ifC (by rfl) _ _ _ _ rfl X2 Y2 rfl rfl _ HF2.out gtR ?_)
    | ((with_reducible refine wpList_at 31 (by rfl) ?_); refine wpList_neq_ifC (by rfl) _ _ _ _ rfl X3 Y3 rfl rfl _ HF3.out gtR ?_)
    | ((with_reducible refine wpList_at 38 (by rfl) ?_); refine wpList_neq_ifC (by rfl) _ _ _ _ rfl X4 Y4 rfl rfl _ HF4.out gt32 ?_))
                go_ret
                exact ⟨by rw [Hno.out]; rfl, Hb0.out⟩
            · have qb : ((nbx : Int) != (nby : Int)) = true := by simp; omega
              have Hno := Lib.hid (show r = false by
                cases r with
                | false => rfl
                | true =>
                  exfalso
                  have he := Hr.out.1 rfl
                  exact hnb (by rw [← Hnb.out.1, ← Hnb.out.2, he]))
              go_wp2_with (first
    | ((with_reducible refine wpList_at 14 (by rfl) ?_); refine wpList_load_mid_ifC (by rfl) _ _ rfl gx 1 rfl X1 _ x1 Try.underlying26 rfl HX1.out ?_)
    | ((with_reducible refine wpList_at 16 (by rfl) ?_); refine wpList_load_mid_ifC (by rfl) _ _ rfl gy 1 rfl Y1 _ y1 Try.underlying26 rfl HY1.out ?_)
    | ((with_reducible refine wpList_at 21 (by rfl) ?_); refine wpList_load_mid_ifC (by rfl) _ _ rfl gx 35 rfl X2 _ x2 Try.underlying26 rfl HX2.out ?_)
    | ((with_reducible refine wpList_at 23 (by rfl) ?_); refine wpList_load_mid_ifC (by rfl) _ _ rfl gy 35 rfl Y2 _ y2 Try.underlying26 rfl HY2.out ?_)
    | ((with_reducible refine wpList_at 28 (by rfl) ?_); refine wpList_load_mid_ifC (by rfl) _ _ rfl gx 69 rfl X3 _ x3 Try.underlying26 rfl HX3.out ?_)
    | ((with_reducible refine wpList_at 30 (by rfl) ?_); refine wpList_load_mid_ifC (by rfl) _ _ rfl gy 69 rfl Y3 _ y3 Try.underlying26 rfl HY3.out ?_)
    | ((with_reducible refine wpList_at 35 (by rfl) ?_); refine wpList_load_mid_ifC (by rfl) _ _ rfl gx 104 rfl X4 _ x5 Try.underlying24 rfl HX4.out ?_)
    | ((with_reducible refine wpList_at 37 (by rfl) ?_); refine wpList_load_mid_ifC (by rfl) _ _ rfl gy 104 rfl Y4 _ y5 Try.underlying24 rfl HY4.out ?_)
    | ((with_reducible refine wpList_at 17 (by rfl) ?_); refine wpList_neq_ifC (by rfl) _ _ _ _ rfl X1 Y1 rfl rfl _ HF1.out gtR ?_)
    | ((with_reducible refine wpList_at 24 (by rfl) ?_); refine wpList_neq_ifC (by rfl) _ _ _ _ rfl X2 Y2 rfl rfl _ HF2.out gtR ?_)
    | ((with_reducible refine wpList_at 31 (by rfl) ?_); refine wpList_neq_ifC (by rfl) _ _ _ _ rfl X3 Y3 rfl rfl _ HF3.out gtR ?_)
    | ((with_reducible refine wpList_at 38 (by rfl) ?_); refine wpList_neq_ifC (by rfl) _ _ _ _ rfl X4 Y4 rfl rfl _ HF4.out gt32 ?_))
              go_ret
              exact ⟨by rw [Hno.out]; rfl, Hb0.out⟩
  · have q0 : ((epx : Int) != (epy : Int)) = true := by simp; omega
    have q0' : (epx != epy) = true := by simpa using h0
    have Hno := Lib.hid (show r = false by
      cases r with
      | false => rfl
      | true =>
        exfalso
        have he := Hr.out.1 rfl
        exact h0 (by rw [← Hep.out.1, ← Hep.out.2, he]))
    go_wp2_with (first
    | ((with_reducible refine wpList_at 14 (by rfl) ?_); refine wpList_load_mid_ifC (by rfl) _ _ rfl gx 1 rfl X1 _ x1 Try.underlying26 rfl HX1.out ?_)
    | ((with_reducible refine wpList_at 16 (by rfl) ?_); refine wpList_load_mid_ifC (by rfl) _ _ rfl gy 1 rfl Y1 _ y1 Try.underlying26 rfl HY1.out ?_)
    | ((with_reducible refine wpList_at 21 (by rfl) ?_); refine wpList_load_mid_ifC (by rfl) _ _ rfl gx 35 rfl X2 _ x2 Try.underlying26 rfl HX2.out ?_)
    | ((with_reducible refine wpList_at 23 (by rfl) ?_); refine wpList_load_mid_ifC (by rfl) _ _ rfl gy 35 rfl Y2 _ y2 Try.underlying26 rfl HY2.out ?_)
    | ((with_reducible refine wpList_at 28 (by rfl) ?_); refine wpList_load_mid_ifC (by rfl) _ _ rfl gx 69 rfl X3 _ x3 Try.underlying26 rfl HX3.out ?_)
    | ((with_reducible refine wpList_at 30 (by rfl) ?_); refine wpList_load_mid_ifC (by rfl) _ _ rfl gy 69 rfl Y3 _ y3 Try.underlying26 rfl HY3.out ?_)
    | ((with_reducible refine wpList_at 35 (by rfl) ?_); refine wpList_load_mid_ifC (by rfl) _ _ rfl gx 104 rfl X4 _ x5 Try.underlying24 rfl HX4.out ?_)
    | ((with_reducible refine wpList_at 37 (by rfl) ?_); refine wpList_load_mid_ifC (by rfl) _ _ rfl gy 104 rfl Y4 _ y5 Try.underlying24 rfl HY4.out ?_)
    | ((with_reducible refine wpList_at 17 (by rfl) ?_); refine wpList_neq_ifC (by rfl) _ _ _ _ rfl X1 Y1 rfl rfl _ HF1.out gtR ?_)
    | ((with_reducible refine wpList_at 24 (by rfl) ?_); refine wpList_neq_ifC (by rfl) _ _ _ _ rfl X2 Y2 rfl rfl _ HF2.out gtR ?_)
    | ((with_reducible refine wpList_at 31 (by rfl) ?_); refine wpList_neq_ifC (by rfl) _ _ _ _ rfl X3 Y3 rfl rfl _ HF3.out gtR ?_)
    | ((with_reducible refine wpList_at 38 (by rfl) ?_); refine wpList_neq_ifC (by rfl) _ _ _ _ rfl X4 Y4 rfl rfl _ HF4.out gt32 ?_))
    go_ret
    exact ⟨by rw [Hno.out]; rfl, Hb0.out⟩

end Go.Proofs.Ytejnonpmjaeagaa

namespace Go.Proofs.Ytejnonpmjaeagaa
open Go.RowKit
set_option linter.unusedVariables false
set_option linter.unusedSimpArgs false

theorem andN_ffff (x : Int) : ∃ m : Nat, bits .and .i64 x 65535 = (m : Int) ∧ m ≤ 65535 := by
  have hb : BitVec.ofInt IntKind.i64.bits 65535 = BitVec.ofNat IntKind.i64.bits 65535 := rfl
  have hle : ((BitVec.ofInt IntKind.i64.bits x).toNat &&& 65535) ≤ 65535 := Nat.and_le_right
  refine ⟨(BitVec.ofInt IntKind.i64.bits x).toNat &&& 65535, ?_, hle⟩
  have h2 : (BitVec.ofNat IntKind.i64.bits 65535).toNat = 65535 := rfl
  simp only [bits, hb, BitVec.toNat_and, h2]
  rw [IntKind.wrap_i64]
  omega

theorem ev_le {l : List (List UInt8)} {e : List UInt8} (h : e ∈ l) : e.length ≤ (l.flatMap encE).length := by
  induction l with
  | nil => cases h
  | cons a t ih =>
    rcases List.mem_cons.1 h with rfl | h
    · simp [encE]; omega
    · have := ih h; rw [List.flatMap_cons, List.length_append]; omega
theorem okC_of {w : World} {B : Nat} {x : Cx} (hx : CxOk w B x) (hm : MayC x.c) (hl : (encC x.c).length ≤ 65536) (hg : greatC x.c = false) : OkC x.c := by
  obtain ⟨g1, g2, _⟩ := greatC_no hg
  obtain ⟨_, m1, m2, m3, m4, _⟩ := hm
  refine ⟨hx.ep, ⟨m1, hx.r1.d⟩, ⟨m2, hx.r2.d⟩, ⟨m3, hx.r3.d⟩, ⟨by omega, fun b hb => ⟨m4 b hb, (hx.bw b hb).d⟩⟩, hx.st, ⟨by omega, fun e he => ?_⟩⟩
  have h1 := ev_le he
  have h2 : (x.c.evs.flatMap encE).length ≤ (encC x.c).length := by simp [encC]; omega
  omega
theorem cut_bad {c : Com} (h : OkC c) {k : Nat} (hk : k < (encC c).length) : ¬ Good ((encC c).take k) := by
  rintro ⟨_, h6, c', hd, _, _⟩
  obtain ⟨e, hok⟩ := dec_sound hd (by rw [h6])
  rw [h6, List.append_nil] at e
  have e2 : encC c = encC c' ++ (encC c).drop k := by rw [← e, List.take_append_drop]
  have := (enc_prefix h hok e2).2
  have h3 := congrArg List.length this
  rw [List.length_drop] at h3
  simp at h3
  omega
theorem enc_pos (c : Com) : 0 < (encC c).length := by
  have := Lib.uvarint_pos c.ep
  unfold encC encH
  simp only [List.length_append]
  omega


set_option maxHeartbeats 16000000 in
set_option maxRecDepth 100000 in
theorem cunlike_walk (x y : Cx) (z : Int) (hz1 : -9223372036854775808 ≤ z) (hz2 : z ≤ 9223372036854775807) (w : World) (hx : CxOk w w.heap.size x) (hy : CxOk w w.heap.size y) :
    Calls Try.prog 5 #[.agg (comC x).toArray, .agg (comC y).toArray, .int .i64 z] w fun e w' => e = .returned (.bool true) ∧ Below w.heap.size w w' := by
  obtain ⟨XL, hXL⟩ : ∃ z, z = comC x := ⟨_, rfl⟩
  obtain ⟨YL, hYL⟩ : ∃ z, z = comC y := ⟨_, rfl⟩
  rw [← hXL, ← hYL]
  obtain ⟨W1, hW1⟩ : ∃ z, z = w.alloc (.cells XL.toArray 30) := ⟨_, rfl⟩
  obtain ⟨W2, hW2⟩ : ∃ z, z = W1.alloc (.cells YL.toArray 30) := ⟨_, rfl⟩
  have hb01 : Below w.heap.size w W1 := by rw [hW1]; exact (Below.refl _ w).alloc (Nat.le_refl _) _
  have hb12 : Below W1.heap.size W1 W2 := by rw [hW2]; exact (Below.refl _ W1).alloc (Nat.le_refl _) _
  have hb0 := hb01.trans (hb12.mono hb01.size)
  have hRx : Arr W2 w.heap.size 30 XL := Arr.up (by rw [hW1]; exact Arr.new w _ _) hb12
  have hRy : Arr W2 W1.heap.size 30 YL := by rw [hW2]; exact Arr.new W1 _ _
  have hW1s : W1.heap.size = w.heap.size + 1 := by rw [hW1]; simp
  have HIx := Lib.hid (show (Try.prog.info? 30).map (·.size) = some XL.length by rw [hXL, comC_length hx]; exact comSize)
  have HIy := Lib.hid (show (Try.prog.info? 30).map (·.size) = some YL.length by rw [hYL, comC_length hy]; exact comSize)
  obtain ⟨gx, hgx⟩ : ∃ z, w.heap.size = z := ⟨_, rfl⟩
  obtain ⟨gy, hgy⟩ : ∃ z, W1.heap.size = z := ⟨_, rfl⟩
  have HW1 := Lib.hid hW1
  have HW2 := Lib.hid hW2
  have HXL := Lib.hid hXL
  have HYL := Lib.hid hYL
  have Hz := Lib.hid (show -9223372036854775808 ≤ z ∧ z ≤ 9223372036854775807 from ⟨hz1, hz2⟩)
  rw [hgx] at hRx
  rw [hgy] at hRy
  have Hgx := Lib.hid hgx
  have Hgy := Lib.hid (show w.heap.size + 1 = gy by omega)
  have Hx := Lib.hid hx
  have Hy := Lib.hid hy
  have Hb0 := Lib.hid hb0
  clear hXL hYL hW1 hW2 hb01 hb12 hx hy hgx hgy hW1s hb0 hz1 hz2
  go_enter Try.func5, Try.ntmps5
  go_wp2_with fail
  rw [← HW1.out, ← HW2.out, Hgy.out, Hgx.out]
  refine Calls.mono (speaks13_any W2) ?_
  rintro e w3 ⟨rfl, hb3⟩
  have hRx3 := hRx.up hb3
  have hRy3 := hRy.up hb3
  have Hb3 := Lib.hid (show Below w.heap.size w w3 from Hb0.out.trans (hb3.mono Hb0.out.size))
  have Hx3 := Lib.hid (Hx.out.below Hb3.out (Nat.le_refl _))
  have Hy3 := Lib.hid (Hy.out.below Hb3.out (Nat.le_refl _))
  clear hRx hRy hb3
  obtain ⟨r1, hr1⟩ : ∃ r, greatC x.c = r := ⟨_, rfl⟩
  have Hr1 := Lib.hid hr1
  clear hr1
  go_wp2_with ((with_reducible refine wpList_at 15 (by rfl) ?_); refine wpList_load_mid_ifC (by rfl) _ _ rfl gx 0 rfl XL _ (Arr.range hRx3) Try.underlying30 rfl HIx.out ?_)
  refine Calls.mono (great_anyC x XL HXL.out w3 (Hx3.out.more Hb3.out.size) r1 Hr1.out) ?_
  rintro e w4 ⟨rfl, hb4⟩
  have hRx4 := hRx3.up hb4
  have hRy4 := hRy3.up hb4
  have Hb4 := Lib.hid (show Below w.heap.size w w4 from Hb3.out.trans (hb4.mono Hb3.out.size))
  clear hRx3 hRy3 hb4 Hx3 Hy3
  cases r1 with
  | true =>
    go_wp2_with fail
    go_ret
    exact ⟨rfl, Hb4.out⟩
  | false =>
  obtain ⟨r2, hr2⟩ : ∃ r, greatC y.c = r := ⟨_, rfl⟩
  have Hr2 := Lib.hid hr2
  clear hr2
  go_wp2_with ((with_reducible refine wpList_at 18 (by rfl) ?_); refine wpList_load_mid_ifC (by rfl) _ _ rfl gy 0 rfl YL _ (Arr.range hRy4) Try.underlying30 rfl HIy.out ?_)
  refine Calls.mono (great_anyC y YL HYL.out w4 ((Hy.out.below Hb4.out (Nat.le_refl _)).more Hb4.out.size) r2 Hr2.out) ?_
  rintro e w5 ⟨rfl, hb5⟩
  have hRx5 := hRx4.up hb5
  have hRy5 := hRy4.up hb5
  have Hb5 := Lib.hid (show Below w.heap.size w w5 from Hb4.out.trans (hb5.mono Hb4.out.size))
  clear hRx4 hRy4 hb5
  cases r2 with
  | true =>
    go_wp2_with fail
    go_ret
    exact ⟨rfl, Hb5.out⟩
  | false =>
  go_wp2_with ((with_reducible refine wpList_at 22 (by rfl) ?_); refine wpList_load_mid_ifC (by rfl) _ _ rfl gx 0 rfl XL _ (Arr.range hRx5) Try.underlying30 rfl HIx.out ?_)
  refine Calls.mono (enc_any x XL HXL.out w5 ((Hx.out.below Hb5.out (Nat.le_refl _)).more Hb5.out.size) (by have := (greatC_no Hr1.out).1; omega) (by have := (greatC_no Hr1.out).2.1; omega) (fun e he => by have := (greatC_no Hr1.out).2.2 e he; omega)) ?_
  rintro e w6 ⟨v1, k1, rfl, hb6, hp1⟩
  have hRx6 := hRx5.up hb6
  have hRy6 := hRy5.up hb6
  have Hb6 := Lib.hid (show Below w.heap.size w w6 from Hb5.out.trans (hb6.mono Hb5.out.size))
  have Hp1 := Lib.hid hp1
  have Hs56 := Lib.hid hb6.size
  clear hRx5 hRy5 hb6 hp1
  go_wp2_with ((with_reducible refine wpList_at 27 (by rfl) ?_); refine wpList_load_mid_ifC (by rfl) _ _ rfl gy 0 rfl YL _ (Arr.range hRy6) Try.underlying30 rfl HIy.out ?_)
  refine Calls.mono (enc_any y YL HYL.out w6 ((Hy.out.below Hb6.out (Nat.le_refl _)).more Hb6.out.size) (by have := (greatC_no Hr2.out).1; omega) (by have := (greatC_no Hr2.out).2.1; omega) (fun e he => by have := (greatC_no Hr2.out).2.2 e he; omega)) ?_
  rintro e w7 ⟨v2, k2, rfl, hb7, hp2⟩
  have hRx7 := hRx6.up hb7
  have hRy7 := hRy6.up hb7
  have Hb7 := Lib.hid (show Below w.heap.size w w7 from Hb6.out.trans (hb7.mono Hb6.out.size))
  have Hp2 := Lib.hid hp2
  have Hb67 := Lib.hid hb7
  clear hRx6 hRy6 hb7 hp2
  by_cases hk1 : k1 = 0
  · subst hk1
    by_cases hk2 : k2 = 0
    · subst hk2
      obtain ⟨hm1, hl1, hown1⟩ : MayC x.c ∧ (encC x.c).length ≤ 65536 ∧ Owns w6 w5.heap.size 5 v1 (encC x.c) := by
        rcases Hp1.out with ⟨_, h, _⟩ | ⟨_, _, h, _⟩ | ⟨h1, h2, _, h3⟩
        · omega
        · omega
        · exact ⟨h1, h2, h3⟩
      obtain ⟨hm2, hl2, hown2⟩ : MayC y.c ∧ (encC y.c).length ≤ 65536 ∧ Owns w7 w6.heap.size 5 v2 (encC y.c) := by
        rcases Hp2.out with ⟨_, h, _⟩ | ⟨_, _, h, _⟩ | ⟨h1, h2, _, h3⟩
        · omega
        · omega
        · exact ⟨h1, h2, h3⟩
      have Hok1 := Lib.hid (okC_of Hx.out hm1 hl1 Hr1.out)
      have Hok2 := Lib.hid (okC_of Hy.out hm2 hl2 Hr2.out)
      have hown1' := hown1.below Hb67.out (fun k hk => (hown1.lt k hk).2)
      obtain ⟨A1, c1, rfl, hc1, hcm1, hbs1⟩ := Owns.slice hown1'
      obtain ⟨A2, c2, rfl, hc2, hcm2, hbs2⟩ := Owns.slice hown2
      obtain ⟨n1, hn1⟩ : ∃ z, (encC x.c).length = z := ⟨_, rfl⟩
      obtain ⟨n2, hn2⟩ : ∃ z, (encC y.c).length = z := ⟨_, rfl⟩
      have hpos : 0 < n1 := by rw [← hn1]; exact enc_pos _
      rw [hn1] at hc1
      rw [hn1, hn2]
      have Hn1 := Lib.hid hn1
      have Hn2 := Lib.hid hn2
      have Hbs1 := Lib.hid hbs1
      have Hbs2 := Lib.hid hbs2
      have Hl := Lib.hid (show n1 ≤ 65536 ∧ n2 ≤ 65536 from ⟨by omega, by omega⟩)
      have hcb : n1 ≤ c1 ∧ c1 ≤ 9223372036854775807 := ⟨hc1, by unfold maxLen at hcm1; omega⟩
      have q1 : ((n1 : Int) == 0) = false := by rw [beq_eq_false_iff_ne]; omega
      have q2 : (n1 == 0) = false := by rw [beq_eq_false_iff_ne]; omega
      clear hm1 hl1 hown1 hm2 hl2 hown2 hown1' hbs1 hbs2 hn1 hn2 hc1 hc2 hcm1 hcm2 Hp1 Hp2
      go_upto_region 9 with fail
      obtain ⟨m, hm, hmB⟩ := andN_ffff z
      obtain ⟨k, hk⟩ : ∃ q, m % n1 = q := ⟨_, rfl⟩
      have hkl : k < n1 := by rw [← hk]; exact Nat.mod_lt _ hpos
      have hkI : (m : Int) % (n1 : Int) = (k : Int) := by rw [← hk]; exact (Int.natCast_emod m n1).symm
      have hkT : (m : Int).tmod (n1 : Int) = (k : Int) := by rw [Int.tmod_eq_emod_of_nonneg (by omega)]; exact hkI
      have hkc : k ≤ c1 ∧ k ≤ n1 := by omega
      go_wp2_with fail
      have Hbk := Lib.hid (show Bs w7 w7.heap.size A1 ((encC x.c).take k) from Bs.take Hbs1.out)
      refine Calls.mono (dec_any A1 k c1 ((encC x.c).take k) (by rw [List.length_take, Hn1.out]; omega) (by omega) (by unfold maxLen; omega) w7 Hbk.out) ?_
      rintro e w8 ⟨hb8, hres⟩
      obtain rfl : e = .returned (.tuple #[.agg comZ.toArray, .int .i64 3]) := by
        rcases hres with ⟨_, _, _, _, hg⟩ | ⟨he, _⟩
        · exact absurd hg (cut_bad Hok1.out (by rw [Hn1.out]; exact hkl))
        · exact he
      have hRx8 := hRx7.up hb8
      have hRy8 := hRy7.up hb8
      have Hb8 := Lib.hid (show Below w.heap.size w w8 from Hb7.out.trans (hb8.mono Hb7.out.size))
      have Hs78 := Lib.hid hb8.size
      have Hbs81 := Lib.hid (Hbs1.out.below hb8 (Nat.le_refl _))
      have Hbs82 := Lib.hid (Hbs2.out.below hb8 (Nat.le_refl _))
      obtain ⟨RL, hRL⟩ : ∃ z, z = comZ := ⟨_, rfl⟩
      rw [← hRL]
      obtain ⟨ZL, hZL⟩ : ∃ z, z = comZ := ⟨_, rfl⟩
      have HZ0 := Lib.hid (fun w : World => show (zeroValue 30).run Try.prog w = .ok (.agg ZL.toArray) w by rw [hZL]; exact comZero w)
      have HZi := Lib.hid (show (Try.prog.info? 30).map (·.size) = some RL.toArray.size ∧ ZL.toArray.size = RL.toArray.size by rw [hZL, hRL]; exact ⟨comSize, rfl⟩)
      have HZ1 := Lib.hid (show RL.toArray.all (·.oneCell') = true by rw [hRL]; exact all_oneC (comV_one (refC_cell _ _ _) (refC_cell _ _ _) (refC_cell _ _ _) (byteCells_one _) rfl rfl))
      clear hres hZL hRL hb8 hRx7 hRy7 hk hkl hkI hkT hkc hm hmB hpos Hbk
      go_upto_region 10 with (first | (refine wpList_allocZC rfl 30 rfl ZL.toArray (HZ0.out _) ?_) | (change wpList _ _ _ _ _ (w8.alloc (.cells ZL.toArray 30)); refine wpList_store_row rfl _ _ _ rfl w8.heap.size RL.toArray rfl rfl 30 ZL.toArray (heap_alloc_new w8 _) HZi.out.1 HZi.out.2 HZ1.out ?_; obtain ⟨w9, hw9⟩ : ∃ x, x = (w8.alloc (.cells ZL.toArray 30)).setRow w8.heap.size RL.toArray := ⟨_, rfl⟩; rw [← hw9]; obtain ⟨hP9, hb9⟩ := alloc_row w8 30 ZL.toArray RL; rw [← hw9] at hP9 hb9; clear hw9))
      have hRx9 := hRx8.up hb9
      have hRy9 := hRy8.up hb9
      have Hb9 := Lib.hid (show Below w.heap.size w w9 from Hb8.out.trans (hb9.mono Hb8.out.size))
      have Hb91 := Lib.hid (Hbs81.out.below hb9 Hs78.out)
      have Hb92 := Lib.hid (Hbs82.out.below hb9 Hs78.out)
      clear hb9 hP9 hRx8 hRy8 HZ0 HZi HZ1
      obtain ⟨q, hq⟩ : ∃ q, decide (encC x.c = encC y.c) = q := ⟨_, rfl⟩
      have hqq : (q == q) = true := by simp
      have hsame := fun d => same_any w7.heap.size w7.heap.size A1 A2 c1 c2 (encC x.c) (encC y.c) (w9.drewN d) (Hb91.out.drewN d) (Hb92.out.drewN d) (by rw [Hn1.out]; have := Hl.out; unfold maxLen; omega) (by rw [Hn2.out]; have := Hl.out; unfold maxLen; omega)
      rw [Hn1.out, Hn2.out, hq] at hsame
      have hqc : q = true ↔ x.c = y.c := by
        rw [← hq, decide_eq_true_eq]
        exact ⟨fun h => enc_inj Hok1.out Hok2.out h, fun h => by rw [h]⟩
      have hsameC := fun d => same_anyC x y XL YL HXL.out HYL.out (w9.drewN d) ((Hx.out.below (Below.dN Hb9.out d) (Nat.le_refl _)).more Hb9.out.size) ((Hy.out.below (Below.dN Hb9.out d) (Nat.le_refl _)).more Hb9.out.size) q hqc
      have Hsame := Lib.hid hsame
      have HsameC := Lib.hid hsameC
      clear hsame hsameC hq hqc hcb q1 q2
      refine wp_region_held_drew (S := fun w' => Arr w' gx 30 XL ∧ Arr w' gy 30 YL) (by kernel_rfl) ⟨hRx9, hRy9⟩ (fun hHeld => ?_)
      refine anyH_take (i := 0) (v := .slice A1 n1 c1) (some 59) rfl rfl (by kernel_rfl) (by kernel_rfl) (by kernel_rfl) (fun _ _ _ h => h) (Or.inl ⟨by rfl, fun w' hw => by (go_simp)⟩) (by assumption) ?_
      simp only [Act.put, List.setIfInBounds_toArray, List.set_cons_zero, List.set_cons_succ]
      refine anyH_take (i := 1) (v := .slice A2 n2 c2) (some 60) rfl rfl (by kernel_rfl) (by kernel_rfl) (by kernel_rfl) (fun _ _ _ h => h) (Or.inl ⟨by rfl, fun w' hw => by (go_simp)⟩) (by assumption) ?_
      simp only [Act.put, List.setIfInBounds_toArray, List.set_cons_zero, List.set_cons_succ]
      refine anyH_take (i := 3) (v := .agg XL.toArray) (some 62) rfl rfl (by kernel_rfl) (by kernel_rfl) (by kernel_rfl) (fun _ _ _ h => h) (yieldsIf_load_mid (by rfl) 30 (.tmp 3) rfl gx 0 rfl XL _ (fun w' h => Arr.range h.1) Try.underlying30 rfl HIx.out) (by assumption) ?_
      simp only [Act.put, List.setIfInBounds_toArray, List.set_cons_zero, List.set_cons_succ]
      refine anyH_take (i := 4) (v := .agg YL.toArray) (some 63) rfl rfl (by kernel_rfl) (by kernel_rfl) (by kernel_rfl) (fun _ _ _ h => h) (yieldsIf_load_mid (by rfl) 30 (.tmp 4) rfl gy 0 rfl YL _ (fun w' h => Arr.range h.2) Try.underlying30 rfl HIy.out) (by assumption) ?_
      simp only [Act.put, List.setIfInBounds_toArray, List.set_cons_zero, List.set_cons_succ]
      refine wpAnyH_ready (rs := [2]) (by kernel_rfl) (by simp) ?_
      refine AllReadyH.cons rfl (fun K hK => ?_) AllReadyH.nil
      go_simp
      go_at_call 13
      refine Calls.mono (Hsame.out 1) ?_
      rintro e w10 ⟨rfl, nd, rfl⟩
      go_wp2_with fail
      refine hK.out _ _ ⟨hRx9, hRy9⟩ (fun hHeldx => ?_)
      clear hK K
      try simp only [Act.put, List.setIfInBounds_toArray, List.set_cons_zero, List.set_cons_succ]
      refine wpAnyH_ready (rs := [5]) (by kernel_rfl) (by simp) ?_
      refine AllReadyH.cons rfl (fun K hK => ?_) AllReadyH.nil
      go_simp
      go_at_call 14
      refine Calls.mono (HsameC.out (1 + nd)) ?_
      rintro e w11 ⟨rfl, hb11⟩
      have Hb11 := Lib.hid hb11
      have hRx11 := Arr.up (w := w9.drewN (1 + nd)) hRx9 hb11
      have hRy11 := Arr.up (w := w9.drewN (1 + nd)) hRy9 hb11
      clear hb11
      go_wp2_with fail
      refine hK.out _ _ ⟨hRx11, hRy11⟩ (fun hHeldx => ?_)
      clear hK K
      try simp only [Act.put, List.setIfInBounds_toArray, List.set_cons_zero, List.set_cons_succ]
      refine anyH_take (i := 6) (v := .bool true) (some 65) rfl rfl (by kernel_rfl) (by kernel_rfl) (by kernel_rfl) (fun _ _ _ h => h) (Or.inl ⟨by rfl, fun w' hw => by (have hc := hqq; go_simp)⟩) (by assumption) ?_
      simp only [Act.put, List.setIfInBounds_toArray, List.set_cons_zero, List.set_cons_succ]
      refine anyH_take (i := 7) (v := .bool true) (some 66) rfl rfl (by kernel_rfl) (by kernel_rfl) (by kernel_rfl) (fun _ _ _ h => h) (Or.inl ⟨by rfl, fun w' hw => by (go_simp)⟩) (by assumption) ?_
      simp only [Act.put, List.setIfInBounds_toArray, List.set_cons_zero, List.set_cons_succ]
      refine anyH_take (i := 8) (v := .int .i64 3) (some 67) rfl rfl (by kernel_rfl) (by kernel_rfl) (by kernel_rfl) (fun _ _ _ h => h) (Or.inl ⟨by rfl, fun w' hw => by (go_simp)⟩) (by assumption) ?_
      simp only [Act.put, List.setIfInBounds_toArray, List.set_cons_zero, List.set_cons_succ]
      refine anyH_take (i := 9) (v := .bool true) (some 68) rfl rfl (by kernel_rfl) (by kernel_rfl) (by kernel_rfl) (fun _ _ _ h => h) (Or.inl ⟨by rfl, fun w' hw => by (go_simp)⟩) (by assumption) ?_
      simp only [Act.put, List.setIfInBounds_toArray, List.set_cons_zero, List.set_cons_succ]
      refine anyH_take (i := 10) (v := .bool true) (some 69) rfl rfl (by kernel_rfl) (by kernel_rfl) (by kernel_rfl) (fun _ _ _ h => h) (Or.inl ⟨by rfl, fun w' hw => by (go_simp)⟩) (by assumption) ?_
      simp only [Act.put, List.setIfInBounds_toArray, List.set_cons_zero, List.set_cons_succ]
      refine anyH_take (i := 11) (v := .bool true) (some 6) rfl rfl (by kernel_rfl) (by kernel_rfl) (by kernel_rfl) (fun _ _ _ h => h) (Or.inl ⟨by rfl, fun w' hw => by (go_simp)⟩) (by assumption) ?_
      simp only [Act.put, List.setIfInBounds_toArray, List.set_cons_zero, List.set_cons_succ]
      refine wpAnyH_done (by kernel_rfl) ?_ _
      clear hHeld
      go_wp2_with fail
      go_ret
      exact ⟨rfl, (Below.dN Hb9.out (1 + nd)).trans (Hb11.out.mono Hb9.out.size)⟩
    · have q2 : ((0 : Int) != 0) = false := by simp
      have q3 : (k2 != 0) = true := by simpa using hk2
      go_wp2_with fail
      go_ret
      exact ⟨rfl, Hb7.out⟩
  · have q3 : (k1 != 0) = true := by simpa using hk1
    go_wp2_with fail
    go_ret
    exact ⟨rfl, Hb7.out⟩

end Go.Proofs.Ytejnonpmjaeagaa

namespace Go.Proofs.Ytejnonpmjaeagaa
open Go.RowKit Go.ChangeShapes Go.WideShapes
set_option linter.unusedVariables false

theorem row_cell {H : Type} {enc : TypeId × Value → H} {W : World} {v : Value} {y : DataW H × List MemPlace} {n : Nat} (h : DataW.trod enc Try.prog W 0 (fun _ => true) true n 33 [v] = some y) :
    ∃ (A : Option Addr) (c : Nat) (l : List UInt8), v = .slice A l.length c ∧ l.length ≤ c ∧ c ≤ maxLen ∧ Bs W W.heap.size A l := by
  rcases open_ints Try.underlying33 Try.underlying5 (by kernel_rfl) h with ⟨hcs, _⟩ | ⟨x, l, c, zs, hcs, _, hl, hm, hz, _, hcell, hwz⟩
  · simp at hcs
    subst hcs
    exact ⟨none, 0, [], rfl, Nat.le_refl _, by unfold maxLen; omega, Bs.nil _ _ _⟩
  · simp at hcs
    subst hcs
    obtain ⟨l', hl', hb'⟩ := bs_of_ints (w := W) (len := l) (zs := zs) (by simp at hz; omega) hcell (fun n hn => bounds_u8 (hwz n hn))
    subst hl'
    exact ⟨some x, c, l', rfl, hl, hm, hb'⟩

theorem rows_arg {H : Type} {enc : TypeId × Value → H} {W : World} {A : Option Addr} {len cap : Nat} {d : DataW H} {p : List MemPlace} (h : DataW.Trod enc Try.prog W 0 (fun _ => true) true 28 (.slice A len cap) d p) :
    ∃ rs : List (List UInt8), rs.length = len ∧ len ≤ cap ∧ cap ≤ maxLen ∧ RowsAt W W.heap.size A rs := by
  obtain ⟨fuel, hf⟩ := h
  rcases Go.Deep.open_slice Try.underlying28 hf with ⟨h0, _⟩ | ⟨a, len', cap', m, n, D, Pl, hcs, _, hl, hm, hmm, _, hi⟩
  · simp [Value.cells] at h0
    obtain ⟨rfl, rfl, rfl⟩ := h0
    exact ⟨[], rfl, Nat.le_refl _, by unfold maxLen; omega, fun h => absurd h (by simp)⟩
  · simp [Value.cells] at hcs
    obtain ⟨rfl, rfl, rfl⟩ := hcs
    have hC : Try.prog.cellsOf 33 = 1 := by kernel_rfl
    have hle : len ≤ m := by rw [hmm]; split <;> omega
    have hall : ∀ i, i < len → ∃ l : List UInt8, ∃ A' c, W.cell? (a.add i) = some (.slice A' l.length c) ∧ l.length ≤ c ∧ c ≤ maxLen ∧ Bs W W.heap.size A' l := by
      intro i him
      obtain ⟨cs', hc, ht'⟩ := hi i (by omega)
      rw [hC] at hc
      obtain ⟨_, hcl, hat⟩ := World.cells?_some hc
      match cs', hcl with
      | [v], _ =>
        obtain ⟨A', c, l, rfl, h1, h2, h3⟩ := row_cell ht'
        have h0 := hat 0 (by omega)
        refine ⟨l, A', c, ?_, h1, h2, h3⟩
        rw [Go.Deep.add_add] at h0
        simpa using h0
    have hch : ∃ f : Nat → List UInt8, ∀ i, i < len → ∃ A' c, W.cell? (a.add i) = some (.slice A' (f i).length c) ∧ (f i).length ≤ c ∧ c ≤ maxLen ∧ Bs W W.heap.size A' (f i) := by
      classical
      refine ⟨fun i => if hi : i < len then Classical.choose (hall i hi) else [], fun i hi => ?_⟩
      simp only [dif_pos hi]
      exact Classical.choose_spec (hall i hi)
    clear hall
    obtain ⟨f, hf2⟩ := hch
    refine ⟨(List.range len).map f, by simp, hl, hm, fun hp => ?_⟩
    have hp' : 0 < len := by simpa using hp
    obtain ⟨b, off, spot⟩ := a
    obtain ⟨_, _, hc0, _⟩ := hf2 0 hp'
    have hspot : spot = none := by simpa [Addr.add] using World.cell?_spot hc0
    subst hspot
    refine ⟨b, off, rfl, World.block_lt_of_cell? W _ (by simpa [Addr.add] using hc0), fun i hi => ?_⟩
    have hi' : i < len := by simpa using hi
    obtain ⟨A', c, g0, g1, g2, g3⟩ := hf2 i hi'
    have hadd : (⟨b, off, none⟩ : Addr).add i = ⟨b, off + i, none⟩ := by unfold Addr.add; split <;> simp_all
    rw [hadd] at g0
    have hg : ((List.range len).map f).getD i [] = f i := by simp [List.getD, hi']
    rw [hg]
    exact ⟨A', c, g0, g1, g2, g3⟩

end Go.Proofs.Ytejnonpmjaeagaa

namespace Go.Proofs.Ytejnonpmjaeagaa
open Go.RowKit Go.ChangeShapes Go.WideShapes
set_option maxRecDepth 100000
set_option linter.unusedVariables false
set_option linter.unusedSimpArgs false

theorem dig_cellsN {H : Type} {enc : TypeId × Value → H} {W : World} {base : Nat} {sp : Nat → Bool} {held : Bool} {m : Nat} {cs : List Value} {x : DataW H × List MemPlace} (hl : cs.length = 32) (h : DataW.trod enc Try.prog W base sp held m 24 cs = some x) : ∃ l : List UInt8, l.length = 32 ∧ cs = Lib.byteCells l := by
  have hr : ∃ l : List UInt8, l.length = 32 ∧ (.agg cs.toArray : Value) = digV l := by
    obtain ⟨xs, m', _, _, hlen, hn, hel⟩ := DataW.trod_array Try.underlying24 h
    have hc1 : Try.prog.cellsOf 5 = 1 := by kernel_rfl
    have hall : ∀ i, i < 32 → ∃ b : UInt8, cs[i]? = some (.int .u8 (b.toNat : Nat)) := by
      intro i hi
      have h1 := hel i hi
      rw [hc1, Nat.mul_one] at h1
      have hx : xs[i]? = some (xs[i]'(by omega)) := List.getElem?_eq_getElem (by omega)
      rw [hx] at h1
      have hd : ((cs.drop i).take 1) = [cs[i]'(by omega)] := by rw [List.drop_eq_getElem_cons (by omega)]; rfl
      rw [hd] at h1
      obtain ⟨k, e, _, hw⟩ := DataW.trod_int Try.underlying5 h1
      have hb := bounds_u8 hw
      simp only [List.cons.injEq, and_true] at e
      refine ⟨k.toNat.toUInt8, ?_⟩
      rw [List.getElem?_eq_getElem (by omega), e, Lib.toUInt8_toNat (by omega), Int.toNat_of_nonneg hb.1]
    have hch : ∃ f : Nat → UInt8, ∀ i, i < 32 → cs[i]? = some (.int .u8 ((f i).toNat : Nat)) := by
      classical
      refine ⟨fun i => if hi : i < 32 then Classical.choose (hall i hi) else 0, fun i hi => ?_⟩
      simp only [dif_pos hi]
      exact Classical.choose_spec (hall i hi)
    obtain ⟨f, hf2⟩ := hch
    refine ⟨(List.range 32).map f, by simp, ?_⟩
    unfold digV
    congr 2
    apply List.ext_getElem?
    intro i
    by_cases hi : i < 32
    · rw [hf2 i hi]
      simp [Lib.byteCells, hi]
    · rw [List.getElem?_eq_none (by omega), List.getElem?_eq_none (by simp [Lib.byteCells]; omega)]
  obtain ⟨l, h1, h2⟩ := hr
  refine ⟨l, h1, ?_⟩
  unfold digV at h2
  injection h2 with h2
  simpa using congrArg Array.toList h2

theorem int_cellN {H : Type} {enc : TypeId × Value → H} {W : World} {base : Nat} {sp : Nat → Bool} {held : Bool} {v : Value} {y : DataW H × List MemPlace} {n : Nat} (h : DataW.trod enc Try.prog W base sp held n 3 [v] = some y) :
    ∃ z, v = .int .i64 z ∧ -9223372036854775808 ≤ z ∧ z ≤ 9223372036854775807 := by
  obtain ⟨z, hcs, _, hw⟩ := DataW.trod_int Try.underlying3 h
  simp at hcs
  exact ⟨z, hcs, bounds_i64 hw⟩


theorem cells_cut (cs : List Value) (a n : Nat) : (cs.drop a).take n ++ cs.drop (a + n) = cs.drop a := by
  rw [← List.drop_drop]; exact List.take_append_drop n (cs.drop a)
theorem u64_cellC {H : Type} {enc : TypeId × Value → H} {W : World} {base : Nat} {sp : Nat → Bool} {held : Bool} {v : Value} {y : DataW H × List MemPlace} {n : Nat} (h : DataW.trod enc Try.prog W base sp held n 22 [v] = some y) :
    ∃ z : Nat, v = .int .u64 (z : Nat) ∧ z < 18446744073709551616 := by
  obtain ⟨z, hcs, _, hw⟩ := DataW.trod_int Try.underlying22 h
  simp at hcs
  have hb := bounds_u64 hw
  refine ⟨z.toNat, ?_, by omega⟩
  rw [hcs, Int.toNat_of_nonneg (by omega)]
theorem ref_cells {H : Type} {enc : TypeId × Value → H} {W : World} {base : Nat} {sp : Nat → Bool} {held : Bool} {m : Nat} {cs : List Value} {x : DataW H × List MemPlace} (hl : cs.length = 34) (hf : DataW.trod enc Try.prog W base sp held m 26 cs = some x) :
    ∃ r : RefF, RefW r ∧ cs = rC r := by
  obtain ⟨ys, n', _, _, hlen, hyl, hff⟩ := DataW.trod_struct Try.underlying26 hf
  have g : ∀ j (hj : j < ys.length), ys[j]? = some (ys[j]) := fun j hj => List.getElem?_eq_getElem hj
  have hy3 : ys.length = 3 := hyl
  have c0 : DataW.trod enc Try.prog W base sp held n' 24 ((cs.drop 0).take (Try.prog.cellsOf 24)) = ys[0]? := hff 0 _ rfl
  have c1 : DataW.trod enc Try.prog W base sp held n' 3 ((cs.drop 32).take (Try.prog.cellsOf 3)) = ys[1]? := hff 1 _ rfl
  have c2 : DataW.trod enc Try.prog W base sp held n' 3 ((cs.drop 33).take (Try.prog.cellsOf 3)) = ys[2]? := hff 2 _ rfl
  have k1 : Try.prog.cellsOf 3 = 1 := by kernel_rfl
  have k32 : Try.prog.cellsOf 24 = 32 := by kernel_rfl
  rw [k32, g 0 (by omega)] at c0
  rw [k1, g 1 (by omega), show (cs.drop 32).take 1 = [cs[32]'(by omega)] by rw [List.drop_eq_getElem_cons (by omega)]; rfl] at c1
  rw [k1, g 2 (by omega), show (cs.drop 33).take 1 = [cs[33]'(by omega)] by rw [List.drop_eq_getElem_cons (by omega)]; rfl] at c2
  obtain ⟨l, h32, e0⟩ := dig_cellsN (by rw [List.length_take, List.length_drop]; omega) c0
  obtain ⟨a, e1, ha⟩ := int_cellN c1
  obtain ⟨n, e2, hn⟩ := int_cellN c2
  refine ⟨⟨l, a, n⟩, ⟨h32, ha, hn⟩, ?_⟩
  show cs = refC l a n
  unfold refC
  rw [← e1, ← e2, ← e0]
  have t2 : cs.drop 32 = [cs[32]'(by omega), cs[33]'(by omega)] := by rw [List.drop_eq_getElem_cons (by omega), List.drop_eq_getElem_cons (by omega), List.drop_of_length_le (by omega)]
  rw [← t2]
  exact (cells_cut cs 0 32).symm
theorem bin_cells {H : Type} {enc : TypeId × Value → H} {W : World} {base : Nat} {sp : Nat → Bool} {held : Bool} {m : Nat} {cs : List Value} {x : DataW H × List MemPlace} (hl : cs.length = 35) (hf : DataW.trod enc Try.prog W base sp held m 54 cs = some x) :
    ∃ b : BinF, BinW b ∧ cs = bC b := by
  obtain ⟨ys, n', _, _, hlen, hyl, hff⟩ := DataW.trod_struct Try.underlying54 hf
  have g : ∀ j (hj : j < ys.length), ys[j]? = some (ys[j]) := fun j hj => List.getElem?_eq_getElem hj
  have hy3 : ys.length = 4 := hyl
  have c0 : DataW.trod enc Try.prog W base sp held n' 3 ((cs.drop 0).take (Try.prog.cellsOf 3)) = ys[0]? := hff 0 _ rfl
  have c1 : DataW.trod enc Try.prog W base sp held n' 3 ((cs.drop 1).take (Try.prog.cellsOf 3)) = ys[1]? := hff 1 _ rfl
  have c2 : DataW.trod enc Try.prog W base sp held n' 3 ((cs.drop 2).take (Try.prog.cellsOf 3)) = ys[2]? := hff 2 _ rfl
  have c3 : DataW.trod enc Try.prog W base sp held n' 24 ((cs.drop 3).take (Try.prog.cellsOf 24)) = ys[3]? := hff 3 _ rfl
  have k1 : Try.prog.cellsOf 3 = 1 := by kernel_rfl
  have k32 : Try.prog.cellsOf 24 = 32 := by kernel_rfl
  rw [k1, g 0 (by omega), show (cs.drop 0).take 1 = [cs[0]'(by omega)] by rw [List.drop_eq_getElem_cons (by omega)]; rfl] at c0
  rw [k1, g 1 (by omega), show (cs.drop 1).take 1 = [cs[1]'(by omega)] by rw [List.drop_eq_getElem_cons (by omega)]; rfl] at c1
  rw [k1, g 2 (by omega), show (cs.drop 2).take 1 = [cs[2]'(by omega)] by rw [List.drop_eq_getElem_cons (by omega)]; rfl] at c2
  rw [k32, g 3 (by omega)] at c3
  obtain ⟨x, e0, hx⟩ := int_cellN c0
  obtain ⟨a, e1, ha⟩ := int_cellN c1
  obtain ⟨n, e2, hn⟩ := int_cellN c2
  obtain ⟨l, h32, e3⟩ := dig_cellsN (by rw [List.length_take, List.length_drop]; omega) c3
  refine ⟨⟨x, a, n, l⟩, ⟨hx, ha, hn, h32⟩, ?_⟩
  show cs = binC x a n l
  unfold binC
  rw [← e0, ← e1, ← e2, ← e3, List.take_of_length_le (by rw [List.length_drop]; omega)]
  conv => lhs; rw [← List.drop_zero (l := cs), List.drop_eq_getElem_cons (by omega), List.drop_eq_getElem_cons (by omega), List.drop_eq_getElem_cons (by omega)]
theorem bins_cells {H : Type} {enc : TypeId × Value → H} {W : World} {v : Value} {fuel : Nat} {y : DataW H × List MemPlace} (hf : DataW.trod enc Try.prog W 0 (fun _ => true) true fuel 27 [v] = some y) :
    ∃ (A : Option Addr) (bs : List BinF) (cap : Nat), v = .slice A bs.length cap ∧ bs.length ≤ cap ∧ cap ≤ maxLen ∧ (∀ b ∈ bs, BinW b) ∧ RowOf bC 35 W W.heap.size A bs := by
  rcases Go.Deep.open_slice Try.underlying27 hf with ⟨h0, _⟩ | ⟨a, len, cap, m, n, D, Pl, hcs, _, hl, hm, hmm, _, hi⟩
  · simp at h0
    subst h0
    exact ⟨none, [], 0, rfl, Nat.le_refl _, by unfold maxLen; omega, by simp, fun h => absurd h (by simp)⟩
  · simp at hcs
    subst hcs
    have hC : Try.prog.cellsOf 54 = 35 := by kernel_rfl
    have hle : len ≤ m := by rw [hmm]; split <;> omega
    have hall : ∀ i, i < len → ∃ b : BinF, BinW b ∧ ∀ j u, (bC b)[j]? = some u → W.cell? (a.add (i * 35 + j)) = some u := by
      intro i him
      obtain ⟨cs', hc, ht'⟩ := hi i (by omega)
      rw [hC] at hc
      obtain ⟨_, hcl, hat⟩ := World.cells?_some hc
      obtain ⟨b, hb, rfl⟩ := bin_cells hcl ht'
      refine ⟨b, hb, fun j u hj => ?_⟩
      have hj35 : j < 35 := by have := (List.getElem?_eq_some_iff.1 hj).1; rw [bC_length hb] at this; omega
      have h0 := hat j hj35
      rw [Go.Deep.add_add] at h0
      rw [h0, hj]
    have hch : ∃ f : Nat → BinF, ∀ i, i < len → BinW (f i) ∧ ∀ j u, (bC (f i))[j]? = some u → W.cell? (a.add (i * 35 + j)) = some u := by
      classical
      refine ⟨fun i => if hi : i < len then Classical.choose (hall i hi) else zB, fun i hi => ?_⟩
      simp only [dif_pos hi]
      exact Classical.choose_spec (hall i hi)
    clear hall
    obtain ⟨f, hf2⟩ := hch
    refine ⟨some a, (List.range len).map f, cap, by simp, by simpa using hl, hm, ?_, fun hp => ?_⟩
    · intro b hb
      simp only [List.mem_map, List.mem_range] at hb
      obtain ⟨i, hi', rfl⟩ := hb
      exact (hf2 i hi').1
    · have hp' : 0 < len := by simpa using hp
      obtain ⟨b, off, spot⟩ := a
      obtain ⟨hw0, hc0⟩ := hf2 0 hp'
      have hc00 := hc0 0 (.int .i64 (f 0).x) rfl
      have hspot : spot = none := by simpa [Addr.add] using World.cell?_spot hc00
      subst hspot
      refine ⟨b, off, rfl, World.block_lt_of_cell? W _ (by simpa [Addr.add] using hc00), fun i x hx j u hj => ?_⟩
      have hi' : i < len := by have := (List.getElem?_eq_some_iff.1 hx).1; simpa using this
      have hg : x = f i := by simp [hi'] at hx; exact hx.symm
      rw [hg] at hj
      have h1 := (hf2 i hi').2 j u hj
      have hadd : (⟨b, off, none⟩ : Addr).add (i * 35 + j) = ⟨b, off + i * 35 + j, none⟩ := by unfold Addr.add; split <;> simp_all <;> omega
      rwa [hadd] at h1
theorem rows_cells {H : Type} {enc : TypeId × Value → H} {W : World} {v : Value} {fuel : Nat} {y : DataW H × List MemPlace} (hf : DataW.trod enc Try.prog W 0 (fun _ => true) true fuel 28 [v] = some y) :
    ∃ (A : Option Addr) (rs : List (List UInt8)) (cap : Nat), v = .slice A rs.length cap ∧ rs.length ≤ cap ∧ cap ≤ maxLen ∧ RowsAt W W.heap.size A rs := by
  have hv : ∃ A len cap, v = .slice A len cap := by
    rcases Go.Deep.open_slice Try.underlying28 hf with ⟨h0, _⟩ | ⟨a, len, cap, m, n, D, Pl, hcs, _⟩
    · simp at h0; exact ⟨_, _, _, h0⟩
    · simp at hcs; exact ⟨_, _, _, hcs⟩
  obtain ⟨A, len, cap, rfl⟩ := hv
  obtain ⟨rs, hl, hc, hm, hr⟩ := rows_arg (d := y.1) (p := y.2) ⟨fuel, hf⟩
  subst hl
  exact ⟨A, rs, cap, rfl, hc, hm, hr⟩
theorem com_open {H : Type} {enc : TypeId × Value → H} {W : World} {r : Reach} {b0 : Nat} {v : Value} {d : DataW H} {p : List MemPlace}
    (hv : Value.okWide Try.prog W r b0 30 v) (h : DataW.Trod enc Try.prog W 0 (fun _ => true) true 30 v d p) :
    ∃ x : Cx, CxOk W W.heap.size x ∧ v = .agg (comC x).toArray := by
  have hT := Try.underlying30
  obtain ⟨cs0, rfl, hsz, _⟩ : ∃ cs, v = .agg cs ∧ cs.size = Try.prog.cellsOf 30 ∧ Row.okWide Try.prog W r b0 30 cs := by
    simpa [Value.okWide, hT] using hv
  obtain ⟨fuel, hf⟩ := h
  have hC : Try.prog.cellsOf 30 = 137 := by kernel_rfl
  rw [hC] at hsz
  obtain ⟨cs⟩ := cs0
  have hl : cs.length = 137 := hsz
  obtain ⟨ys, n', _, _, hlen, hyl, hff⟩ := DataW.trod_struct Try.underlying30 hf
  have hcs : (Value.agg cs.toArray).cells.toList = cs := by simp [Value.cells]
  have g : ∀ j (hj : j < ys.length), ys[j]? = some (ys[j]) := fun j hj => List.getElem?_eq_getElem hj
  have hy7 : ys.length = 7 := hyl
  have c0 : DataW.trod enc Try.prog W 0 (fun _ => true) true n' 22 ((cs.drop 0).take (Try.prog.cellsOf 22)) = ys[0]? := hcs ▸ hff 0 _ rfl
  rw [show Try.prog.cellsOf 22 = 1 by kernel_rfl, g 0 (by omega), show (cs.drop 0).take 1 = [cs[0]'(by omega)] by rw [List.drop_eq_getElem_cons (by omega)]; rfl] at c0
  have c1 : DataW.trod enc Try.prog W 0 (fun _ => true) true n' 26 ((cs.drop 1).take (Try.prog.cellsOf 26)) = ys[1]? := hcs ▸ hff 1 _ rfl
  rw [show Try.prog.cellsOf 26 = 34 by kernel_rfl, g 1 (by omega)] at c1
  have c2 : DataW.trod enc Try.prog W 0 (fun _ => true) true n' 26 ((cs.drop 35).take (Try.prog.cellsOf 26)) = ys[2]? := hcs ▸ hff 2 _ rfl
  rw [show Try.prog.cellsOf 26 = 34 by kernel_rfl, g 2 (by omega)] at c2
  have c3 : DataW.trod enc Try.prog W 0 (fun _ => true) true n' 26 ((cs.drop 69).take (Try.prog.cellsOf 26)) = ys[3]? := hcs ▸ hff 3 _ rfl
  rw [show Try.prog.cellsOf 26 = 34 by kernel_rfl, g 3 (by omega)] at c3
  have c4 : DataW.trod enc Try.prog W 0 (fun _ => true) true n' 27 ((cs.drop 103).take (Try.prog.cellsOf 27)) = ys[4]? := hcs ▸ hff 4 _ rfl
  rw [show Try.prog.cellsOf 27 = 1 by kernel_rfl, g 4 (by omega), show (cs.drop 103).take 1 = [cs[103]'(by omega)] by rw [List.drop_eq_getElem_cons (by omega)]; rfl] at c4
  have c5 : DataW.trod enc Try.prog W 0 (fun _ => true) true n' 24 ((cs.drop 104).take (Try.prog.cellsOf 24)) = ys[5]? := hcs ▸ hff 5 _ rfl
  rw [show Try.prog.cellsOf 24 = 32 by kernel_rfl, g 5 (by omega)] at c5
  have c6 : DataW.trod enc Try.prog W 0 (fun _ => true) true n' 28 ((cs.drop 136).take (Try.prog.cellsOf 28)) = ys[6]? := hcs ▸ hff 6 _ rfl
  rw [show Try.prog.cellsOf 28 = 1 by kernel_rfl, g 6 (by omega), show (cs.drop 136).take 1 = [cs[136]'(by omega)] by rw [List.drop_eq_getElem_cons (by omega)]; rfl] at c6
  obtain ⟨ep, e0, hep⟩ := u64_cellC c0
  obtain ⟨r1, hr1, e1⟩ := ref_cells (by rw [List.length_take, List.length_drop]; omega) c1
  obtain ⟨r2, hr2, e2⟩ := ref_cells (by rw [List.length_take, List.length_drop]; omega) c2
  obtain ⟨r3, hr3, e3⟩ := ref_cells (by rw [List.length_take, List.length_drop]; omega) c3
  obtain ⟨Ab, bs, cb, e4, hlb, hmb, hbw, hbs⟩ := bins_cells c4
  obtain ⟨st, hst, e5⟩ := dig_cellsN (by rw [List.length_take, List.length_drop]; omega) c5
  obtain ⟨Ae, rs, ce, e6, hle, hme, hrs⟩ := rows_cells c6
  refine ⟨⟨⟨ep, r1, r2, r3, bs, st, rs⟩, Ab, cb, Ae, ce⟩, ⟨hep, hr1, hr2, hr3, hbw, hst, hlb, hmb, hle, hme, hbs, hrs⟩, ?_⟩
  congr 2
  show cs = comV ep (rC r1) (rC r2) (rC r3) (.slice Ab bs.length cb) (Lib.byteCells st) (.slice Ae rs.length ce)
  unfold comV
  rw [← e0, ← e1, ← e2, ← e3, ← e4, ← e5, ← e6]
  have t6 : cs.drop 136 = [cs[136]'(by omega)] := by rw [List.drop_eq_getElem_cons (by omega), List.drop_of_length_le (by omega)]
  have t5 : (cs.drop 104).take 32 ++ cs.drop 136 = cs.drop 104 := cells_cut cs 104 32
  have t4 : cs[103]'(by omega) :: cs.drop 104 = cs.drop 103 := (List.drop_eq_getElem_cons (by omega)).symm
  have t3 : (cs.drop 69).take 34 ++ cs.drop 103 = cs.drop 69 := cells_cut cs 69 34
  have t2 : (cs.drop 35).take 34 ++ cs.drop 69 = cs.drop 35 := cells_cut cs 35 34
  have t1 : (cs.drop 1).take 34 ++ cs.drop 35 = cs.drop 1 := cells_cut cs 1 34
  have t0 : cs[0]'(by omega) :: cs.drop 1 = cs := (List.drop_eq_getElem_cons (l := cs) (i := 0) (by omega)).symm
  rw [← t6, t5, t4, t3, t2, t1, t0]

end Go.Proofs.Ytejnonpmjaeagaa

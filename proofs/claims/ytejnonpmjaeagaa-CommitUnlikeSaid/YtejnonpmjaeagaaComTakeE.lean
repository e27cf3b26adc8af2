/-
  Events taken of bytes.
-/
import Derived.Test.YtejnonpmjaeagaaComTake
namespace Go.Proofs.Ytejnonpmjaeagaa
open Go.RowKit
set_option linter.unusedVariables false
set_option linter.unusedSimpArgs false


set_option maxHeartbeats 4000000 in
set_option maxRecDepth 100000 in
theorem terow_any (p : Nat) (s : St) (w : World) (h : PIn w p s.1 s.2) :
    Calls Try.prog 37 #[.pointer (some ⟨p, 0, none⟩), .func (.func 38) #[] #[]] w fun e w' => ∃ v, e = .returned v ∧ ERow w' w.heap.size p v (rowsS evS s).1 ∧ PIn w' p (rowsS evS s).2.1 (rowsS evS s).2.2 ∧ Turn p w w' := by
  have hpw := h.lt
  obtain ⟨n, hn⟩ : ∃ z, (numS 65536 s).1 = z := ⟨_, rfl⟩
  have hn2 : n ≤ 65536 := by rw [← hn]; exact numS_le _ _
  obtain ⟨R, hR⟩ : ∃ z, rowsS evS s = z := ⟨_, rfl⟩
  have HR := Lib.hid (show runS evS n ([], (numS 65536 s).2) = R by rw [← hn, ← hR]; rfl)
  rw [hR]
  have Hnum := Lib.hid (number_fl p 65536 s w h (by omega))
  have Hn := Lib.hid hn
  clear h hR hn
  go_enter Try.func37, Try.ntmps37
  go_wp2_with fail
  refine Calls.mono Hnum.out ?_
  rintro e w1 ⟨rfl, hP1, ht1⟩
  rw [Hn.out]
  go_wp2_with fail
  go_loopw [5, 9] (fun v i wr => ∃ (k : Nat) (rows : List (List UInt8)) (s1 : St), k ≤ n ∧ i = .int .u64 k ∧ ERow wr w.heap.size p v rows ∧ PIn wr p s1.1 s1.2 ∧ Hid (runS evS (n - k) (rows, s1) = R) ∧ Hid (rows.length = k) ∧ Turn p w wr) (fun _ i _ => n - (Go.RowKit.intOf i).toNat)
  case atStart => exact ⟨0, [], (numS 65536 s).2, Nat.zero_le _, rfl, ERow.nil _ _ _, hP1, Lib.hid HR.out, Lib.hid rfl, ht1⟩
  case round =>
    clear hP1 ht1
    obtain ⟨k, rows, s1, hk, rfl, hrow, hP, Hrun, Hlen, ht⟩ := hrel
    have hrw : w.heap.size ≤ wr.heap.size := ht.size
    by_cases hlt : k < n
    · have hd1 : decide ((k : Int) < (n : Int)) = true := by simp; omega
      have hd2 : decide (k < n) = true := by simp; omega
      have hrun := Hrun.out
      rw [show n - k = (n - (k + 1)) + 1 by omega] at hrun
      unfold runS at hrun
      have Hr := Lib.hid hrun
      have HP := Lib.hid hP
      have Hrow := Lib.hid hrow
      clear hrun Hrun hP hrow
      go_wp2_with fail
      refine Calls.mono (evtake_any s1 p wr HP.out) ?_
      rintro e w2 ⟨A2, c2, rfl, h2c, h2m, hBs2, hP2, ht2⟩
      obtain ⟨s2, hs2⟩ : ∃ z, evS s1 = z := ⟨_, rfl⟩
      rw [hs2] at hP2 Hr hBs2 h2c ⊢
      have ht2w : Turn p w w2 := ht.trans ht2
      have Hrow2 := Lib.hid (Hrow.out.turn ht2 hpw (Nat.le_of_lt HP.out.lt))
      have h2s : w.heap.size ≤ w2.heap.size := ht2w.size
      have hp2 := hP2.lt
      clear ht ht2
      obtain ⟨e2, st2⟩ := s2
      obtain ⟨l2, f2⟩ := st2
      dsimp only at hP2 Hr hBs2 h2c ⊢
      obtain ⟨m2, hm2⟩ : ∃ z, e2.length = z := ⟨_, rfl⟩
      rw [hm2] at h2c ⊢
      have Hm2 := Lib.hid hm2
      have HP2 := Lib.hid hP2
      have HBs2 := Lib.hid hBs2
      have h2m' : c2 ≤ 9223372036854775807 := by unfold maxLen at h2m; omega
      clear hm2 hP2 hBs2 HP Hrow hs2
      go_wp2_with fail
      refine Calls.mono (wrong_in p l2 f2 w2 HP2.out) ?_
      rintro e w4 ⟨rfl, rfl⟩
      cases f2 with
      | true =>
        have hr := Hr.out
        rw [if_pos rfl] at hr
        have Hfin := Lib.hid hr
        clear hr Hr
        go_wp2_with fail
        go_ret
        exact ⟨_, rfl, by rw [← Hfin.out]; exact ERow.nil _ _ _, by rw [← Hfin.out]; exact HP2.out, ht2w⟩
      | false =>
        have hr := Hr.out
        rw [if_neg (by simp)] at hr
        have Hfin := Lib.hid hr
        obtain ⟨w5, hw5⟩ : ∃ z, z = w2.alloc (.cells #[.slice A2 m2 c2] 33) := ⟨_, rfl⟩
        have hb5 : Below w2.heap.size w2 w5 := by rw [hw5]; exact (Below.refl _ _).alloc (Nat.le_refl _) _
        have hX5 : Arr w5 w2.heap.size 33 [.slice A2 m2 c2] := by rw [hw5]; exact Arr.new w2 _ _
        have hrow5 := Hrow2.out.up hb5 (by omega)
        have Hltr := Lib.hid hrow5.lt
        obtain ⟨cs, hcs1, hcs2⟩ := hrow5
        rw [Hlen.out] at hcs1
        have HP5 := Lib.hid (show PIn w5 p l2 false from HP2.out.lowN ⟨hb5.size, fun i hi => hb5.block i (by omega)⟩)
        have ht5 : Turn p w w5 := ht2w.trans ⟨hb5.os, hb5.tape, hb5.output, hb5.size, fun i hi _ => hb5.block i hi⟩
        have h5s : w.heap.size ≤ w5.heap.size := ht5.size
        have hBs5 := HBs2.out.below hb5 (by omega)
        have hadd : ∀ k, (⟨w2.heap.size, 0, none⟩ : Addr).add k = ⟨w2.heap.size, k, none⟩ := fun k => by unfold Addr.add; split <;> simp_all
        have hcell : ∀ j u, [Value.slice A2 m2 c2][j]? = some u → w5.cell? ((⟨w2.heap.size, 0, none⟩ : Addr).add j) = some u := fun j u hj => by rw [hadd, hX5.cell]; exact hj
        obtain ⟨j0, hi, hz0, hz1, hz2⟩ := info_parts evAll
        have Hw5 := Lib.hid hw5
        have Hcs1 := Lib.hid hcs1
        have Hcs2 := Lib.hid hcs2
        have HBs5 := Lib.hid hBs5
        have Hcell := Lib.hid hcell
        clear hr Hr hw5 hb5 hX5 hcs1 hcs2 hBs5 hadd hcell ht2w Hrow2
        go_wp2_with (at_builtin; refine wpList_append_own_at _ rfl _ _ 28 rfl w.heap.size 33 j0 (.slice none 0 0) 1 24 Try.underlying28 hi hz0 hz1 hz2 rfl (by decide) _ k cs rfl (by rw [← Hw5.out]; exact Hcs1.out) ⟨w2.heap.size, 0, none⟩ 1 1 [Value.slice A2 m2 c2] rfl rfl (by rw [← Hw5.out]; exact Hcell.out) (by intro u hu; simp at hu; subst hu; rfl) (by unfold maxLen; omega) (by omega) (by rw [← Hw5.out]; exact h5s) ?_)
        intro v6 w6 hown6 hg6 _ _
        rw [← Hw5.out] at hg6
        have hrow6 : ERow w6 w.heap.size p v6 (rows ++ [e2]) := ERow.snoc (w := w5) (by rw [Hlen.out]; exact hown6) (by rw [Hlen.out]; exact Hcs1.out.1) Hcs2.out hg6 (fun k hk => (Hltr.out k hk).1) hpw (by omega) Hm2.out h2c h2m HBs5.out
        have ht6 : Turn p w w6 := ⟨hg6.os.trans ht5.os, hg6.tape.trans ht5.tape, hg6.output.trans ht5.output, Nat.le_trans ht5.size hg6.size, fun i hi hn => (hg6.block i (by omega) (fun e => by have := (Hltr.out i e.symm).1; omega)).trans (ht5.block i hi hn)⟩
        have hP6 : PIn w6 p l2 false := HP5.out.lowN ⟨hg6.size, fun i hi => hg6.block i (by omega) (fun e => by have := (Hltr.out i e.symm).1; omega)⟩
        have Hlen6 : Hid ((rows ++ [e2]).length = k + 1) := Lib.hid (by rw [List.length_append, Hlen.out]; rfl)
        clear hg6 hown6
        go_wp2_with fail
        go_roundw
        case rel => exact ⟨k + 1, _, (l2, false), by omega, by go_num, hrow6, hP6, Hfin, Hlen6, ht6⟩
        case measure => simp [Go.RowKit.intOf]; omega
    · obtain rfl : k = n := by omega
      have hd1 : decide ((k : Int) < (k : Int)) = false := by simp
      have hd2 : decide (k < k) = false := by simp
      have Hfin := Lib.hid (show R = (rows, s1) by rw [← Hrun.out, Nat.sub_self]; rfl)
      have HP := Lib.hid hP
      have Hrow := Lib.hid hrow
      clear hP hrow
      go_wp2_with fail
      go_ret
      exact ⟨_, rfl, by rw [Hfin.out]; exact Hrow.out, by rw [Hfin.out]; exact HP.out, ht⟩

end Go.Proofs.Ytejnonpmjaeagaa

/-
  Bins taken of bytes.
-/
import Derived.Test.YtejnonpmjaeagaaComTake
namespace Go.Proofs.Ytejnonpmjaeagaa
open Go.RowKit
set_option linter.unusedVariables false
set_option linter.unusedSimpArgs false


set_option maxHeartbeats 4000000 in
set_option maxRecDepth 100000 in
theorem tnrow_any (p : Nat) (s : St) (w : World) (h : PIn w p s.1 s.2) :
    Calls Try.prog 34 #[.pointer (some ⟨p, 0, none⟩), .func (.func 35) #[] #[]] w fun e w' => ∃ v, e = .returned v ∧ BRow w' w.heap.size v (rowsS binS s).1 ∧ PIn w' p (rowsS binS s).2.1 (rowsS binS s).2.2 ∧ Turn p w w' := by
  have hpw := h.lt
  obtain ⟨n, hn⟩ : ∃ z, (numS 65536 s).1 = z := ⟨_, rfl⟩
  have hn2 : n ≤ 65536 := by rw [← hn]; exact numS_le _ _
  obtain ⟨R, hR⟩ : ∃ z, rowsS binS s = z := ⟨_, rfl⟩
  have HR := Lib.hid (show runS binS n ([], (numS 65536 s).2) = R by rw [← hn, ← hR]; rfl)
  rw [hR]
  have Hnum := Lib.hid (number_fl p 65536 s w h (by omega))
  obtain ⟨ZL, hZL⟩ : ∃ z, z = binZ := ⟨_, rfl⟩
  have HZ := Lib.hid (fun w : World => show (zeroValue 54).run Try.prog w = .ok (.agg ZL.toArray) w by rw [hZL]; exact binZero w)
  have HZl := Lib.hid (show ZL.length = 35 by rw [hZL]; rfl)
  have Hn := Lib.hid hn
  clear h hR hn hZL
  go_enter Try.func34, Try.ntmps34
  go_wp2_with fail
  refine Calls.mono Hnum.out ?_
  rintro e w1 ⟨rfl, hP1, ht1⟩
  rw [Hn.out]
  go_wp2_with fail
  go_loopw [5, 9] (fun v i wr => ∃ (k : Nat) (rows : List BinF) (s1 : St), k ≤ n ∧ i = .int .u64 k ∧ BRow wr w.heap.size v rows ∧ PIn wr p s1.1 s1.2 ∧ Hid (runS binS (n - k) (rows, s1) = R) ∧ Hid (rows.length = k) ∧ Turn p w wr) (fun _ i _ => n - (Go.RowKit.intOf i).toNat)
  case atStart => exact ⟨0, [], (numS 65536 s).2, Nat.zero_le _, rfl, BRow.nil _ _, hP1, Lib.hid HR.out, Lib.hid rfl, ht1⟩
  case round =>
    clear hP1 ht1
    obtain ⟨k, rows, s1, hk, rfl, hrow, hP, Hrun, Hlen, ht⟩ := hrel
    have hrw : w.heap.size ≤ wr.heap.size := ht.size
    by_cases hlt : k < n
    · have hd1 : decide ((k : Int) < (n : Int)) = true := by simp; omega
      have hd2 : decide (k < n) = true := by simp; omega
      have hrun := Hrun.out
      rw [show n - k = (n - (k + 1)) + 1 by omega] at hrun
      unfold runS at hrun
      have Hr := Lib.hid hrun
      have HP := Lib.hid hP
      have Hrow := Lib.hid hrow
      clear hrun Hrun hP hrow
      obtain ⟨TL, hTL⟩ : ∃ z, z = bC (binS s1).1 := ⟨_, rfl⟩
      have hTl : TL.length = 35 := by rw [hTL]; exact bC_length (binS_w s1)
      have HTL := Lib.hid hTL
      have Hbw := Lib.hid (binS_w s1)
      clear hTL
      go_wp2_with fail
      refine Calls.mono (ntake_fl s1 p wr HP.out TL HTL.out) ?_
      rintro e w2 ⟨rfl, hP2, ht2⟩
      obtain ⟨s2, hs2⟩ : ∃ z, binS s1 = z := ⟨_, rfl⟩
      rw [hs2] at hP2 Hr HTL Hbw
      have ht2w : Turn p w w2 := ht.trans ht2
      have Hrow2 := Lib.hid (Hrow.out.turn ht2 hpw )
      have h2s : w.heap.size ≤ w2.heap.size := ht2w.size
      have hp2 := hP2.lt
      clear ht ht2
      obtain ⟨b2, st2⟩ := s2
      obtain ⟨l2, f2⟩ := st2
      dsimp only at hP2 Hr HTL Hbw
      have HTi := Lib.hid (show (Try.prog.info? 54).map (·.size) = some TL.toArray.size by rw [List.size_toArray, hTl]; exact binSize)
      have HT1 := Lib.hid (show TL.toArray.all (·.oneCell') = true by rw [HTL.out]; exact all_oneC (bC_one _))
      have HTz := Lib.hid (show ZL.toArray.size = TL.toArray.size by rw [List.size_toArray, List.size_toArray, HZl.out, hTl])
      obtain ⟨w3, hw3⟩ : ∃ W, W = (w2.alloc (.cells ZL.toArray 54)).setRow w2.heap.size TL.toArray := ⟨_, rfl⟩
      obtain ⟨hX3, hb3⟩ := alloc_row w2 54 ZL.toArray TL
      rw [← hw3] at hX3 hb3
      have hP3 : PIn w3 p l2 f2 := hP2.lowN ⟨hb3.size, fun i hi => hb3.block i (by omega)⟩
      have Hrow3 := Lib.hid (Hrow2.out.up hb3)
      have ht3 : Turn p w w3 := ht2w.trans ⟨hb3.os, hb3.tape, hb3.output, hb3.size, fun i hi _ => hb3.block i hi⟩
      have h3s : w.heap.size ≤ w3.heap.size := ht3.size
      have hlt3 := hX3.lt
      have Hw3 := Lib.hid hw3
      have HTl := Lib.hid hTl
      have HP3 := Lib.hid hP3
      clear hw3 hP2 Hrow2 ht2w hb3 hP3 hTl HP Hrow hs2
      go_upto_region 5 with (first
        | (refine wpList_allocZC rfl 54 rfl ZL.toArray (HZ.out _) ?_)
        | (refine wpList_store_row rfl _ _ _ rfl w2.heap.size TL.toArray rfl rfl 54 ZL.toArray (heap_alloc_new w2 _) HTi.out HTz.out HT1.out ?_; rw [← Hw3.out]))
      go_wp2_with fail
      refine Calls.mono (wrong_in p l2 f2 w3 HP3.out) ?_
      rintro e w4 ⟨rfl, rfl⟩
      cases f2 with
      | true =>
        have hr := Hr.out
        rw [if_pos rfl] at hr
        have Hfin := Lib.hid hr
        clear hr Hr hX3
        go_wp2_with fail
        go_ret
        exact ⟨_, rfl, by rw [← Hfin.out]; exact BRow.nil _ _, by rw [← Hfin.out]; exact HP3.out, ht3⟩
      | false =>
        have hr := Hr.out
        rw [if_neg (by simp)] at hr
        have Hfin := Lib.hid hr
        obtain ⟨w5, hw5⟩ : ∃ z, z = w3.alloc (.cells TL.toArray 54) := ⟨_, rfl⟩
        have hb5 : Below w3.heap.size w3 w5 := by rw [hw5]; exact (Below.refl _ _).alloc (Nat.le_refl _) _
        have hX5 : Arr w5 w3.heap.size 54 TL := by rw [hw5]; exact Arr.new w3 _ _
        have Hrow5 := Lib.hid (Hrow3.out.up hb5)
        have HP5 := Lib.hid (show PIn w5 p l2 false from HP3.out.lowN ⟨hb5.size, fun i hi => hb5.block i (by omega)⟩)
        have ht5 : Turn p w w5 := ht3.trans ⟨hb5.os, hb5.tape, hb5.output, hb5.size, fun i hi _ => hb5.block i hi⟩
        have h5s : w.heap.size ≤ w5.heap.size := ht5.size
        have Hw5 := Lib.hid hw5
        have HX5 := Lib.hid hX5
        clear hr Hr hw5 hb5 hX5
        go_wp2_with (first
          | (refine wpList_load_row rfl _ _ rfl w2.heap.size rfl 54 TL.toArray (0, 0) _ hX3 Try.underlying54 rfl HTi.out ?_)
          | (refine wpList_build_bn rfl _ rfl TL HTl.out rfl ?_; rw [← Hw5.out])
          | (refine wpList_append_bn rfl _ _ rfl Hrow5.out h5s rfl w3.heap.size 1 rfl b2 Hbw.out TL HTL.out HX5.out (by rw [Hlen.out]; omega) ?_; intro v6 w6 hrow6 hg6))
        have ht6 : Turn p w w6 := ⟨hg6.os.trans ht5.os, hg6.tape.trans ht5.tape, hg6.output.trans ht5.output, Nat.le_trans ht5.size hg6.size, fun i hi hn => (hg6.block i (by omega) (fun e => by have := (Hrow5.out.lt i e.symm).1; omega)).trans (ht5.block i hi hn)⟩
        have hP6 : PIn w6 p l2 false := HP5.out.lowN ⟨hg6.size, fun i hi => hg6.block i (by omega) (fun e => by have := (Hrow5.out.lt i e.symm).1; omega)⟩
        have Hlen6 : Hid ((rows ++ [b2]).length = k + 1) := Lib.hid (by rw [List.length_append, Hlen.out]; rfl)
        clear hg6 hX3
        go_roundw
        case rel => exact ⟨k + 1, _, (l2, false), by omega, by go_num, hrow6, hP6, Hfin, Hlen6, ht6⟩
        case measure => simp [Go.RowKit.intOf]; omega
    · obtain rfl : k = n := by omega
      have hd1 : decide ((k : Int) < (k : Int)) = false := by simp
      have hd2 : decide (k < k) = false := by simp
      have Hfin := Lib.hid (show R = (rows, s1) by rw [← Hrun.out, Nat.sub_self]; rfl)
      have HP := Lib.hid hP
      have Hrow := Lib.hid hrow
      clear hP hrow
      go_wp2_with fail
      go_ret
      exact ⟨_, rfl, by rw [Hfin.out]; exact Hrow.out, by rw [Hfin.out]; exact HP.out, ht⟩

end Go.Proofs.Ytejnonpmjaeagaa

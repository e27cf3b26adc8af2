/-
  An argument api.Commit, opened.
-/
import Derived.Test.YtkepfigoeaheaaaComTake
import Derived.Test.YtkepfigoeaheaaaComRows
import Derived.Test.YtkepfigoeaheaaaComMay
import Derived.Test.YtkepfigoeaheaaaSame
import Derived.Test.YtkepfigoeaheaaaGen
import Derived.Test.YtkepfigoeaheaaaComCx
import Derived.Test.YtkepfigoeaheaaaComPut
import Derived.Test.YtkepfigoeaheaaaRTagged
import Derived.Test.YtkepfigoeaheaaaTagged
import Derived.Deep.Slices
import Derived.Deep.Fields
import Derived.ChangeSame
import Derived.OpenShut
namespace Go.Proofs.Ytkepfigoeaheaaa
open Go.RowKit
set_option linter.unusedVariables false
set_option linter.unusedSimpArgs false


set_option maxHeartbeats 4000000 in
set_option maxRecDepth 100000 in
theorem tnrow_any (lo p : Nat) (s : St) (w : World) (h : PInL lo w p s.1 s.2) :
    Calls Try.prog 45 #[.pointer (some ⟨p, 0, none⟩), .func (.func 46) #[] #[]] w fun e w' => ∃ v, e = .returned v ∧ BRow w' w.heap.size v (rowsS binS s).1 ∧ PInL lo w' p (rowsS binS s).2.1 (rowsS binS s).2.2 ∧ Turn p w w' := by
  have hpw := h.lt
  obtain ⟨n, hn⟩ : ∃ z, (numS 65536 s).1 = z := ⟨_, rfl⟩
  have hn2 : n ≤ 65536 := by rw [← hn]; exact numS_le _ _
  obtain ⟨R, hR⟩ : ∃ z, rowsS binS s = z := ⟨_, rfl⟩
  have HR := Lib.hid (show runS binS n ([], (numS 65536 s).2) = R by rw [← hn, ← hR]; rfl)
  rw [hR]
  have Hnum := Lib.hid (number_fl p 65536 s w h (by omega))
  obtain ⟨ZL, hZL⟩ : ∃ z, z = binZ := ⟨_, rfl⟩
  have HZ := Lib.hid (fun w : World => show (zeroValue 72).run Try.prog w = .ok (.agg ZL.toArray) w by rw [hZL]; exact binZero w)
  have HZl := Lib.hid (show ZL.length = 35 by rw [hZL]; rfl)
  have Hn := Lib.hid hn
  clear h hR hn hZL
  go_enter Try.func45, Try.ntmps45
  go_wp2_with fail
  refine Calls.mono Hnum.out ?_
  rintro e w1 ⟨rfl, hP1, ht1⟩
  rw [Hn.out]
  go_wp2_with fail
  go_loopw [5, 9] (fun v i wr => ∃ (k : Nat) (rows : List BinF) (s1 : St), k ≤ n ∧ i = .int .u64 k ∧ BRow wr w.heap.size v rows ∧ PInL lo wr p s1.1 s1.2 ∧ Hid (runS binS (n - k) (rows, s1) = R) ∧ Hid (rows.length = k) ∧ Turn p w wr) (fun _ i _ => n - (Go.RowKit.intOf i).toNat)
  case atStart => exact ⟨0, [], (numS 65536 s).2, Nat.zero_le _, rfl, BRow.nil _ _, hP1, Lib.hid HR.out, Lib.hid rfl, ht1⟩
  case round =>
    clear hP1 ht1
    obtain ⟨k, rows, s1, hk, rfl, hrow, hP, Hrun, Hlen, ht⟩ := hrel
    have hrw : w.heap.size ≤ wr.heap.size := ht.size
    by_cases hlt : k < n
    · have hd1 : decide ((k : Int) < (n : Int)) = true := by simp; omega
      have hd2 : decide (k < n) = true := by simp; omega
      have hrun := Hrun.out
      rw [show n - k = (n - (k + 1)) + 1 by omega] at hrun
      unfold runS at hrun
      have Hr := Lib.hid hrun
      have HP := Lib.hid hP
      have Hrow := Lib.hid hrow
      clear hrun Hrun hP hrow
      obtain ⟨TL, hTL⟩ : ∃ z, z = bC (binS s1).1 := ⟨_, rfl⟩
      have hTl : TL.length = 35 := by rw [hTL]; exact bC_length (binS_w s1)
      have HTL := Lib.hid hTL
      have Hbw := Lib.hid (binS_w s1)
      clear hTL
      go_wp2_with fail
      refine Calls.mono (ntake_fl s1 p wr HP.out TL HTL.out) ?_
      rintro e w2 ⟨rfl, hP2, ht2⟩
      obtain ⟨s2, hs2⟩ : ∃ z, binS s1 = z := ⟨_, rfl⟩
      rw [hs2] at hP2 Hr HTL Hbw
      have ht2w : Turn p w w2 := ht.trans ht2
      have Hrow2 := Lib.hid (Hrow.out.turn ht2 hpw )
      have h2s : w.heap.size ≤ w2.heap.size := ht2w.size
      have hp2 := hP2.lt
      clear ht ht2
      obtain ⟨b2, st2⟩ := s2
      obtain ⟨l2, f2⟩ := st2
      dsimp only at hP2 Hr HTL Hbw
      have HTi := Lib.hid (show (Try.prog.info? 72).map (·.size) = some TL.toArray.size by rw [List.size_toArray, hTl]; exact binSize)
      have HT1 := Lib.hid (show TL.toArray.all (·.oneCell') = true by rw [HTL.out]; exact all_oneC (bC_one _))
      have HTz := Lib.hid (show ZL.toArray.size = TL.toArray.size by rw [List.size_toArray, List.size_toArray, HZl.out, hTl])
      obtain ⟨w3, hw3⟩ : ∃ W, W = (w2.alloc (.cells ZL.toArray 72)).setRow w2.heap.size TL.toArray := ⟨_, rfl⟩
      obtain ⟨hX3, hb3⟩ := alloc_row w2 72 ZL.toArray TL
      rw [← hw3] at hX3 hb3
      have hP3 : PInL lo w3 p l2 f2 := hP2.lowN ⟨hb3.size, fun i hi => hb3.block i (by omega)⟩
      have Hrow3 := Lib.hid (Hrow2.out.up hb3)
      have ht3 : Turn p w w3 := ht2w.trans ⟨hb3.os, hb3.tape, hb3.output, hb3.size, fun i hi _ => hb3.block i hi⟩
      have h3s : w.heap.size ≤ w3.heap.size := ht3.size
      have hlt3 := hX3.lt
      have Hw3 := Lib.hid hw3
      have HTl := Lib.hid hTl
      have HP3 := Lib.hid hP3
      clear hw3 hP2 Hrow2 ht2w hb3 hP3 hTl HP Hrow hs2
      go_upto_region 5 with (first
        | (refine wpList_allocZC rfl 72 rfl ZL.toArray (HZ.out _) ?_)
        | (refine wpList_store_row rfl _ _ _ rfl w2.heap.size TL.toArray rfl rfl 72 ZL.toArray (heap_alloc_new w2 _) HTi.out HTz.out HT1.out ?_; rw [← Hw3.out]))
      go_wp2_with fail
      refine Calls.mono (wrong_in p l2 f2 w3 HP3.out) ?_
      rintro e w4 ⟨rfl, rfl⟩
      cases f2 with
      | true =>
        have hr := Hr.out
        rw [if_pos rfl] at hr
        have Hfin := Lib.hid hr
        clear hr Hr hX3
        go_wp2_with fail
        go_ret
        exact ⟨_, rfl, by rw [← Hfin.out]; exact BRow.nil _ _, by rw [← Hfin.out]; exact HP3.out, ht3⟩
      | false =>
        have hr := Hr.out
        rw [if_neg (by simp)] at hr
        have Hfin := Lib.hid hr
        obtain ⟨w5, hw5⟩ : ∃ z, z = w3.alloc (.cells TL.toArray 72) := ⟨_, rfl⟩
        have hb5 : Below w3.heap.size w3 w5 := by rw [hw5]; exact (Below.refl _ _).alloc (Nat.le_refl _) _
        have hX5 : Arr w5 w3.heap.size 72 TL := by rw [hw5]; exact Arr.new w3 _ _
        have Hrow5 := Lib.hid (Hrow3.out.up hb5)
        have HP5 := Lib.hid (show PInL lo w5 p l2 false from HP3.out.lowN ⟨hb5.size, fun i hi => hb5.block i (by omega)⟩)
        have ht5 : Turn p w w5 := ht3.trans ⟨hb5.os, hb5.tape, hb5.output, hb5.size, fun i hi _ => hb5.block i hi⟩
        have h5s : w.heap.size ≤ w5.heap.size := ht5.size
        have Hw5 := Lib.hid hw5
        have HX5 := Lib.hid hX5
        clear hr Hr hw5 hb5 hX5
        go_wp2_with (first
          | (refine wpList_load_row rfl _ _ rfl w2.heap.size rfl 72 TL.toArray (0, 0) _ hX3 Try.underlying72 rfl HTi.out ?_)
          | (refine wpList_build_bn rfl _ rfl TL HTl.out rfl ?_; rw [← Hw5.out])
          | (refine wpList_append_bn rfl _ _ rfl Hrow5.out h5s rfl w3.heap.size 1 rfl b2 Hbw.out TL HTL.out HX5.out (by rw [Hlen.out]; omega) ?_; intro v6 w6 hrow6 hg6))
        have ht6 : Turn p w w6 := ⟨hg6.os.trans ht5.os, hg6.tape.trans ht5.tape, hg6.output.trans ht5.output, Nat.le_trans ht5.size hg6.size, fun i hi hn => (hg6.block i (by omega) (fun e => by have := (Hrow5.out.lt i e.symm).1; omega)).trans (ht5.block i hi hn)⟩
        have hP6 : PInL lo w6 p l2 false := HP5.out.lowN ⟨hg6.size, fun i hi => hg6.block i (by omega) (fun e => by have := (Hrow5.out.lt i e.symm).1; omega)⟩
        have Hlen6 : Hid ((rows ++ [b2]).length = k + 1) := Lib.hid (by rw [List.length_append, Hlen.out]; rfl)
        clear hg6 hX3
        go_roundw
        case rel => exact ⟨k + 1, _, (l2, false), by omega, by go_num, hrow6, hP6, Hfin, Hlen6, ht6⟩
        case measure => simp [Go.RowKit.intOf]; omega
    · obtain rfl : k = n := by omega
      have hd1 : decide ((k : Int) < (k : Int)) = false := by simp
      have hd2 : decide (k < k) = false := by simp
      have Hfin := Lib.hid (show R = (rows, s1) by rw [← Hrun.out, Nat.sub_self]; rfl)
      have HP := Lib.hid hP
      have Hrow := Lib.hid hrow
      clear hP hrow
      go_wp2_with fail
      go_ret
      exact ⟨_, rfl, by rw [Hfin.out]; exact Hrow.out, by rw [Hfin.out]; exact HP.out, ht⟩

end Go.Proofs.Ytkepfigoeaheaaa

namespace Go.Proofs.Ytkepfigoeaheaaa
open Go.RowKit
set_option linter.unusedVariables false
set_option linter.unusedSimpArgs false


set_option maxHeartbeats 4000000 in
set_option maxRecDepth 100000 in
theorem terow_any (lo p : Nat) (s : St) (w : World) (h : PInL lo w p s.1 s.2) :
    Calls Try.prog 48 #[.pointer (some ⟨p, 0, none⟩), .func (.func 49) #[] #[]] w fun e w' => ∃ v, e = .returned v ∧ ERow lo w' w.heap.size p v (rowsS evS s).1 ∧ PInL lo w' p (rowsS evS s).2.1 (rowsS evS s).2.2 ∧ Turn p w w' := by
  have hpw := h.lt
  obtain ⟨n, hn⟩ : ∃ z, (numS 65536 s).1 = z := ⟨_, rfl⟩
  have hn2 : n ≤ 65536 := by rw [← hn]; exact numS_le _ _
  obtain ⟨R, hR⟩ : ∃ z, rowsS evS s = z := ⟨_, rfl⟩
  have HR := Lib.hid (show runS evS n ([], (numS 65536 s).2) = R by rw [← hn, ← hR]; rfl)
  rw [hR]
  have Hnum := Lib.hid (number_fl p 65536 s w h (by omega))
  have Hn := Lib.hid hn
  clear h hR hn
  go_enter Try.func48, Try.ntmps48
  go_wp2_with fail
  refine Calls.mono Hnum.out ?_
  rintro e w1 ⟨rfl, hP1, ht1⟩
  rw [Hn.out]
  go_wp2_with fail
  go_loopw [5, 9] (fun v i wr => ∃ (k : Nat) (rows : List (List UInt8)) (s1 : St), k ≤ n ∧ i = .int .u64 k ∧ ERow lo wr w.heap.size p v rows ∧ PInL lo wr p s1.1 s1.2 ∧ Hid (runS evS (n - k) (rows, s1) = R) ∧ Hid (rows.length = k) ∧ Turn p w wr) (fun _ i _ => n - (Go.RowKit.intOf i).toNat)
  case atStart => exact ⟨0, [], (numS 65536 s).2, Nat.zero_le _, rfl, ERow.nil _ _ _, hP1, Lib.hid HR.out, Lib.hid rfl, ht1⟩
  case round =>
    clear hP1 ht1
    obtain ⟨k, rows, s1, hk, rfl, hrow, hP, Hrun, Hlen, ht⟩ := hrel
    have hrw : w.heap.size ≤ wr.heap.size := ht.size
    by_cases hlt : k < n
    · have hd1 : decide ((k : Int) < (n : Int)) = true := by simp; omega
      have hd2 : decide (k < n) = true := by simp; omega
      have hrun := Hrun.out
      rw [show n - k = (n - (k + 1)) + 1 by omega] at hrun
      unfold runS at hrun
      have Hr := Lib.hid hrun
      have HP := Lib.hid hP
      have Hrow := Lib.hid hrow
      clear hrun Hrun hP hrow
      go_wp2_with fail
      refine Calls.mono (evtake_any s1 p wr HP.out) ?_
      rintro e w2 ⟨A2, c2, rfl, h2c, h2m, hBs2, hlb2, hP2, ht2⟩
      have Hlb2 := Lib.hid hlb2
      clear hlb2
      obtain ⟨s2, hs2⟩ : ∃ z, evS s1 = z := ⟨_, rfl⟩
      rw [hs2] at hP2 Hr hBs2 h2c ⊢
      have ht2w : Turn p w w2 := ht.trans ht2
      have Hrow2 := Lib.hid (Hrow.out.turn ht2 hpw (Nat.le_of_lt HP.out.lt))
      have h2s : w.heap.size ≤ w2.heap.size := ht2w.size
      have hp2 := hP2.lt
      clear ht ht2
      obtain ⟨e2, st2⟩ := s2
      obtain ⟨l2, f2⟩ := st2
      dsimp only at hP2 Hr hBs2 h2c ⊢
      obtain ⟨m2, hm2⟩ : ∃ z, e2.length = z := ⟨_, rfl⟩
      rw [hm2] at h2c ⊢
      have Hm2 := Lib.hid hm2
      have HP2 := Lib.hid hP2
      have HBs2 := Lib.hid hBs2
      have h2m' : c2 ≤ 9223372036854775807 := by unfold maxLen at h2m; omega
      clear hm2 hP2 hBs2 HP Hrow hs2
      go_wp2_with fail
      refine Calls.mono (wrong_in p l2 f2 w2 HP2.out) ?_
      rintro e w4 ⟨rfl, rfl⟩
      cases f2 with
      | true =>
        have hr := Hr.out
        rw [if_pos rfl] at hr
        have Hfin := Lib.hid hr
        clear hr Hr
        go_wp2_with fail
        go_ret
        exact ⟨_, rfl, by rw [← Hfin.out]; exact ERow.nil _ _ _, by rw [← Hfin.out]; exact HP2.out, ht2w⟩
      | false =>
        have hr := Hr.out
        rw [if_neg (by simp)] at hr
        have Hfin := Lib.hid hr
        obtain ⟨w5, hw5⟩ : ∃ z, z = w2.alloc (.cells #[.slice A2 m2 c2] 33) := ⟨_, rfl⟩
        have hb5 : Below w2.heap.size w2 w5 := by rw [hw5]; exact (Below.refl _ _).alloc (Nat.le_refl _) _
        have hX5 : Arr w5 w2.heap.size 33 [.slice A2 m2 c2] := by rw [hw5]; exact Arr.new w2 _ _
        have hrow5 := Hrow2.out.up hb5 (by omega)
        have Hltr := Lib.hid hrow5.lt
        obtain ⟨cs, hcs1, hcs2⟩ := hrow5
        rw [Hlen.out] at hcs1
        have HP5 := Lib.hid (show PInL lo w5 p l2 false from HP2.out.lowN ⟨hb5.size, fun i hi => hb5.block i (by omega)⟩)
        have ht5 : Turn p w w5 := ht2w.trans ⟨hb5.os, hb5.tape, hb5.output, hb5.size, fun i hi _ => hb5.block i hi⟩
        have h5s : w.heap.size ≤ w5.heap.size := ht5.size
        have hBs5 := HBs2.out.below hb5 (by omega)
        have hadd : ∀ k, (⟨w2.heap.size, 0, none⟩ : Addr).add k = ⟨w2.heap.size, k, none⟩ := fun k => by unfold Addr.add; split <;> simp_all
        have hcell : ∀ j u, [Value.slice A2 m2 c2][j]? = some u → w5.cell? ((⟨w2.heap.size, 0, none⟩ : Addr).add j) = some u := fun j u hj => by rw [hadd, hX5.cell]; exact hj
        obtain ⟨j0, hi, hz0, hz1, hz2⟩ := info_parts evAll
        have Hw5 := Lib.hid hw5
        have Hcs1 := Lib.hid hcs1
        have Hcs2 := Lib.hid hcs2
        have HBs5 := Lib.hid hBs5
        have Hcell := Lib.hid hcell
        clear hr Hr hw5 hb5 hX5 hcs1 hcs2 hBs5 hadd hcell ht2w Hrow2
        go_wp2_with (at_builtin; refine wpList_append_own_at _ rfl _ _ 28 rfl w.heap.size 33 j0 (.slice none 0 0) 1 24 Try.underlying28 hi hz0 hz1 hz2 rfl (by decide) _ k cs rfl (by rw [← Hw5.out]; exact Hcs1.out) ⟨w2.heap.size, 0, none⟩ 1 1 [Value.slice A2 m2 c2] rfl rfl (by rw [← Hw5.out]; exact Hcell.out) (by intro u hu; simp at hu; subst hu; rfl) (by unfold maxLen; omega) (by omega) (by rw [← Hw5.out]; exact h5s) ?_)
        intro v6 w6 hown6 hg6 _ _
        rw [← Hw5.out] at hg6
        have hrow6 : ERow lo w6 w.heap.size p v6 (rows ++ [e2]) := ERow.snoc (w := w5) (by rw [Hlen.out]; exact hown6) (by rw [Hlen.out]; exact Hcs1.out.1) Hcs2.out hg6 (fun k hk => (Hltr.out k hk).1) hpw (by omega) Hm2.out h2c h2m HBs5.out Hlb2.out
        have ht6 : Turn p w w6 := ⟨hg6.os.trans ht5.os, hg6.tape.trans ht5.tape, hg6.output.trans ht5.output, Nat.le_trans ht5.size hg6.size, fun i hi hn => (hg6.block i (by omega) (fun e => by have := (Hltr.out i e.symm).1; omega)).trans (ht5.block i hi hn)⟩
        have hP6 : PInL lo w6 p l2 false := HP5.out.lowN ⟨hg6.size, fun i hi => hg6.block i (by omega) (fun e => by have := (Hltr.out i e.symm).1; omega)⟩
        have Hlen6 : Hid ((rows ++ [e2]).length = k + 1) := Lib.hid (by rw [List.length_append, Hlen.out]; rfl)
        clear hg6 hown6
        go_wp2_with fail
        go_roundw
        case rel => exact ⟨k + 1, _, (l2, false), by omega, by go_num, hrow6, hP6, Hfin, Hlen6, ht6⟩
        case measure => simp [Go.RowKit.intOf]; omega
    · obtain rfl : k = n := by omega
      have hd1 : decide ((k : Int) < (k : Int)) = false := by simp
      have hd2 : decide (k < k) = false := by simp
      have Hfin := Lib.hid (show R = (rows, s1) by rw [← Hrun.out, Nat.sub_self]; rfl)
      have HP := Lib.hid hP
      have Hrow := Lib.hid hrow
      clear hP hrow
      go_wp2_with fail
      go_ret
      exact ⟨_, rfl, by rw [Hfin.out]; exact Hrow.out, by rw [Hfin.out]; exact HP.out, ht⟩

end Go.Proofs.Ytkepfigoeaheaaa

namespace Go.Proofs.Ytkepfigoeaheaaa
open Go.RowKit
set_option linter.unusedVariables false
set_option linter.unusedSimpArgs false


def comZ : List Value := comV 0 refZ refZ refZ (.slice none 0 0) (Lib.byteCells zeros) (.slice none 0 0)
theorem comZero (w : World) : (zeroValue 30).run Try.prog w = .ok (.agg comZ.toArray) w := by kernel_rfl
theorem com_built0 : Try.prog.built 30 [] = some comZ.toArray := by kernel_rfl
theorem com_built1 (ep : Int) : Try.prog.built 30 [(0, .int .u64 ep)] = some (Value.int .u64 ep :: comZ.drop 1).toArray := by kernel_rfl
theorem comZ_length : comZ.length = 137 := by rfl
theorem comV_one {ep : Nat} {R1 R2 R3 SL : List Value} {bv ev : Value} (h1 : ∀ v ∈ R1, v.oneCell' = true) (h2 : ∀ v ∈ R2, v.oneCell' = true) (h3 : ∀ v ∈ R3, v.oneCell' = true) (hs : ∀ v ∈ SL, v.oneCell' = true) (hb : bv.oneCell' = true) (he : ev.oneCell' = true) : ∀ v ∈ comV ep R1 R2 R3 bv SL ev, v.oneCell' = true := by
  intro v hv
  simp only [comV, List.mem_cons, List.mem_append, List.not_mem_nil, or_false] at hv
  rcases hv with rfl | hv | hv | hv | rfl | hv | rfl
  · rfl
  · exact h1 v hv
  · exact h2 v hv
  · exact h3 v hv
  · exact hb
  · exact hs v hv
  · exact he
theorem mid_set {pre old new post : List Value} {k n : Nat} (hk : pre.length = k) (ho : old.length = n) (hn : new.length = n) : (pre ++ (old ++ post)).take k ++ (new ++ (pre ++ (old ++ post)).drop (k + new.length)) = pre ++ (new ++ post) := by
  subst hk
  rw [List.take_left, hn, ← ho, ← List.append_assoc pre old post, ← List.length_append, List.drop_left]
theorem one_set {pre post : List Value} {k : Nat} {x y : Value} (hk : pre.length = k) : (pre ++ (x :: post)).set k y = pre ++ (y :: post) := by
  subst hk
  rw [List.set_append_right _ _ (Nat.le_refl _), Nat.sub_self]
  rfl
theorem comV_set1 {ep : Nat} {R1 R2 R3 SL X : List Value} {bv ev : Value} (h1 : R1.length = 34) (hX : X.length = 34) : (comV ep R1 R2 R3 bv SL ev).take 1 ++ (X ++ (comV ep R1 R2 R3 bv SL ev).drop (1 + X.length)) = comV ep X R2 R3 bv SL ev :=
  mid_set (pre := [.int .u64 (ep : Nat)]) (post := R2 ++ (R3 ++ (bv :: (SL ++ [ev])))) rfl h1 hX
theorem comV_set2 {ep : Nat} {R1 R2 R3 SL X : List Value} {bv ev : Value} (h1 : R1.length = 34) (h2 : R2.length = 34) (hX : X.length = 34) : (comV ep R1 R2 R3 bv SL ev).take 35 ++ (X ++ (comV ep R1 R2 R3 bv SL ev).drop (35 + X.length)) = comV ep R1 X R3 bv SL ev := by
  have := mid_set (pre := .int .u64 (ep : Nat) :: R1) (old := R2) (new := X) (post := R3 ++ (bv :: (SL ++ [ev]))) (k := 35) (by simp [h1]) h2 hX
  simpa [comV] using this
theorem comV_set3 {ep : Nat} {R1 R2 R3 SL X : List Value} {bv ev : Value} (h1 : R1.length = 34) (h2 : R2.length = 34) (h3 : R3.length = 34) (hX : X.length = 34) : (comV ep R1 R2 R3 bv SL ev).take 69 ++ (X ++ (comV ep R1 R2 R3 bv SL ev).drop (69 + X.length)) = comV ep R1 R2 X bv SL ev := by
  have := mid_set (pre := .int .u64 (ep : Nat) :: (R1 ++ R2)) (old := R3) (new := X) (post := bv :: (SL ++ [ev])) (k := 69) (by simp [h1, h2]) h3 hX
  simpa [comV] using this
theorem comV_setS {ep : Nat} {R1 R2 R3 SL X : List Value} {bv ev : Value} (h1 : R1.length = 34) (h2 : R2.length = 34) (h3 : R3.length = 34) (hs : SL.length = 32) (hX : X.length = 32) : (comV ep R1 R2 R3 bv SL ev).take 104 ++ (X ++ (comV ep R1 R2 R3 bv SL ev).drop (104 + X.length)) = comV ep R1 R2 R3 bv X ev := by
  have := mid_set (pre := .int .u64 (ep : Nat) :: (R1 ++ (R2 ++ (R3 ++ [bv])))) (old := SL) (new := X) (post := [ev]) (k := 104) (by simp [h1, h2, h3]) hs hX
  simpa [comV] using this
theorem comV_setB {ep : Nat} {R1 R2 R3 SL : List Value} {bv ev y : Value} (h1 : R1.length = 34) (h2 : R2.length = 34) (h3 : R3.length = 34) : (comV ep R1 R2 R3 bv SL ev).set 103 y = comV ep R1 R2 R3 y SL ev := by
  have := one_set (pre := .int .u64 (ep : Nat) :: (R1 ++ (R2 ++ R3))) (x := bv) (y := y) (post := SL ++ [ev]) (k := 103) (by simp [h1, h2, h3])
  simpa [comV] using this
theorem comV_setE {ep : Nat} {R1 R2 R3 SL : List Value} {bv ev y : Value} (h1 : R1.length = 34) (h2 : R2.length = 34) (h3 : R3.length = 34) (hs : SL.length = 32) : (comV ep R1 R2 R3 bv SL ev).set 136 y = comV ep R1 R2 R3 bv SL y := by
  have := one_set (pre := .int .u64 (ep : Nat) :: (R1 ++ (R2 ++ (R3 ++ (bv :: SL))))) (x := ev) (y := y) (post := []) (k := 136) (by simp [h1, h2, h3, hs])
  simpa [comV] using this
/-- Bytes that are a commit's. -/
def Good (b : List UInt8) : Prop := b.length ≤ 65536 ∧ dS6 b = ([], false) ∧ ∃ c, IsDec b c ∧ 0 < c.ep ∧ RiseB c.bins
/-- What is known of a commit without its memory. -/
structure CxW (x : Cx) : Prop where
  ep : x.c.ep < 18446744073709551616
  r1 : RefW x.c.r1
  r2 : RefW x.c.r2
  r3 : RefW x.c.r3
  bw : ∀ b ∈ x.c.bins, BinW b
  st : x.c.st.length = 32
  lb : x.c.bins.length ≤ x.cb
  mb : x.cb ≤ maxLen
  le : x.c.evs.length ≤ x.ce
  me : x.ce ≤ maxLen
theorem CxW.length {x : Cx} (h : CxW x) : (comC x).length = 137 := comV_length (rC_length h.r1) (rC_length h.r2) (rC_length h.r3) (by rw [Lib.byteCells_length, h.st])
def DecPost (b : List UInt8) (w : World) (e : Ending) (w' : World) : Prop :=
  Below w.heap.size w w' ∧ ((∃ x, e = .returned (.tuple #[.agg (comC x).toArray, .int .i64 0]) ∧ CxOk w' w'.heap.size x ∧ IsDec b x.c ∧ Good b) ∨ (e = .returned (.tuple #[.agg comZ.toArray, .int .i64 3]) ∧ ¬ Good b))
/-- From w to w' of all that was there blocks p and g alone have turned. -/
def Two (B : Nat) (w0 w : World) : Prop := Below B w0 w
theorem Arr.turn {w w' : World} {g p : Nat} {T : TypeId} {cs : List Value} (h : Arr w g T cs) (ht : Turn p w w') (hne : g ≠ p) : Arr w' g T cs := (ht.block g h.lt (fun e => hne (by injection e))).trans h
theorem Turn.belowC {p B : Nat} {w w' : World} (ht : Turn p w w') (hB : B ≤ w.heap.size) (hp : B ≤ p) : Below B w w' := ⟨ht.os, ht.tape, ht.output, ht.size, fun i hi => ht.block i (by omega) (fun e => by injection e; omega)⟩

set_option maxHeartbeats 16000000 in
set_option maxRecDepth 100000 in
theorem dec_any (A : Option Addr) (n c : Nat) (b : List UInt8) (hn : b.length = n) (hc : n ≤ c) (hm : c ≤ maxLen) (w : World) (hb : Bs w w.heap.size A b) :
    Calls Try.prog 13 #[.slice A n c] w (DecPost b w) := by
  have hm' : c ≤ 9223372036854775807 := by unfold maxLen at hm; omega
  obtain ⟨ZL, hZL⟩ : ∃ z, z = comZ := ⟨_, rfl⟩
  have HZ := Lib.hid (fun w : World => show (zeroValue 30).run Try.prog w = .ok (.agg ZL.toArray) w by rw [hZL]; exact comZero w)
  have HZb := Lib.hid (show Try.prog.built 30 [] = some ZL.toArray by rw [hZL]; exact com_built0)
  have HZi := Lib.hid (show (Try.prog.info? 30).map (·.size) = some ZL.toArray.size by rw [hZL]; exact comSize)
  have HZ1 := Lib.hid (show ZL.toArray.all (·.oneCell') = true by rw [hZL]; exact all_oneC (comV_one (refC_cell _ _ _) (refC_cell _ _ _) (refC_cell _ _ _) (byteCells_one _) rfl rfl))
  have HZL := Lib.hid hZL
  obtain ⟨W1, hW1⟩ : ∃ z, z = w.alloc (.cells ZL.toArray 30) := ⟨_, rfl⟩
  have hR1 : Arr W1 w.heap.size 30 ZL := by rw [hW1]; exact Arr.new w _ _
  have hb0 : Below w.heap.size w W1 := by rw [hW1]; exact (Below.refl _ w).alloc (Nat.le_refl _) _
  have hsz : W1.heap.size = w.heap.size + 1 := by rw [hW1]; simp
  have HW1 := Lib.hid hW1
  have Hbs := Lib.hid (hb.below hb0 (Nat.le_refl _))
  have Hn := Lib.hid hn
  clear hZL hW1 hb hn
  go_enter Try.func13, Try.ntmps13
  go_upto_region 1 with (first | (refine wpList_allocZC rfl 30 rfl ZL.toArray (HZ.out _) ?_; rw [← HW1.out]))
  clear HW1
  by_cases hbig : 65536 < n
  · have hq : decide ((65536 : Int) < (n : Int)) = true := by simp; omega
    have Hno := Lib.hid (show ¬ Good b from fun h => by have := h.1; rw [Hn.out] at this; omega)
    have hset : (W1.setRow w.heap.size ZL.toArray).heap[w.heap.size]? = some (.cells ZL.toArray 30 (0, 0)) := hR1.setRow ZL
    have hbe : Below w.heap.size w (W1.setRow w.heap.size ZL.toArray) := hb0.trans (((Only.refl (fun k => k = w.heap.size) W1).setRow (.inl rfl) _).below (by omega) (by rintro k rfl; omega))
    have Hset := Lib.hid hset
    have Hbe := Lib.hid hbe
    clear hbig hset hbe
    go_wp2_with (first | (refine wpList_builtD rfl _ _ rfl [] rfl ZL.toArray HZb.out ?_) | (refine wpList_store_row rfl _ _ _ rfl w.heap.size ZL.toArray rfl rfl 30 ZL.toArray hR1 HZi.out rfl HZ1.out ?_))
    (try simp only [Exit.inBlock, Exit.then])
    obtain ⟨V, hV⟩ : ∃ V, V = Value.tuple #[.agg ZL.toArray, .int .i64 3] := ⟨_, rfl⟩
    refine bodyPost_ret (v := V) ?hx1 ?h2 ?h3
    case hx1 => rw [hV]; exact results_cell2 (fn := Try.f13) (by rfl) _ _ w.heap.size 30 ZL.toArray (0, 0) _ (by rfl) _ (by rfl) Hset.out Try.underlying30 rfl HZi.out
    case h2 => rfl
    case h3 => exact ⟨Hbe.out, .inr ⟨by rw [hV, HZL.out], Hno.out⟩⟩
  have hq : decide ((65536 : Int) < (n : Int)) = false := by simp; omega
  have Hsm := Lib.hid (show b.length ≤ 65536 by rw [Hn.out]; omega)
  clear hbig
  go_wp2_with fail
  have hfrom := from_anyL w.heap.size A c b W1 Hbs.out (by have := Hsm.out; omega)
  rw [Hn.out] at hfrom
  refine Calls.mono hfrom ?_
  rintro e w2 ⟨p, rfl, hp2, hP2, hb2⟩
  obtain ⟨lo, hlo⟩ : ∃ z, z = W1.heap.size := ⟨_, rfl⟩
  rw [← hlo] at hP2
  have hlog : w.heap.size < lo := by omega
  have Hlog := Lib.hid hlog
  clear hlo hlog
  have hR2 := hR1.up hb2
  have hb2w := hb0.trans (hb2.mono hb0.size)
  have hpg : w.heap.size < p := by omega
  have hP2' : PInL lo w2 p ((b, false) : St).1 ((b, false) : St).2 := hP2
  have hp2s := hP2.lt
  clear hfrom hb2 hR1 hb0 hsz Hbs hP2
  go_wp2_with fail
  refine Calls.mono (number_fl p 18446744073709551615 (b, false) w2 hP2' (by omega)) ?_
  rintro e w3 ⟨rfl, hP3, ht3⟩
  have hP3' : PInL lo w3 p (dS0 b).1 (dS0 b).2 := hP3
  obtain ⟨ep, hep⟩ : ∃ z, (numS 18446744073709551615 (b, false)).1 = z := ⟨_, rfl⟩
  have hepl : ep < 18446744073709551616 := by rw [← hep]; have := numS_le 18446744073709551615 (b, false); omega
  rw [hep]
  have hR3 := hR2.turn ht3 (by omega)
  have hb3w := hb2w.trans (ht3.belowC hb2w.size (by omega))
  have Hep := Lib.hid hep
  have hbs3 := hb3w.size
  obtain ⟨C0, hC0⟩ : ∃ z, z = comV ep refZ refZ refZ (.slice none 0 0) (Lib.byteCells zeros) (.slice none 0 0) := ⟨_, rfl⟩
  have HC0b := Lib.hid (show Try.prog.built 30 [(0, .int .u64 (ep : Nat))] = some C0.toArray by rw [hC0]; exact com_built1 ep)
  have HC0l := Lib.hid (show C0.length = 137 by rw [hC0]; exact comV_length rfl rfl rfl rfl)
  have HC0i := Lib.hid (show (Try.prog.info? 30).map (·.size) = some C0.toArray.size by rw [List.size_toArray, HC0l.out]; exact comSize)
  have HC0z := Lib.hid (show ZL.toArray.size = C0.toArray.size by rw [List.size_toArray, List.size_toArray, HC0l.out, HZL.out]; rfl)
  have HC01 := Lib.hid (show C0.toArray.all (·.oneCell') = true by
    rw [hC0]
    exact all_oneC (comV_one (refC_cell _ _ _) (refC_cell _ _ _) (refC_cell _ _ _) (byteCells_one _) rfl rfl))
  obtain ⟨w4, hw4⟩ : ∃ W, W = (w3.alloc (.cells ZL.toArray 30)).setRow w3.heap.size C0.toArray := ⟨_, rfl⟩
  obtain ⟨hX4, hb4⟩ := alloc_row w3 30 ZL.toArray C0
  rw [← hw4] at hX4 hb4
  obtain ⟨g, hg⟩ : ∃ z, z = w3.heap.size := ⟨_, rfl⟩
  have hpg3 : p < w3.heap.size := hP3'.lt
  have hP4 : PInL lo w4 p (dS0 b).1 (dS0 b).2 := hP3'.lowN ⟨hb4.size, fun i hi => hb4.block i (by omega)⟩
  have hR4 := hR3.up hb4
  have hb4w := hb3w.trans (hb4.mono hb3w.size)
  have Hw4 := Lib.hid hw4
  rw [hC0] at hX4
  have hgl := hX4.lt
  have HP4 := Lib.hid hP4
  clear hP2' hP3 hP3' ht3 hR2 hR3 hb2w hb3w hep hC0 hw4 hb4 hP4
  go_upto_region 5 with (first
    | (refine wpList_builtD rfl _ _ rfl _ rfl C0.toArray HC0b.out ?_)
    | (refine wpList_allocZC rfl 30 rfl ZL.toArray (HZ.out _) ?_)
    | (refine wpList_store_row rfl _ _ _ rfl w3.heap.size C0.toArray rfl rfl 30 ZL.toArray (heap_alloc_new w3 _) HC0i.out HC0z.out HC01.out ?_; rw [← Hw4.out]))
  rw [← hg] at hX4 hgl ⊢
  have hgp : p < g := by omega
  clear hg Hw4
  obtain ⟨T1, hT1⟩ : ∃ z, z = rC (refS (dS0 b)).1 := ⟨_, rfl⟩
  have l1 : T1.length = 34 := by rw [hT1]; exact rC_length (refS_w _)
  have HTi1 := Lib.hid (show (Try.prog.info? 26).map (·.size) = some T1.toArray.size by rw [List.size_toArray, l1]; exact refSize)
  have HT11 := Lib.hid (show T1.toArray.all (·.oneCell') = true by rw [hT1]; exact all_oneC (rC_one _))
  have HT1 := Lib.hid hT1
  have Hl1 := Lib.hid l1
  clear hT1 l1
  go_wp2_with fail
  refine Calls.mono (btake_fl (dS0 b) p w4 HP4.out T1 HT1.out) ?_
  rintro e w5 ⟨rfl, hP5, ht5⟩
  have hP5' : PInL lo w5 p (dS1 b).1 (dS1 b).2 := by rw [dS1]; exact hP5
  have hX5 := hX4.turn ht5 (by omega)
  have hR5 := hR4.turn ht5 (by omega)
  have hbs5 := hb4w.size
  have hb5w := hb4w.trans (ht5.belowC hbs5 (by omega))
  have hth5 : w5.there g 1 T1.toArray.size := there_of_arr hX5 (by rw [comV_length rfl rfl rfl rfl, List.size_toArray, Hl1.out]; omega)
  have hXc := Arr.setIn T1 1 _ w5 hX5 (by rw [comV_length rfl rfl rfl rfl, Hl1.out]; omega)
  rw [comV_set1 rfl Hl1.out] at hXc
  have hOc : Only (fun k => k = g) w5 (w5.setCells g 1 T1) := Only.setIn (R := fun k => k = g) rfl T1 1 w5 (Only.refl _ _)
  obtain ⟨w6, hw6⟩ : ∃ z, z = w5.setCells g 1 T1 := ⟨_, rfl⟩
  rw [← hw6] at hXc hOc
  have hX6 := hXc
  have hP6 : PInL lo w6 p (dS1 b).1 (dS1 b).2 := hP5'.lowN ⟨hOc.size, fun k hk => hOc.block k (by have := hP5'.lt; omega) (by omega)⟩
  have hR6 : Arr w6 w.heap.size 30 ZL := hR5.only hOc (by omega)
  have hb6w := hb5w.trans (hOc.below hb5w.size (by rintro k rfl; omega))
  have HP6 := Lib.hid hP6
  have Hw6 := Lib.hid hw6
  have Hth5 := Lib.hid hth5
  have hgl6 := hX6.lt
  clear hXc hOc hP5 hP5' ht5 hX4 hX5 hR4 hR5 hb4w hb5w hP6 hw6 hth5 HP4
  go_upto_region 6 with (first | (refine wpList_store_mid rfl 26 _ _ rfl g 1 T1.toArray rfl rfl Hth5.out HTi1.out HT11.out ?_; rw [show T1.toArray.toList = T1 from rfl, ← Hw6.out]))
  clear Hw6 Hth5
  obtain ⟨T2, hT2⟩ : ∃ z, z = rC (refS (dS1 b)).1 := ⟨_, rfl⟩
  have l2 : T2.length = 34 := by rw [hT2]; exact rC_length (refS_w _)
  have HTi2 := Lib.hid (show (Try.prog.info? 26).map (·.size) = some T2.toArray.size by rw [List.size_toArray, l2]; exact refSize)
  have HT12 := Lib.hid (show T2.toArray.all (·.oneCell') = true by rw [hT2]; exact all_oneC (rC_one _))
  have HT2 := Lib.hid hT2
  have Hl2 := Lib.hid l2
  clear hT2 l2
  go_wp2_with fail
  refine Calls.mono (btake_fl (dS1 b) p w6 HP6.out T2 HT2.out) ?_
  rintro e w7 ⟨rfl, hP7, ht7⟩
  have hP7' : PInL lo w7 p (dS2 b).1 (dS2 b).2 := by rw [dS2]; exact hP7
  have hX7 := hX6.turn ht7 (by omega)
  have hR7 := hR6.turn ht7 (by omega)
  have hbs7 := hb6w.size
  have hb7w := hb6w.trans (ht7.belowC hbs7 (by omega))
  have hth7 : w7.there g 35 T2.toArray.size := there_of_arr hX7 (by rw [comV_length Hl1.out rfl rfl rfl, List.size_toArray, Hl2.out]; omega)
  have hXc := Arr.setIn T2 35 _ w7 hX7 (by rw [comV_length Hl1.out rfl rfl rfl, Hl2.out]; omega)
  rw [comV_set2 Hl1.out rfl Hl2.out] at hXc
  have hOc : Only (fun k => k = g) w7 (w7.setCells g 35 T2) := Only.setIn (R := fun k => k = g) rfl T2 35 w7 (Only.refl _ _)
  obtain ⟨w8, hw8⟩ : ∃ z, z = w7.setCells g 35 T2 := ⟨_, rfl⟩
  rw [← hw8] at hXc hOc
  have hX8 := hXc
  have hP8 : PInL lo w8 p (dS2 b).1 (dS2 b).2 := hP7'.lowN ⟨hOc.size, fun k hk => hOc.block k (by have := hP7'.lt; omega) (by omega)⟩
  have hR8 : Arr w8 w.heap.size 30 ZL := hR7.only hOc (by omega)
  have hb8w := hb7w.trans (hOc.below hb7w.size (by rintro k rfl; omega))
  have HP8 := Lib.hid hP8
  have Hw8 := Lib.hid hw8
  have Hth7 := Lib.hid hth7
  have hgl8 := hX8.lt
  clear hXc hOc hP7 hP7' ht7 hX6 hX7 hR6 hR7 hb6w hb7w hP8 hw8 hth7 HP6
  go_upto_region 7 with (first | (refine wpList_store_mid rfl 26 _ _ rfl g 35 T2.toArray rfl rfl Hth7.out HTi2.out HT12.out ?_; rw [show T2.toArray.toList = T2 from rfl, ← Hw8.out]))
  clear Hw8 Hth7
  obtain ⟨T3, hT3⟩ : ∃ z, z = rC (refS (dS2 b)).1 := ⟨_, rfl⟩
  have l3 : T3.length = 34 := by rw [hT3]; exact rC_length (refS_w _)
  have HTi3 := Lib.hid (show (Try.prog.info? 26).map (·.size) = some T3.toArray.size by rw [List.size_toArray, l3]; exact refSize)
  have HT13 := Lib.hid (show T3.toArray.all (·.oneCell') = true by rw [hT3]; exact all_oneC (rC_one _))
  have HT3 := Lib.hid hT3
  have Hl3 := Lib.hid l3
  clear hT3 l3
  go_wp2_with fail
  refine Calls.mono (btake_fl (dS2 b) p w8 HP8.out T3 HT3.out) ?_
  rintro e w9 ⟨rfl, hP9, ht9⟩
  have hP9' : PInL lo w9 p (dS3 b).1 (dS3 b).2 := by rw [dS3]; exact hP9
  have hX9 := hX8.turn ht9 (by omega)
  have hR9 := hR8.turn ht9 (by omega)
  have hbs9 := hb8w.size
  have hb9w := hb8w.trans (ht9.belowC hbs9 (by omega))
  have hth9 : w9.there g 69 T3.toArray.size := there_of_arr hX9 (by rw [comV_length Hl1.out Hl2.out rfl rfl, List.size_toArray, Hl3.out]; omega)
  have hXc := Arr.setIn T3 69 _ w9 hX9 (by rw [comV_length Hl1.out Hl2.out rfl rfl, Hl3.out]; omega)
  rw [comV_set3 Hl1.out Hl2.out rfl Hl3.out] at hXc
  have hOc : Only (fun k => k = g) w9 (w9.setCells g 69 T3) := Only.setIn (R := fun k => k = g) rfl T3 69 w9 (Only.refl _ _)
  obtain ⟨w10, hw10⟩ : ∃ z, z = w9.setCells g 69 T3 := ⟨_, rfl⟩
  rw [← hw10] at hXc hOc
  have hX10 := hXc
  have hP10 : PInL lo w10 p (dS3 b).1 (dS3 b).2 := hP9'.lowN ⟨hOc.size, fun k hk => hOc.block k (by have := hP9'.lt; omega) (by omega)⟩
  have hR10 : Arr w10 w.heap.size 30 ZL := hR9.only hOc (by omega)
  have hb10w := hb9w.trans (hOc.below hb9w.size (by rintro k rfl; omega))
  have HP10 := Lib.hid hP10
  have Hw10 := Lib.hid hw10
  have Hth9 := Lib.hid hth9
  have hgl10 := hX10.lt
  clear hXc hOc hP9 hP9' ht9 hX8 hX9 hR8 hR9 hb8w hb9w hP10 hw10 hth9 HP8
  go_upto_region 8 with (first | (refine wpList_store_mid rfl 26 _ _ rfl g 69 T3.toArray rfl rfl Hth9.out HTi3.out HT13.out ?_; rw [show T3.toArray.toList = T3 from rfl, ← Hw10.out]))
  clear Hw10 Hth9
  have hlens := Lib.hid (show T1.length = 34 ∧ T2.length = 34 ∧ T3.length = 34 from ⟨Hl1.out, Hl2.out, Hl3.out⟩)
  go_wp2_with fail
  refine Calls.mono (tnrow_any lo p (dS3 b) w10 HP10.out) ?_
  rintro e w11 ⟨v11, rfl, hB11, hP11, ht11⟩
  have hP11' : PInL lo w11 p (dS4 b).1 (dS4 b).2 := by rw [dS4]; exact hP11
  have hX11 := hX10.turn ht11 (by omega)
  have hR11 := hR10.turn ht11 (by omega)
  have hbs11 := hb10w.size
  have hb11w := hb10w.trans (ht11.belowC hbs11 (by omega))
  have h1011 := ht11.size
  obtain ⟨Ab, cb, rfl, hbc, hbm, _⟩ := hB11.slice
  obtain ⟨cc, hcc⟩ := isDec b
  rw [hcc.bins] at hB11 hbc ⊢
  obtain ⟨nb, hnb⟩ : ∃ z, cc.bins.length = z := ⟨_, rfl⟩
  rw [hnb] at hB11 hbc ⊢
  have hc11 : w11.cell? ⟨g, 103, none⟩ = some (.slice none 0 0) := (Arr.com hX11 Hl1.out Hl2.out Hl3.out rfl).bins
  have hf11 : w11.frozen? ⟨g, 103, none⟩ = false := hX11.frozen 103
  have hX12 := hX11.set 103 (.slice Ab nb cb)
  rw [comV_setB Hl1.out Hl2.out Hl3.out] at hX12
  have hO12 : Only (fun k => k = g) w11 (w11.setCell ⟨g, 103, none⟩ (.slice Ab nb cb)) := Only.setCell (R := fun k => k = g) (Only.refl _ _) (.inl rfl) _
  obtain ⟨w12, hw12⟩ : ∃ z, z = w11.setCell ⟨g, 103, none⟩ (.slice Ab nb cb) := ⟨_, rfl⟩
  have Hw12 := Lib.hid hw12
  rw [← hw12] at hX12 hO12
  have hP12 : PInL lo w12 p (dS4 b).1 (dS4 b).2 := hP11'.lowN ⟨hO12.size, fun k hk => hO12.block k (by have := hP11'.lt; omega) (by omega)⟩
  have hR12 : Arr w12 w.heap.size 30 ZL := hR11.only hO12 (by omega)
  have hb12w := hb11w.trans (hO12.below hb11w.size (by rintro k rfl; omega))
  have hB12 : BRow w12 w10.heap.size (.slice Ab nb cb) cc.bins := by
    have hlt := hB11.lt
    have h10g : g < w10.heap.size := hgl10
    exact ⟨hB11.1, World.ownsRow.kept (row := some g) hB11.2 ⟨hO12.os, hO12.tape, hO12.output, hO12.size, fun k hk hn => hO12.block k hk (fun e => hn (by rw [e]))⟩ (.inr fun e => by have := (hlt g e).1; omega)⟩
  have HB12 := Lib.hid hB12
  have HP12 := Lib.hid hP12
  have Hcc := Lib.hid hcc
  have Hnb := Lib.hid hnb
  have h1112 := hO12.size
  have Hgl10 := Lib.hid hgl10
  clear hP11 hP11' ht11 hX10 hR10 hb10w hB11 hX11 hR11 hb11w hO12 hw12 hP12 hB12 hcc hnb HP10
  go_upto_region 9 with fail
  rw [← Hw12.out]
  clear Hw12 hc11 hf11
  obtain ⟨SL, hSL⟩ : ∃ z, z = Lib.byteCells (digS (dS4 b)).1 := ⟨_, rfl⟩
  have hSl : SL.length = 32 := by rw [hSL, Lib.byteCells_length]; exact digS_length _
  have HSi := Lib.hid (show (Try.prog.info? 24).map (·.size) = some SL.toArray.size by rw [List.size_toArray, hSl]; exact digInfo)
  have HS1 := Lib.hid (show SL.toArray.all (·.oneCell') = true by rw [hSL]; exact dig_one _)
  have HSL := Lib.hid hSL
  have HSl := Lib.hid hSl
  have Hdig := Lib.hid (show Calls Try.prog 47 #[.pointer (some ⟨p, 0, none⟩)] w12 fun e w' => e = .returned (.agg SL.toArray) ∧ PInL lo w' p (digS (dS4 b)).2.1 (digS (dS4 b)).2.2 ∧ Turn p w12 w' by rw [hSL]; exact digest_fl p (dS4 b) w12 HP12.out)
  clear hSL hSl
  go_wp2_with fail
  refine Calls.mono Hdig.out ?_
  rintro e w13 ⟨rfl, hP13, ht13⟩
  have hP13' : PInL lo w13 p (dS5 b).1 (dS5 b).2 := by rw [dS5]; exact hP13
  have hX13 := hX12.turn ht13 (by omega)
  have hR13 := hR12.turn ht13 (by omega)
  have hb13w := hb12w.trans (ht13.belowC hb12w.size (by omega))
  have hB13 := HB12.out.turn ht13 (by have := Hgl10.out; omega)
  have hth13 : w13.there g 104 SL.toArray.size := there_of_arr hX13 (by rw [comV_length Hl1.out Hl2.out Hl3.out rfl, List.size_toArray, HSl.out]; omega)
  have hXc := Arr.setIn SL 104 _ w13 hX13 (by rw [comV_length Hl1.out Hl2.out Hl3.out rfl, HSl.out]; omega)
  rw [comV_setS Hl1.out Hl2.out Hl3.out rfl HSl.out] at hXc
  have hOc : Only (fun k => k = g) w13 (w13.setCells g 104 SL) := Only.setIn (R := fun k => k = g) rfl SL 104 w13 (Only.refl _ _)
  obtain ⟨w14, hw14⟩ : ∃ z, z = w13.setCells g 104 SL := ⟨_, rfl⟩
  rw [← hw14] at hXc hOc
  have hX14 := hXc
  have hP14 : PInL lo w14 p (dS5 b).1 (dS5 b).2 := hP13'.lowN ⟨hOc.size, fun k hk => hOc.block k (by have := hP13'.lt; omega) (by omega)⟩
  have hR14 : Arr w14 w.heap.size 30 ZL := hR13.only hOc (by omega)
  have hb14w := hb13w.trans (hOc.below hb13w.size (by rintro k rfl; omega))
  have hB14 : BRow w14 w10.heap.size (.slice Ab nb cb) cc.bins := by
    have hlt := hB13.lt
    have h10g : g < w10.heap.size := Hgl10.out
    exact ⟨hB13.1, World.ownsRow.kept (row := some g) hB13.2 ⟨hOc.os, hOc.tape, hOc.output, hOc.size, fun k hk hn => hOc.block k hk (fun e => hn (by rw [e]))⟩ (.inr fun e => by have := (hlt g e).1; omega)⟩
  have HB14 := Lib.hid hB14
  have HP14 := Lib.hid hP14
  have Hw14 := Lib.hid hw14
  have Hth13 := Lib.hid hth13
  have hgl14 := hX14.lt
  have h1314 : w10.heap.size ≤ w14.heap.size := by have := ht13.size; have := hOc.size; omega
  clear hXc hOc hP13 hP13' ht13 hX12 hX13 hR12 hR13 hb12w hb13w hP14 hw14 hth13 HP12 hB13 hB14 HB12 Hdig
  go_upto_region 10 with (first | (refine wpList_store_mid rfl 24 _ _ rfl g 104 SL.toArray rfl rfl Hth13.out HSi.out HS1.out ?_; rw [show SL.toArray.toList = SL from rfl, ← Hw14.out]))
  clear Hw14 Hth13
  go_wp2_with fail
  refine Calls.mono (terow_any lo p (dS5 b) w14 HP14.out) ?_
  rintro e w15 ⟨v15, rfl, hE15, hP15, ht15⟩
  have hP15' : PInL lo w15 p (dS6 b).1 (dS6 b).2 := by rw [dS6]; exact hP15
  have hX15 := hX14.turn ht15 (by omega)
  have hR15 := hR14.turn ht15 (by omega)
  have hb15w := hb14w.trans (ht15.belowC hb14w.size (by omega))
  have hB15 := HB14.out.turn ht15 (by have := Hgl10.out; omega)
  have hp15 := hP15'.lt
  obtain ⟨Ae, ce, rfl, hec, hem, _⟩ := hE15.rows (by omega)
  rw [Hcc.out.evs] at hE15 hec ⊢
  obtain ⟨ne, hne⟩ : ∃ z, cc.evs.length = z := ⟨_, rfl⟩
  rw [hne] at hE15 hec ⊢
  have hc15 : w15.cell? ⟨g, 136, none⟩ = some (.slice none 0 0) := (Arr.com hX15 Hl1.out Hl2.out Hl3.out HSl.out).evs
  have hf15 : w15.frozen? ⟨g, 136, none⟩ = false := hX15.frozen 136
  have hX16 := hX15.set 136 (.slice Ae ne ce)
  rw [comV_setE Hl1.out Hl2.out Hl3.out HSl.out] at hX16
  have hO16 : Only (fun k => k = g) w15 (w15.setCell ⟨g, 136, none⟩ (.slice Ae ne ce)) := Only.setCell (R := fun k => k = g) (Only.refl _ _) (.inl rfl) _
  obtain ⟨w16, hw16⟩ : ∃ z, z = w15.setCell ⟨g, 136, none⟩ (.slice Ae ne ce) := ⟨_, rfl⟩
  have Hw16 := Lib.hid hw16
  rw [← hw16] at hX16 hO16
  have hP16 : PInL lo w16 p (dS6 b).1 (dS6 b).2 := hP15'.lowN ⟨hO16.size, fun k hk => hO16.block k (by omega) (by omega)⟩
  have hR16 : Arr w16 w.heap.size 30 ZL := hR15.only hO16 (by omega)
  have hb16w := hb15w.trans (hO16.below hb15w.size (by rintro k rfl; omega))
  have hgr16 : w15.grownBy w16 (some g) := ⟨hO16.os, hO16.tape, hO16.output, hO16.size, fun k hk hn => hO16.block k hk (fun e => hn (by rw [e]))⟩
  have hB16 : BRow w16 w10.heap.size (.slice Ab nb cb) cc.bins := by
    have hlt := hB15.lt
    have h10g : g < w10.heap.size := Hgl10.out
    exact ⟨hB15.1, World.ownsRow.kept hB15.2 hgr16 (.inr fun e => by have := (hlt g e).1; omega)⟩
  have hE16 : ERow lo w16 w14.heap.size p (.slice Ae ne ce) cc.evs := by
    have hlt := hE15.lt
    obtain ⟨cs, k1, k2⟩ := hE15
    refine ⟨cs, World.ownsRow.kept k1 hgr16 (.inr fun e => by have := (hlt g e).1; omega), fun i r hr => ?_⟩
    obtain ⟨A', c', q1, q2, q3, q4, q5⟩ := k2 i r hr
    exact ⟨A', c', q1, q2, q3, q4.keep fun bb oo hlt' => World.cell?_of_block (hO16.block bb (by omega) (by omega)), q5⟩
  have hp16 : p ≤ w16.heap.size := by have := hO16.size; omega
  have hbins16 : RowOf bC 35 w16 w16.heap.size Ab cc.bins := by
    obtain ⟨A', c', e1, h2, h3, h4⟩ := hB16.slice
    have e2 := (Value.slice.inj e1).1
    rw [e2]; exact h4
  have hevs16 : RowsAt w16 w16.heap.size Ae cc.evs := by
    obtain ⟨A', c', e1, h2, h3, h4⟩ := hE16.rows hp16
    have e2 := (Value.slice.inj e1).1
    rw [e2]; exact h4
  have Hbw := Lib.hid hB16.1
  have HB16 := Lib.hid hB16
  have HE16 := Lib.hid hE16
  have Hbins := Lib.hid hbins16
  have Hevs := Lib.hid hevs16
  have HP16 := Lib.hid hP16
  have HR16 := Lib.hid hR16
  have Hb16w := Lib.hid hb16w
  have Hne := Lib.hid hne
  have hgl16 := hX16.lt
  have HX16 := Lib.hid hX16
  clear hP15 hP15' ht15 hX14 hR14 hb14w hX15 hR15 hb15w hB15 HB14 hE15 hO16 hw16 hP16 hgr16 hB16 hE16 hbins16 hevs16 hR16 hb16w hne HP14 hX16
  go_upto_region 11 with fail
  rw [← Hw16.out]
  clear Hw16 hc15 hf15
  obtain ⟨p0, _, _, _, p4, _, _⟩ := Arr.com HX16.out Hl1.out Hl2.out Hl3.out HSl.out
  obtain ⟨dv, hdv⟩ : ∃ z, doneF (dS6 b).1 (dS6 b).2 = z := ⟨_, rfl⟩
  have Hdv := Lib.hid hdv
  have HX := Lib.hid (show comV ep T1 T2 T3 (.slice Ab nb cb) SL (.slice Ae ne ce) = comC ⟨cc, Ab, cb, Ae, ce⟩ by
    unfold comC
    dsimp only
    rw [← Hcc.out.ep, Hep.out, ← Hcc.out.r1, ← HT1.out, ← Hcc.out.r2, ← HT2.out, ← Hcc.out.r3, ← HT3.out, Hnb.out, Hne.out, ← Hcc.out.st, ← HSL.out])
  have Hbadset := Lib.hid (fun (w' : World) (hR : Arr w' w.heap.size 30 ZL) => show (w'.setRow w.heap.size ZL.toArray).heap[w.heap.size]? = some (.cells ZL.toArray 30 (0, 0)) from hR.setRow ZL)
  have Hbadb := Lib.hid (fun (w' : World) (hb' : Below w.heap.size w w') (cs : Array Value) => show Below w.heap.size w (w'.setRow w.heap.size cs) from hb'.trans (((Only.refl (fun k => k = w.heap.size) w').setRow (.inl rfl) _).below hb'.size (by rintro k rfl; omega)))
  clear hdv hbs11 hbs3
  go_wp2_with fail
  refine Calls.mono (done_in p (dS6 b).1 (dS6 b).2 w16 HP16.out) ?_
  rintro e w17 ⟨rfl, rfl⟩
  rw [Hdv.out]
  by_cases hd0 : dv = 0
  · subst hd0
    have q1 : ((0 : Int) != 0) = false := by simp
    have Hfin := Lib.hid (show dS6 b = ([], false) by
      have h := Hdv.out
      unfold doneF at h
      split at h
      · cases h
      · rename_i hn
        have h1 : (dS6 b).2 = false := by
          cases hq : (dS6 b).2 with
          | false => rfl
          | true => exact absurd (.inl hq) hn
        have h2 : (dS6 b).1 = [] := List.length_eq_zero_iff.1 (by
          have : ¬ 0 < (dS6 b).1.length := fun h => hn (.inr h)
          omega)
        exact Prod.ext h2 h1)
    by_cases he0 : ep = 0
    · subst he0
      have Hno := Lib.hid (show ¬ Good b from fun h => by
        obtain ⟨_, _, c', hc', hp', _⟩ := h
        have := hc'.ep
        rw [Hep.out] at this
        omega)
      go_wp2_with (first | (refine wpList_builtD rfl _ _ rfl [] rfl ZL.toArray HZb.out ?_) | (refine wpList_store_row rfl _ _ _ rfl w.heap.size ZL.toArray rfl rfl 30 ZL.toArray HR16.out HZi.out rfl HZ1.out ?_))
      (try simp only [Exit.inBlock, Exit.then])
      obtain ⟨V, hV⟩ : ∃ V, V = Value.tuple #[.agg ZL.toArray, .int .i64 3] := ⟨_, rfl⟩
      refine bodyPost_ret (v := V) ?hx1 ?h2 ?h3
      case hx1 => rw [hV]; exact results_cell2 (fn := Try.f13) (by rfl) _ _ w.heap.size 30 ZL.toArray (0, 0) _ (by rfl) _ (by rfl) (Hbadset.out _ HR16.out) Try.underlying30 rfl HZi.out
      case h2 => rfl
      case h3 => exact ⟨Hbadb.out _ Hb16w.out _, .inr ⟨by rw [hV, HZL.out], Hno.out⟩⟩
    · have q2 : ((ep : Int) == 0) = false := by rw [beq_eq_false_iff_ne]; omega
      have q3 : (ep == 0) = false := by rw [beq_eq_false_iff_ne]; exact he0
      obtain ⟨b3, hb3⟩ : ∃ b3 : Bool, b3 = true ↔ RiseB cc.bins := by classical exact ⟨decide _, decide_eq_true_iff⟩
      have Hb3 := Lib.hid hb3
      have Hhe := Lib.hid he0
      clear hb3 he0
      go_wp2_with fail
      refine Calls.mono (rise_any Ab nb cb cc.bins Hnb.out hbc hbm w16 Hbins.out b3 Hb3.out) ?_
      rintro e w18 ⟨rfl, hb18⟩
      have hR18 := HR16.out.up hb18
      have hX18 := HX16.out.up hb18
      have hb18w := Hb16w.out.trans (hb18.mono Hb16w.out.size)
      cases b3 with
      | false =>
        have Hno := Lib.hid (show ¬ Good b from fun h => by
          obtain ⟨_, _, c', hc', _, hr'⟩ := h
          rw [dec_one hc' Hcc.out] at hr'
          have := Hb3.out.2 hr'
          cases this)
        clear hb18
        go_wp2_with (first | (refine wpList_builtD rfl _ _ rfl [] rfl ZL.toArray HZb.out ?_) | (refine wpList_store_row rfl _ _ _ rfl w.heap.size ZL.toArray rfl rfl 30 ZL.toArray hR18 HZi.out rfl HZ1.out ?_))
        (try simp only [Exit.inBlock, Exit.then])
        obtain ⟨V, hV⟩ : ∃ V, V = Value.tuple #[.agg ZL.toArray, .int .i64 3] := ⟨_, rfl⟩
        refine bodyPost_ret (v := V) ?hx1 ?h2 ?h3
        case hx1 => rw [hV]; exact results_cell2 (fn := Try.f13) (by rfl) _ _ w.heap.size 30 ZL.toArray (0, 0) _ (by rfl) _ (by rfl) (Hbadset.out _ hR18) Try.underlying30 rfl HZi.out
        case h2 => rfl
        case h3 => exact ⟨Hbadb.out _ hb18w _, .inr ⟨by rw [hV, HZL.out], Hno.out⟩⟩
      | true =>
        have Hgood := Lib.hid (show Good b from ⟨Hsm.out, Hfin.out, cc, Hcc.out, by rw [← Hcc.out.ep, Hep.out]; have := Hhe.out; omega, Hb3.out.1 rfl⟩)
        obtain ⟨XL, hXL⟩ : ∃ z, z = comV ep T1 T2 T3 (.slice Ab nb cb) SL (.slice Ae ne ce) := ⟨_, rfl⟩
        rw [← hXL] at hX18 HX
        have hXl : XL.length = 137 := by rw [hXL]; exact comV_length Hl1.out Hl2.out Hl3.out HSl.out
        have HXi := Lib.hid (show (Try.prog.info? 30).map (·.size) = some XL.toArray.size by rw [List.size_toArray, hXl]; exact comSize)
        have HXz := Lib.hid (show ZL.toArray.size = XL.toArray.size by rw [List.size_toArray, List.size_toArray, hXl, HZL.out]; rfl)
        have HX1 := Lib.hid (show XL.toArray.all (·.oneCell') = true by rw [HX.out]; exact all_oneC (comC_one _))
        have Hset := Lib.hid (show (w18.setRow w.heap.size XL.toArray).heap[w.heap.size]? = some (.cells XL.toArray 30 (0, 0)) from by
          have := setRow_heap w18 w.heap.size ZL.toArray XL.toArray 30 (0, 0) hR18
          exact this)
        have hbe := Hbadb.out w18 hb18w XL.toArray
        have hOe : Only (fun k => k = w.heap.size) w18 (w18.setRow w.heap.size XL.toArray) := (Only.refl (fun k => k = w.heap.size) w18).setRow (.inl rfl) _
        obtain ⟨w19, hw19⟩ : ∃ z, z = w18.setRow w.heap.size XL.toArray := ⟨_, rfl⟩
        have Hw19 := Lib.hid hw19
        rw [← hw19] at hbe hOe
        have hok : CxOk w19 w19.heap.size ⟨cc, Ab, cb, Ae, ce⟩ := by
          have hz18 := hb18.size
          have hB19 := (HB16.out.up hb18).apart hOe (by have := Hgl10.out; omega)
          have hE19 := (HE16.out.up hb18 hp16).apart hOe Hlog.out (by omega) (by omega)
          have hz19 := hOe.size
          have q1 : RowOf bC 35 w19 w19.heap.size Ab cc.bins := by
            obtain ⟨A', c', e1, h2, h3, h4⟩ := hB19.slice
            rw [(Value.slice.inj e1).1]; exact h4
          have q2 : RowsAt w19 w19.heap.size Ae cc.evs := by
            obtain ⟨A', c', e1, h2, h3, h4⟩ := hE19.rows (by omega)
            rw [(Value.slice.inj e1).1]; exact h4
          exact ⟨by rw [← Hcc.out.ep, Hep.out]; exact hepl, by rw [← Hcc.out.r1]; exact refS_w _, by rw [← Hcc.out.r2]; exact refS_w _, by rw [← Hcc.out.r3]; exact refS_w _, Hbw.out, by rw [← Hcc.out.st]; exact digS_length _, by show cc.bins.length ≤ cb; rw [Hnb.out]; exact hbc, hbm, by show cc.evs.length ≤ ce; rw [Hne.out]; exact hec, hem, q1, q2⟩
        have Hok := Lib.hid hok
        have Hbe := Lib.hid hbe
        clear hb18 hok hbe hOe hw19 hXL hXl
        go_wp2_with (first
          | (refine wpList_load_row rfl _ _ rfl g rfl 30 XL.toArray (0, 0) _ hX18 Try.underlying30 rfl HXi.out ?_)
          | (refine wpList_store_row rfl _ _ _ rfl w.heap.size XL.toArray rfl rfl 30 ZL.toArray hR18 HXi.out HXz.out HX1.out ?_))
        (try simp only [Exit.inBlock, Exit.then])
        obtain ⟨V, hV⟩ : ∃ V, V = Value.tuple #[.agg XL.toArray, .int .i64 0] := ⟨_, rfl⟩
        refine bodyPost_ret (v := V) ?hx1 ?h2 ?h3
        case hx1 => rw [hV]; exact results_cell2 (fn := Try.f13) (by rfl) _ _ w.heap.size 30 XL.toArray (0, 0) _ (by rfl) _ (by rfl) Hset.out Try.underlying30 rfl HXi.out
        case h2 => rfl
        case h3 => exact ⟨by rw [← Hw19.out]; exact Hbe.out, .inl ⟨⟨cc, Ab, cb, Ae, ce⟩, by rw [hV, HX.out], by rw [← Hw19.out]; exact Hok.out, Hcc.out, Hgood.out⟩⟩
  · have q1 : (dv != 0) = true := by simpa using hd0
    have Hno := Lib.hid (show ¬ Good b from fun h => by
      have h2 := h.2.1
      apply hd0
      rw [← Hdv.out, h2]
      rfl)
    clear hd0
    go_wp2_with (first | (refine wpList_builtD rfl _ _ rfl [] rfl ZL.toArray HZb.out ?_) | (refine wpList_store_row rfl _ _ _ rfl w.heap.size ZL.toArray rfl rfl 30 ZL.toArray HR16.out HZi.out rfl HZ1.out ?_))
    (try simp only [Exit.inBlock, Exit.then])
    obtain ⟨V, hV⟩ : ∃ V, V = Value.tuple #[.agg ZL.toArray, .int .i64 3] := ⟨_, rfl⟩
    refine bodyPost_ret (v := V) ?hx1 ?h2 ?h3
    case hx1 => rw [hV]; exact results_cell2 (fn := Try.f13) (by rfl) _ _ w.heap.size 30 ZL.toArray (0, 0) _ (by rfl) _ (by rfl) (Hbadset.out _ HR16.out) Try.underlying30 rfl HZi.out
    case h2 => rfl
    case h3 => exact ⟨Hbadb.out _ Hb16w.out _, .inr ⟨by rw [hV, HZL.out], Hno.out⟩⟩

end Go.Proofs.Ytkepfigoeaheaaa

namespace Go.Proofs.Ytkepfigoeaheaaa
open Go.RowKit
set_option linter.unusedVariables false
set_option linter.unusedSimpArgs false


theorem refs3_built (X Y Z : List Value) (hX : X.length = 34) (hY : Y.length = 34) (hZ : Z.length = 34) : Try.prog.built 68 [(0, .agg X.toArray), (1, .agg Y.toArray), (2, .agg Z.toArray)] = some (X ++ (Y ++ Z)).toArray := by
  have h : ∀ parts, Try.prog.built 68 parts = Instr.fill (fun i => some (i * 34, 34)) (refZ ++ (refZ ++ refZ)).toArray parts := fun parts => by kernel_rfl
  rw [h]
  exact fill_ref3 X Y Z hX hY hZ _ (by rfl)
theorem refs3_index (X Y Z : List Value) (hX : X.length = 34) (hY : Y.length = 34) (hZ : Z.length = 34) (k : Nat) (hk : k < 3) (w : World) : (Instr.index 68 (.agg (X ++ (Y ++ Z)).toArray) (.int .i64 (k : Nat))).run Try.prog w = .ok (.agg ((([X, Y, Z] : List (List Value)).getD k []).toArray)) w := by
  have hs := refSize
  have hu3 := Try.underlying68
  have hu := Try.underlying26
  cases hq : Try.prog.info? 26 with
  | none => simp [hq] at hs
  | some i0 =>
    have h1 : i0.size = 34 := by simpa [hq] using hs
    have e : (((X ++ (Y ++ Z)).drop (k * 34)).take 34) = (([X, Y, Z] : List (List Value)).getD k []) := by
      match k, hk with
      | 0, _ => simp [← hX]
      | 1, _ =>
        rw [show 1 * 34 = X.length from by omega, List.drop_left, ← hY, List.take_left]
        rfl
      | 2, _ =>
        rw [← List.append_assoc, show 2 * 34 = (X ++ Y).length from by rw [List.length_append]; omega, List.drop_left, List.take_of_length_le (by omega)]
        rfl
    have hk' : (k : Int) < 3 := by omega
    simp [Instr.index, asIntOf, run_underlying hu3, run_underlying hu, sizeOf, typeInfo, hq, h1, part, isAgg, hk']
    rw [if_pos hk, e]
    rfl
/-- What Encode answers. -/
def EncPost (c : Com) (w : World) (e : Ending) (w' : World) : Prop :=
  ∃ v k, e = .returned (.tuple #[v, .int .i64 k]) ∧ Below w.heap.size w w' ∧ ((¬ MayC c ∧ k = 1 ∧ v = .slice none 0 0) ∨ (MayC c ∧ 65536 < (encC c).length ∧ k = 4 ∧ v = .slice none 0 0) ∨ (MayC c ∧ (encC c).length ≤ 65536 ∧ k = 0 ∧ Owns w' w.heap.size 5 v (encC c)))
/-- The head's bytes behind k Refs. -/
def headP (c : Com) : Nat → List UInt8
  | 0 => Lib.uvarint c.ep
  | 1 => Lib.uvarint c.ep ++ encR c.r1
  | 2 => Lib.uvarint c.ep ++ (encR c.r1 ++ encR c.r2)
  | _ => encH c
theorem headP_step (c : Com) (k : Nat) (hk : k < 3) : headP c (k + 1) = headP c k ++ encR (([c.r1, c.r2, c.r3] : List RefF).getD k zR) := by
  match k, hk with
  | 0, _ => rfl
  | 1, _ => simp [headP]
  | 2, _ => simp [headP, encH]
theorem refB_out (out d : List UInt8) (a n : Int) : refB out d a n = out ++ encR ⟨d, a, n⟩ := by unfold encR refB; simp

set_option maxHeartbeats 8000000 in
set_option maxRecDepth 100000 in
theorem enc_any (x : Cx) (VL : List Value) (hVL : VL = comC x) (w : World) (h : CxOk w w.heap.size x) (hlb : x.c.bins.length ≤ 100000) (hle : x.c.evs.length ≤ 100000) (hel : ∀ e ∈ x.c.evs, e.length ≤ 1000000) :
    Calls Try.prog 10 #[.agg VL.toArray] w (EncPost x.c w) := by
  obtain ⟨i0, hi, hz0, hz1, hz2⟩ := info_parts byteInfo
  have Hi := Lib.hid (show (Try.prog.info? 5) = some i0 ∧ i0.zero = some (.int .u8 0) ∧ i0.size = 1 ∧ i0.bytes = 1 from ⟨hi, hz0, hz1, hz2⟩)
  obtain ⟨W1, hW1⟩ : ∃ z, z = w.alloc (.cells VL.toArray 30) := ⟨_, rfl⟩
  have hR1 : Arr W1 w.heap.size 30 VL := by rw [hW1]; exact Arr.new w _ _
  have hb0 : Below w.heap.size w W1 := by rw [hW1]; exact (Below.refl _ w).alloc (Nat.le_refl _) _
  have hsz : W1.heap.size = w.heap.size + 1 := by rw [hW1]; simp
  have HVi := Lib.hid (show (Try.prog.info? 30).map (·.size) = some VL.toArray.size by rw [List.size_toArray, hVL, comC_length h]; exact comSize)
  have Hcom := Lib.hid (fun (w' : World) (hA : Arr w' w.heap.size 30 VL) => Arr.com (by rw [hVL] at hA; exact hA) (rC_length h.r1) (rC_length h.r2) (rC_length h.r3) (by rw [Lib.byteCells_length, h.st]))
  have Hok := Lib.hid h
  have HVL := Lib.hid hVL
  have HW1 := Lib.hid hW1
  obtain ⟨b, hb⟩ : ∃ b : Bool, b = true ↔ MayC x.c := by classical exact ⟨decide _, decide_eq_true_iff⟩
  have Hb := Lib.hid hb
  have Hlb := Lib.hid hlb
  have Hle := Lib.hid hle
  have Hel := Lib.hid hel
  clear hVL hW1 h hb hi hz0 hz1 hz2 hlb hle hel
  go_enter Try.func10, Try.ntmps10
  go_upto_region 1 with fail
  change Code.wp _ _ _ _ (w.alloc (.cells VL.toArray 30))
  rw [← HW1.out]
  clear HW1
  go_wp2_with (refine wpList_load_row rfl _ _ rfl w.heap.size rfl 30 VL.toArray (0, 0) _ hR1 Try.underlying30 rfl HVi.out ?_)
  refine Calls.mono (may_any x VL HVL.out W1 ((Hok.out.below hb0 (Nat.le_refl _)).more hb0.size) (Nat.le_trans Hlb.out (by omega)) b Hb.out) ?_
  rintro e w2 ⟨rfl, hb2⟩
  have hR2 := hR1.up hb2
  have hb2w := hb0.trans (hb2.mono hb0.size)
  have h2s := hb2.size
  clear hR1 hb2 hb0
  cases b with
  | false =>
    have Hno := Lib.hid (show ¬ MayC x.c from fun h => by have := Hb.out.2 h; cases this)
    clear Hb
    go_wp2_with fail
    go_ret2
    exact ⟨_, _, rfl, hb2w, .inl ⟨Hno.out, rfl, rfl⟩⟩
  | true =>
    have Hmay := Lib.hid (Hb.out.1 rfl)
    obtain ⟨p0, p1, p2, p3, p4, p5, p6⟩ := Hcom.out w2 hR2
    obtain ⟨ep, hep⟩ : ∃ z, x.c.ep = z := ⟨_, rfl⟩
    rw [hep] at p0
    have hepl : ep < 18446744073709551616 := by rw [← hep]; exact Hok.out.ep
    have Hep := Lib.hid hep
    have hlt2 := hR2.lt
    obtain ⟨B, hB⟩ : ∃ z, z = W1.heap.size := ⟨_, rfl⟩
    rw [← hB] at h2s hsz
    have hwB : w.heap.size < B := by omega
    obtain ⟨R1, hr1⟩ : ∃ z, z = rC x.c.r1 := ⟨_, rfl⟩
    obtain ⟨R2, hr2⟩ : ∃ z, z = rC x.c.r2 := ⟨_, rfl⟩
    obtain ⟨R3, hr3⟩ : ∃ z, z = rC x.c.r3 := ⟨_, rfl⟩
    have l1 : R1.length = 34 := by rw [hr1]; exact rC_length Hok.out.r1
    have l2 : R2.length = 34 := by rw [hr2]; exact rC_length Hok.out.r2
    have l3 : R3.length = 34 := by rw [hr3]; exact rC_length Hok.out.r3
    have HI1 := Lib.hid (show (Try.prog.info? 26).map (·.size) = some R1.length by rw [l1]; exact refSize)
    have HI2 := Lib.hid (show (Try.prog.info? 26).map (·.size) = some R2.length by rw [l2]; exact refSize)
    have HI3 := Lib.hid (show (Try.prog.info? 26).map (·.size) = some R3.length by rw [l3]; exact refSize)
    have HL := Lib.hid (show R1.length = 34 ∧ R2.length = 34 ∧ R3.length = 34 from ⟨l1, l2, l3⟩)
    have HRs := Lib.hid (show R1 = rC x.c.r1 ∧ R2 = rC x.c.r2 ∧ R3 = rC x.c.r3 from ⟨hr1, hr2, hr3⟩)
    have HR2 := Lib.hid hR2
    have Hb2w := Lib.hid hb2w
    clear hep Hb p1 p2 p3 p4 p5 p6 hr1 hr2 hr3 l1 l2 l3 hR2 hb2w hB
    go_wp2_with fail
    refine Calls.mono (number_own B ep hepl _ [] w2 (Owns.nil _ _ _) h2s (by simp)) ?_
    rintro e w3 ⟨v3, rfl, hO3, hb3⟩
    rw [List.nil_append] at hO3
    have hR3 := HR2.out.below hb3 hwB
    obtain ⟨_, p1, p2, p3, _, _, _⟩ := Hcom.out w3 hR3
    rw [← HRs.out.1] at p1
    rw [← HRs.out.2.1] at p2
    rw [← HRs.out.2.2] at p3
    have hb3w : Below w.heap.size w w3 := Hb2w.out.trans (hb3.mono (by omega))
    have h3s : B ≤ w3.heap.size := by have := hb3.size; omega
    have hO3' : Owns w3 B 5 v3 (headP x.c 0) := by show Owns w3 B 5 v3 (Lib.uvarint x.c.ep); rw [Hep.out]; exact hO3
    have HR3 := Lib.hid hR3
    have HO3 := Lib.hid hO3'
    have Hb3w := Lib.hid hb3w
    clear p0 hR3 hO3 hO3' hb3 hb3w
    go_wp2_with (first
      | (refine wpList_load_mid rfl _ _ rfl w.heap.size 1 rfl R1 _ p1 Try.underlying26 rfl HI1.out ?_)
      | (refine wpList_load_mid rfl _ _ rfl w.heap.size 35 rfl R2 _ p2 Try.underlying26 rfl HI2.out ?_)
      | (refine wpList_load_mid rfl _ _ rfl w.heap.size 69 rfl R3 _ p3 Try.underlying26 rfl HI3.out ?_)
      | (refine wpList_builtD rfl _ _ rfl _ rfl _ (refs3_built R1 R2 R3 HL.out.1 HL.out.2.1 HL.out.2.2) ?_))
    obtain ⟨ZL, hZL⟩ : ∃ z, z = refZ := ⟨_, rfl⟩
    have HZ := Lib.hid (fun w : World => show (zeroValue 26).run Try.prog w = .ok (.agg ZL.toArray) w by rw [hZL]; exact refZero w)
    have HZl := Lib.hid (show ZL.length = 34 by rw [hZL]; rfl)
    clear p1 p2 p3 hZL
    go_loopw [4, 20] (fun v i wr => ∃ k : Nat, k ≤ 3 ∧ i = .int .i64 k ∧ Owns wr B 5 v (headP x.c k) ∧ Hid ((headP x.c k).length ≤ 10 + 100 * k) ∧ Below B w3 wr) (fun _ i _ => 3 - (Go.RowKit.intOf i).toNat)
    case atStart => exact ⟨0, by omega, rfl, HO3.out, Lib.hid (by have := Lib.uvarint_length64 Hok.out.ep; exact this), Below.refl _ _⟩
    case round =>
      obtain ⟨k, hk, rfl, hO, Hl, hbr⟩ := hrel
      have hrB : B ≤ wr.heap.size := by have := hbr.size; omega
      by_cases hlt : k < 3
      · have hd1 : decide ((k : Int) < (3 : Int)) = true := by simp; omega
        obtain ⟨r, hr⟩ : ∃ z, ([x.c.r1, x.c.r2, x.c.r3] : List RefF).getD k zR = z := ⟨_, rfl⟩
        obtain ⟨RL, hRL⟩ : ∃ z, ([R1, R2, R3] : List (List Value)).getD k [] = z := ⟨_, rfl⟩
        have hidx := refs3_index R1 R2 R3 HL.out.1 HL.out.2.1 HL.out.2.2 k hlt
        rw [hRL] at hidx
        have hrr : RL = rC r ∧ RefW r := by
          rw [← hRL, ← hr]
          match k, hlt with
          | 0, _ => exact ⟨HRs.out.1, Hok.out.r1⟩
          | 1, _ => exact ⟨HRs.out.2.1, Hok.out.r2⟩
          | 2, _ => exact ⟨HRs.out.2.2, Hok.out.r3⟩
        have hstep := headP_step x.c k hlt
        rw [hr] at hstep
        have hlen := Hl.out
        obtain ⟨o, ho⟩ : ∃ z, headP x.c k = z := ⟨_, rfl⟩
        rw [ho] at hO hstep hlen
        have hRl : RL.length = 34 := by rw [hrr.1]; exact rC_length hrr.2
        have HRi := Lib.hid (show (Try.prog.info? 26).map (·.size) = some RL.toArray.size by rw [List.size_toArray, hRl]; exact refSize)
        have HR1 := Lib.hid (show RL.toArray.all (·.oneCell') = true by rw [hrr.1]; exact all_oneC (rC_one r))
        have HRz := Lib.hid (show ZL.toArray.size = RL.toArray.size by rw [List.size_toArray, List.size_toArray, HZl.out, hRl])
        obtain ⟨wa, hwa⟩ : ∃ W, W = (wr.alloc (.cells ZL.toArray 26)).setRow wr.heap.size RL.toArray := ⟨_, rfl⟩
        obtain ⟨hXa, hbra⟩ := alloc_row wr 26 ZL.toArray RL
        rw [← hwa] at hXa hbra
        have hba : Below B w3 wa := hbr.trans (hbra.mono hrB)
        have hOa := hO.below hbra fun g hg => (hO.lt g hg).2
        have haB : B ≤ wa.heap.size := by have := hba.size; omega
        obtain ⟨Ao, co, rfl, hoc, hom, hobs⟩ := hOa.slice
        obtain ⟨lo, hlo⟩ : ∃ z, o.length = z := ⟨_, rfl⟩
        rw [hlo] at hoc hlen ⊢
        have hom' : co ≤ 9223372036854775807 := by unfold maxLen at hom; omega
        have Hwa := Lib.hid hwa
        have Hrr := Lib.hid hrr
        have Hstep := Lib.hid hstep
        have Hlo := Lib.hid hlo
        have Hobs := Lib.hid hobs
        have hd32 : Hid (r.d.length = 32) := Lib.hid hrr.2.d
        clear hwa hbra hrr hstep hlo hobs hO hOa hRl hr hRL ho Hl
        go_upto_region 7 with (first
          | (refine wpList_allocZC rfl 26 rfl ZL.toArray (HZ.out _) ?_)
          | (refine wpList_store_row rfl _ _ _ rfl wr.heap.size RL.toArray rfl rfl 26 ZL.toArray (heap_alloc_new wr _) HRi.out HRz.out HR1.out ?_; rw [← Hwa.out]))
        clear hidx
        go_wp2_with (refine wpList_load_row rfl _ _ rfl wr.heap.size rfl 26 RL.toArray (0, 0) _ hXa Try.underlying26 rfl HRi.out ?_)
        refine Calls.mono (bput_any o r.d hd32.out r.a r.n RL Hrr.out.1 Ao lo co wa Hlo.out (by omega) hoc hom Hobs.out) ?_
        rintro e w4 ⟨v4, rfl, hO4, hb4⟩
        rw [refB_out] at hO4
        have hO4' : Owns w4 B 5 v4 (headP x.c (k + 1)) := by rw [Hstep.out]; exact hO4.base haB
        have hb4w : Below B w3 w4 := hba.trans (hb4.mono haB)
        have Hl4 : Hid ((headP x.c (k + 1)).length ≤ 10 + 100 * (k + 1)) := Lib.hid (by
          rw [Hstep.out, List.length_append, Hlo.out]
          have := encR_lim r
          have := hd32.out
          omega)
        clear hO4 hb4 hXa
        go_wp2_with fail
        go_roundw
        case rel => exact ⟨k + 1, by omega, by go_num, hO4', Hl4, hb4w⟩
        case measure => simp [Go.RowKit.intOf]; omega
      · obtain rfl : k = 3 := by omega
        have hd1 : decide ((3 : Int) < (3 : Int)) = false := by simp
        have hRr := HR3.out.below hbr hwB
        obtain ⟨_, _, _, _, p4, _, _⟩ := Hcom.out wr hRr
        obtain ⟨nb, hnb⟩ : ∃ z, x.c.bins.length = z := ⟨_, rfl⟩
        obtain ⟨ne, hne⟩ : ∃ z, x.c.evs.length = z := ⟨_, rfl⟩
        obtain ⟨Ab, hAb⟩ : ∃ z, x.Ab = z := ⟨_, rfl⟩
        obtain ⟨cb, hcb⟩ : ∃ z, x.cb = z := ⟨_, rfl⟩
        obtain ⟨Ae, hAe⟩ : ∃ z, x.Ae = z := ⟨_, rfl⟩
        obtain ⟨ce, hce⟩ : ∃ z, x.ce = z := ⟨_, rfl⟩
        rw [hAb, hnb, hcb] at p4
        have Hbin := Lib.hid (show x.c.bins.length = nb ∧ nb ≤ cb ∧ cb ≤ maxLen ∧ nb ≤ 1000000 ∧ (∀ w', Below w.heap.size w w' → RowOf bC 35 w' B Ab x.c.bins) from ⟨hnb, by rw [← hnb, ← hcb]; exact Hok.out.lb, by rw [← hcb]; exact Hok.out.mb, by rw [← hnb]; exact Nat.le_trans Hlb.out (by omega), fun w' hb => by rw [← hAb]; exact (Hok.out.bins.below hb (Nat.le_refl _)).more (by omega)⟩)
        have Hevs := Lib.hid (show x.c.evs.length = ne ∧ ne ≤ ce ∧ ce ≤ maxLen ∧ ne ≤ 1000000 ∧ (∀ w', Below w.heap.size w w' → RowsAt w' B Ae x.c.evs) from ⟨hne, by rw [← hne, ← hce]; exact Hok.out.le, by rw [← hce]; exact Hok.out.me, by rw [← hne]; exact Nat.le_trans Hle.out (by omega), fun w' hb => by rw [← hAe]; exact (Hok.out.evs.below hb (Nat.le_refl _)).more (by omega)⟩)
        have hbrw : Below w.heap.size w wr := Hb3w.out.trans (hbr.mono (by omega))
        have hO' : Owns wr B 5 u4 (encH x.c) := hO
        have HOr := Lib.hid hO'
        have Hbrw := Lib.hid hbrw
        have HRr := Lib.hid hRr
        have hhl : (encH x.c).length ≤ 310 := Hl.out
        have Hhl := Lib.hid hhl
        have HnE := Lib.hid (show x.Ae = Ae ∧ x.ce = ce from ⟨hAe, hce⟩)
        clear hO hO' hbrw hRr Hl hnb hne hAb hcb hAe hce hhl hbr
        go_wp2_with fail
        refine Calls.mono (nrow_any B _ (encH x.c) Ab nb cb x.c.bins Hbin.out.1 Hbin.out.2.1 Hbin.out.2.2.1 Hbin.out.2.2.2.1 wr HOr.out hrB (by have := Hhl.out; omega) (Hbin.out.2.2.2.2 wr Hbrw.out) Hok.out.bw) ?_
        rintro e w5 ⟨v5, rfl, hO5, hb5⟩
        have hb5w : Below w.heap.size w w5 := Hbrw.out.trans (hb5.mono (by omega))
        have hR5 := HRr.out.below hb5 hwB
        have h5B : B ≤ w5.heap.size := by have := hb5.size; omega
        obtain ⟨_, _, _, _, _, p5, p6⟩ := Hcom.out w5 hR5
        have HR5 := Lib.hid hR5
        have hst5 : Bs w5 w5.heap.size (some ⟨w.heap.size, 104, none⟩) x.c.st := fun _ => ⟨w.heap.size, 104, rfl, by omega, fun j hj => p5 j _ (byteCells_get hj)⟩
        have hul := Lib.uvarint_length64 (x := nb) (by have := Hbin.out.2.2.2.1; omega)
        have hl5 : (rowsP encN x.c.bins (encH x.c ++ Lib.uvarint nb)).length ≤ 66000 := by
          have := rowsP_lim encN 72 x.c.bins (encH x.c ++ Lib.uvarint nb) (fun b hb => by have := encN_lim b; have := (Hok.out.bw b hb).d; omega)
          rw [List.length_append] at this
          have := Hhl.out
          omega
        obtain ⟨o5, ho5⟩ : ∃ z, rowsP encN x.c.bins (encH x.c ++ Lib.uvarint nb) = z := ⟨_, rfl⟩
        rw [ho5] at hO5 hl5
        have Ho5 := Lib.hid ho5
        have HO5 := Lib.hid hO5
        have Hst5 := Lib.hid hst5
        have Hl5 := Lib.hid hl5
        clear p4 p5 p6 hO5 hb5 hR5 hst5 ho5 hl5 hul
        go_upto_region 11 with (refine wpList_append_bs rfl _ _ 33 rfl B 5 i0 (.int .u8 0) Try.underlying33 Hi.out.1 Hi.out.2.1 Hi.out.2.2.1 Hi.out.2.2.2 rfl _ o5 rfl HO5.out w5.heap.size (some ⟨w.heap.size, 104, none⟩) 32 32 x.c.st rfl Hok.out.st Hst5.out (by have := Hl5.out; omega) h5B ?_; intro v6 w6 hO6 hg6)
        have hb6 : Below B w5 w6 := hg6.below h5B fun g hg => (HO5.out.lt g hg).1
        have hb6w : Below w.heap.size w w6 := hb5w.trans (hb6.mono (by omega))
        have hR6 := HR5.out.below hb6 hwB
        have h6B : B ≤ w6.heap.size := by have := hb6.size; omega
        obtain ⟨_, _, _, _, _, _, p6⟩ := Hcom.out w6 hR6
        rw [HnE.out.1, Hevs.out.1, HnE.out.2] at p6
        have HO6 := Lib.hid hO6
        clear hg6 hb6 hR6 hO6 hb5w
        go_wp2_with fail
        refine Calls.mono (erow_any B v6 (o5 ++ x.c.st) Ae ne ce x.c.evs Hevs.out.1 Hevs.out.2.1 Hevs.out.2.2.1 Hevs.out.2.2.2.1 w6 HO6.out h6B (by rw [List.length_append, Hok.out.st]; have := Hl5.out; omega) (Hevs.out.2.2.2.2 w6 hb6w) Hel.out) ?_
        rintro e w7 ⟨v7, rfl, hO7, hb7⟩
        have hb7w : Below w.heap.size w w7 := hb6w.trans (hb7.mono (by omega))
        have hout : rowsP encT x.c.evs (o5 ++ x.c.st ++ Lib.uvarint ne) = outC x.c := by unfold outC; rw [← Ho5.out, Hbin.out.1, Hevs.out.1]
        rw [hout] at hO7
        obtain ⟨A7, c7, rfl, h7c, h7m, _⟩ := hO7.slice
        obtain ⟨l7, hl7⟩ : ∃ z, (outC x.c).length = z := ⟨_, rfl⟩
        rw [hl7] at h7c hO7 ⊢
        have h7m' : c7 ≤ 9223372036854775807 := by unfold maxLen at h7m; omega
        have HO7 := Lib.hid hO7
        have Hl7 := Lib.hid hl7
        clear p6 hb6w hb7 hout hO7 hl7
        by_cases hbig : 65536 < l7
        · have hq1 : decide ((65536 : Int) < (l7 : Int)) = true := by simp; omega
          have Hbig := Lib.hid (show 65536 < (encC x.c).length by
            rcases outC_is x.c with e | ⟨_, e⟩
            · rw [← e, Hl7.out]; exact hbig
            · exact e)
          clear hbig
          go_wp2_with fail
          go_ret2
          exact ⟨_, _, rfl, hb7w, .inr (.inl ⟨Hmay.out, Hbig.out, rfl, rfl⟩)⟩
        · have hq1 : decide ((65536 : Int) < (l7 : Int)) = false := by simp; omega
          have Heq := Lib.hid (show outC x.c = encC x.c by
            rcases outC_is x.c with e | ⟨e, _⟩
            · exact e
            · rw [Hl7.out] at e; exact absurd e hbig)
          have Hsm := Lib.hid (show (encC x.c).length ≤ 65536 by rw [← Heq.out, Hl7.out]; omega)
          clear hbig
          go_wp2_with fail
          go_ret2
          exact ⟨_, _, rfl, hb7w, .inr (.inr ⟨Hmay.out, Hsm.out, rfl, by rw [← Heq.out]; exact HO7.out.base (by omega)⟩)⟩

end Go.Proofs.Ytkepfigoeaheaaa

namespace Go.Proofs.Ytkepfigoeaheaaa
open Go.RowKit
set_option linter.unusedVariables false
set_option linter.unusedSimpArgs false


theorem wpList_at {P : Program} {ops : Array Oper} {rest : List Oper} {o : Oper} {a : Act} {w : World} {Q : Exit → Act → World → Prop} (n : Nat) (hd : o.dst = some n) (h : wpList P ops Q (o :: rest) a w) : wpList P ops Q (o :: rest) a w := h
theorem wpList_neq_ifC {P : Program} {ops : Array Oper} {rest : List Oper} {o : Oper} {a : Act} {w : World} {Q : Exit → Act → World → Prop} (hw : Region.wanted o (yielded ops a.tmps) = true) (ty ty2 : TypeId) (x y : Operand) (ho : o.op = .binOp .neq ty x y ty2)
    (X Y : List Value) (hx : a.eval x = .agg X.toArray) (hy : a.eval y = .agg Y.toArray) (b : Bool) (he : ∀ w, (Op.equalIn 10000 ty (.agg X.toArray) (.agg Y.toArray)).run P w = .ok b w) (hm : P.eqGuardType P.depth ty = false)
    (h : wpList P ops Q rest (a.put o.dst (.bool (!b))) w) : wpList P ops Q (o :: rest) a w :=
  wpList_step fun K hK => by
    rw [if_pos hw]
    unfold Oper.wp execOp
    simp only [ho, hx, hy, Sem.run_bind, Sem.run_pure, Result.andThen_ok, run_eqGuard_agg, run_neq_struct, he, hm]
    exact hK _ _ h
theorem ref_cmp {a b : RefF} (ha : a.d.length = 32) (hb : b.d.length = 32) {XL YL : List Value} (hX : XL = rC a) (hY : YL = rC b) : ∃ r : Bool, (∀ w, (Op.equalIn 10000 26 (.agg XL.toArray) (.agg YL.toArray)).run Try.prog w = .ok r w) ∧ (r = true ↔ a = b) := by
  classical
  refine ⟨decide (a = b), fun w => ?_, decide_eq_true_iff⟩
  obtain ⟨r, h1, h2⟩ := refs_eqv a b ha hb XL YL hX hY w
  have e : r = decide (a = b) := by rw [Bool.eq_iff_iff, h2, decide_eq_true_eq]
  rw [h1, e]
theorem bin_cmp {a b : BinF} (ha : a.d.length = 32) (hb : b.d.length = 32) {XL YL : List Value} (hX : XL = bC a) (hY : YL = bC b) : ∃ r : Bool, (∀ w, (Op.equalIn 10000 72 (.agg XL.toArray) (.agg YL.toArray)).run Try.prog w = .ok r w) ∧ (r = true ↔ a = b) := by
  classical
  refine ⟨decide (a = b), fun w => ?_, decide_eq_true_iff⟩
  obtain ⟨r, h1, h2⟩ := bin_eqv a b ha hb XL YL hX hY w
  have e : r = decide (a = b) := by rw [Bool.eq_iff_iff, h2, decide_eq_true_eq]
  rw [h1, e]


set_option maxHeartbeats 16000000 in
set_option maxRecDepth 100000 in
theorem same_anyC (x y : Cx) (XL YL : List Value) (hXL : XL = comC x) (hYL : YL = comC y) (w : World) (hx : CxOk w w.heap.size x) (hy : CxOk w w.heap.size y) (r : Bool) (hr : r = true ↔ x.c = y.c) :
    Calls Try.prog 15 #[.agg XL.toArray, .agg YL.toArray] w fun e w' => e = .returned (.bool r) ∧ Below w.heap.size w w' := by
  obtain ⟨W1, hW1⟩ : ∃ z, z = w.alloc (.cells XL.toArray 30) := ⟨_, rfl⟩
  obtain ⟨W2, hW2⟩ : ∃ z, z = W1.alloc (.cells YL.toArray 30) := ⟨_, rfl⟩
  have hb01 : Below w.heap.size w W1 := by rw [hW1]; exact (Below.refl _ w).alloc (Nat.le_refl _) _
  have hb12 : Below W1.heap.size W1 W2 := by rw [hW2]; exact (Below.refl _ W1).alloc (Nat.le_refl _) _
  have hb0 := hb01.trans (hb12.mono hb01.size)
  have hRx : Arr W2 w.heap.size 30 XL := Arr.up (by rw [hW1]; exact Arr.new w _ _) hb12
  have hRy : Arr W2 W1.heap.size 30 YL := by rw [hW2]; exact Arr.new W1 _ _
  rw [hXL] at hRx
  rw [hYL] at hRy
  obtain ⟨x0, x1, x2, x3, x4, x5, x6⟩ := Arr.com hRx (rC_length hx.r1) (rC_length hx.r2) (rC_length hx.r3) (by rw [Lib.byteCells_length, hx.st])
  obtain ⟨y0, y1, y2, y3, y4, y5, y6⟩ := Arr.com hRy (rC_length hy.r1) (rC_length hy.r2) (rC_length hy.r3) (by rw [Lib.byteCells_length, hy.st])
  have hltx := hRx.lt
  have hlty := hRy.lt
  have hW1s : W1.heap.size = w.heap.size + 1 := by rw [hW1]; simp
  obtain ⟨X1, hX1⟩ : ∃ z, z = rC x.c.r1 := ⟨_, rfl⟩
  obtain ⟨X2, hX2⟩ : ∃ z, z = rC x.c.r2 := ⟨_, rfl⟩
  obtain ⟨X3, hX3⟩ : ∃ z, z = rC x.c.r3 := ⟨_, rfl⟩
  obtain ⟨X4, hX4⟩ : ∃ z, z = Lib.byteCells x.c.st := ⟨_, rfl⟩
  obtain ⟨epx, hepx⟩ : ∃ z, x.c.ep = z := ⟨_, rfl⟩
  obtain ⟨nbx, hnbx⟩ : ∃ z, x.c.bins.length = z := ⟨_, rfl⟩
  obtain ⟨nex, hnex⟩ : ∃ z, x.c.evs.length = z := ⟨_, rfl⟩
  obtain ⟨Abx, hAbx⟩ : ∃ z, x.Ab = z := ⟨_, rfl⟩
  obtain ⟨cbx, hcbx⟩ : ∃ z, x.cb = z := ⟨_, rfl⟩
  obtain ⟨Aex, hAex⟩ : ∃ z, x.Ae = z := ⟨_, rfl⟩
  obtain ⟨cex, hcex⟩ : ∃ z, x.ce = z := ⟨_, rfl⟩
  rw [hepx] at x0
  rw [← hX1] at x1
  rw [← hX2] at x2
  rw [← hX3] at x3
  rw [hAbx, hnbx, hcbx] at x4
  rw [← hX4] at x5
  rw [hAex, hnex, hcex] at x6
  obtain ⟨Y1, hY1⟩ : ∃ z, z = rC y.c.r1 := ⟨_, rfl⟩
  obtain ⟨Y2, hY2⟩ : ∃ z, z = rC y.c.r2 := ⟨_, rfl⟩
  obtain ⟨Y3, hY3⟩ : ∃ z, z = rC y.c.r3 := ⟨_, rfl⟩
  obtain ⟨Y4, hY4⟩ : ∃ z, z = Lib.byteCells y.c.st := ⟨_, rfl⟩
  obtain ⟨epy, hepy⟩ : ∃ z, y.c.ep = z := ⟨_, rfl⟩
  obtain ⟨nby, hnby⟩ : ∃ z, y.c.bins.length = z := ⟨_, rfl⟩
  obtain ⟨ney, hney⟩ : ∃ z, y.c.evs.length = z := ⟨_, rfl⟩
  obtain ⟨Aby, hAby⟩ : ∃ z, y.Ab = z := ⟨_, rfl⟩
  obtain ⟨cby, hcby⟩ : ∃ z, y.cb = z := ⟨_, rfl⟩
  obtain ⟨Aey, hAey⟩ : ∃ z, y.Ae = z := ⟨_, rfl⟩
  obtain ⟨cey, hcey⟩ : ∃ z, y.ce = z := ⟨_, rfl⟩
  rw [hepy] at y0
  rw [← hY1] at y1
  rw [← hY2] at y2
  rw [← hY3] at y3
  rw [hAby, hnby, hcby] at y4
  rw [← hY4] at y5
  rw [hAey, hney, hcey] at y6
  obtain ⟨gx, hgx⟩ : ∃ z, w.heap.size = z := ⟨_, rfl⟩
  obtain ⟨gy, hgy⟩ : ∃ z, W1.heap.size = z := ⟨_, rfl⟩
  have HW1 := Lib.hid hW1
  have HW2 := Lib.hid hW2
  have Hr := Lib.hid hr
  have Hext := Lib.hid (fun h1 h2 h3 h4 h5 h6 h7 => show x.c = y.c from com_ext h1 h2 h3 h4 h5 h6 h7)
  have Hbx := Lib.hid (show RowOf bC 35 W2 w.heap.size Abx x.c.bins by rw [← hAbx]; exact hx.bins.below hb0 (Nat.le_refl _))
  have Hby := Lib.hid (show RowOf bC 35 W2 w.heap.size Aby y.c.bins by rw [← hAby]; exact hy.bins.below hb0 (Nat.le_refl _))
  have Hex := Lib.hid (show RowsAt W2 w.heap.size Aex x.c.evs by rw [← hAex]; exact hx.evs.below hb0 (Nat.le_refl _))
  have Hey := Lib.hid (show RowsAt W2 w.heap.size Aey y.c.evs by rw [← hAey]; exact hy.evs.below hb0 (Nat.le_refl _))
  have Hbwx := Lib.hid hx.bw
  have Hbwy := Lib.hid hy.bw
  have hcx : nbx ≤ cbx ∧ cbx ≤ 9223372036854775807 ∧ nex ≤ cex ∧ cex ≤ 9223372036854775807 := by
    rw [← hnbx, ← hcbx, ← hnex, ← hcex]
    exact ⟨hx.lb, by have := hx.mb; unfold maxLen at this; omega, hx.le, by have := hx.me; unfold maxLen at this; omega⟩
  have hcy : nby ≤ cby ∧ cby ≤ 9223372036854775807 ∧ ney ≤ cey ∧ cey ≤ 9223372036854775807 := by
    rw [← hnby, ← hcby, ← hney, ← hcey]
    exact ⟨hy.lb, by have := hy.mb; unfold maxLen at this; omega, hy.le, by have := hy.me; unfold maxLen at this; omega⟩
  have hepl : epx < 18446744073709551616 ∧ epy < 18446744073709551616 := by rw [← hepx, ← hepy]; exact ⟨hx.ep, hy.ep⟩
  obtain ⟨f1, hf1, hf1r⟩ : ∃ r : Bool, (∀ w, (Op.equalIn 10000 26 (.agg X1.toArray) (.agg Y1.toArray)).run Try.prog w = .ok r w) ∧ (r = true ↔ x.c.r1 = y.c.r1) := ref_cmp hx.r1.d hy.r1.d hX1 hY1
  obtain ⟨f2, hf2, hf2r⟩ : ∃ r : Bool, (∀ w, (Op.equalIn 10000 26 (.agg X2.toArray) (.agg Y2.toArray)).run Try.prog w = .ok r w) ∧ (r = true ↔ x.c.r2 = y.c.r2) := ref_cmp hx.r2.d hy.r2.d hX2 hY2
  obtain ⟨f3, hf3, hf3r⟩ : ∃ r : Bool, (∀ w, (Op.equalIn 10000 26 (.agg X3.toArray) (.agg Y3.toArray)).run Try.prog w = .ok r w) ∧ (r = true ↔ x.c.r3 = y.c.r3) := ref_cmp hx.r3.d hy.r3.d hX3 hY3
  obtain ⟨f4, hf4, hf4r⟩ : ∃ r : Bool, (∀ w, (Op.equalIn 10000 24 (.agg X4.toArray) (.agg Y4.toArray)).run Try.prog w = .ok r w) ∧ (r = true ↔ x.c.st = y.c.st) := ⟨_, fun w => eqv_at Try.underlying24 x.c.st y.c.st hx.st hy.st X4 Y4 hX4 hY4 w, by simp⟩
  have Hf := Lib.hid (show (f1 = true ↔ x.c.r1 = y.c.r1) ∧ (f2 = true ↔ x.c.r2 = y.c.r2) ∧ (f3 = true ↔ x.c.r3 = y.c.r3) ∧ (f4 = true ↔ x.c.st = y.c.st) from ⟨hf1r, hf2r, hf3r, hf4r⟩)
  have Hep := Lib.hid (show x.c.ep = epx ∧ y.c.ep = epy from ⟨hepx, hepy⟩)
  have Hnb := Lib.hid (show x.c.bins.length = nbx ∧ y.c.bins.length = nby from ⟨hnbx, hnby⟩)
  have Hne := Lib.hid (show x.c.evs.length = nex ∧ y.c.evs.length = ney from ⟨hnex, hney⟩)
  have HX1 := Lib.hid (show (Try.prog.info? 26).map (·.size) = some X1.length by rw [hX1, rC_length hx.r1]; exact refSize)
  have HX2 := Lib.hid (show (Try.prog.info? 26).map (·.size) = some X2.length by rw [hX2, rC_length hx.r2]; exact refSize)
  have HX3 := Lib.hid (show (Try.prog.info? 26).map (·.size) = some X3.length by rw [hX3, rC_length hx.r3]; exact refSize)
  have HX4 := Lib.hid (show (Try.prog.info? 24).map (·.size) = some X4.length by rw [hX4, Lib.byteCells_length, hx.st]; exact digInfo)
  have HY1 := Lib.hid (show (Try.prog.info? 26).map (·.size) = some Y1.length by rw [hY1, rC_length hy.r1]; exact refSize)
  have HY2 := Lib.hid (show (Try.prog.info? 26).map (·.size) = some Y2.length by rw [hY2, rC_length hy.r2]; exact refSize)
  have HY3 := Lib.hid (show (Try.prog.info? 26).map (·.size) = some Y3.length by rw [hY3, rC_length hy.r3]; exact refSize)
  have HY4 := Lib.hid (show (Try.prog.info? 24).map (·.size) = some Y4.length by rw [hY4, Lib.byteCells_length, hy.st]; exact digInfo)
  have Hhx := Lib.hid hx
  have Hhy := Lib.hid hy
  rw [hgx] at hb0 x0 x1 x2 x3 x4 x5 x6 Hbx Hby Hex Hey ⊢
  rw [hgy] at y0 y1 y2 y3 y4 y5 y6
  have hgg : gx < gy := by omega
  have Hgx := Lib.hid hgx
  have Hgy := Lib.hid (show w.heap.size + 1 = gy by omega)
  have Hb0 := Lib.hid hb0
  rw [hgx] at hltx
  rw [hgy] at hlty
  have HF1 := Lib.hid hf1
  have HF2 := Lib.hid hf2
  have HF3 := Lib.hid hf3
  have HF4 := Lib.hid hf4
  clear hf1 hf2 hf3 hf4 hXL hYL hW1 hW2 hb01 hb12 hRx hRy hr hx hy hf1r hf2r hf3r hf4r hgx hgy hW1s hb0 hX1 hX2 hX3 hX4 hY1 hY2 hY3 hY4 hepx hnbx hnex hAbx hcbx hAex hcex hepy hnby hney hAby hcby hAey hcey
  go_enter Try.func15, Try.ntmps15
  go_upto_region 1 with fail
  rw [← HW1.out, ← HW2.out, Hgy.out, Hgx.out]
  by_cases h0 : epx = epy
  · subst h0
    have q0 : ((epx : Int) != (epx : Int)) = false := by simp
    have q0' : (epx != epx) = false := by simp
    cases f1 with
    | false =>
      have Hno := Lib.hid (show r = false by
        cases r with
        | false => rfl
        | true =>
          exfalso
          have he := Hr.out.1 rfl
          have := Hf.out.1.2 (by rw [he])
          cases this)
      go_wp2_with (first
    | ((with_reducible refine wpList_at 14 (by rfl) ?_); refine wpList_load_mid_ifC (by rfl) _ _ rfl gx 1 rfl X1 _ x1 Try.underlying26 rfl HX1.out ?_)
    | ((with_reducible refine wpList_at 16 (by rfl) ?_); refine wpList_load_mid_ifC (by rfl) _ _ rfl gy 1 rfl Y1 _ y1 Try.underlying26 rfl HY1.out ?_)
    | ((with_reducible refine wpList_at 21 (by rfl) ?_); refine wpList_load_mid_ifC (by rfl) _ _ rfl gx 35 rfl X2 _ x2 Try.underlying26 rfl HX2.out ?_)
    | ((with_reducible refine wpList_at 23 (by rfl) ?_); refine wpList_load_mid_ifC (by rfl) _ _ rfl gy 35 rfl Y2 _ y2 Try.underlying26 rfl HY2.out ?_)
    | ((with_reducible refine wpList_at 28 (by rfl) ?_); refine wpList_load_mid_ifC (by rfl) _ _ rfl gx 69 rfl X3 _ x3 Try.underlying26 rfl HX3.out ?_)
    | ((with_reducible refine wpList_at 30 (by rfl) ?_); refine wpList_load_mid_ifC (by rfl) _ _ rfl gy 69 rfl Y3 _ y3 Try.underlying26 rfl HY3.out ?_)
    | ((with_reducible refine wpList_at 35 (by rfl) ?_); refine wpList_load_mid_ifC (by rfl) _ _ rfl gx 104 rfl X4 _ x5 Try.underlying24 rfl HX4.out ?_)
    | ((with_reducible refine wpList_at 37 (by rfl) ?_); refine wpList_load_mid_ifC (by rfl) _ _ rfl gy 104 rfl Y4 _ y5 Try.underlying24 rfl HY4.out ?_)
    | ((with_reducible refine wpList_at 17 (by rfl) ?_); refine wpList_neq_ifC (by rfl) _ _ _ _ rfl X1 Y1 rfl rfl _ HF1.out gtR ?_)
    | ((with_reducible refine wpList_at 24 (by rfl) ?_); refine wpList_neq_ifC (by rfl) _ _ _ _ rfl X2 Y2 rfl rfl _ HF2.out gtR ?_)
    | ((with_reducible refine wpList_at 31 (by rfl) ?_); refine wpList_neq_ifC (by rfl) _ _ _ _ rfl X3 Y3 rfl rfl _ HF3.out gtR ?_)
    | ((with_reducible refine wpList_at 38 (by rfl) ?_); refine wpList_neq_ifC (by rfl) _ _ _ _ rfl X4 Y4 rfl rfl _ HF4.out gt32 ?_))
      go_ret
      exact ⟨by rw [Hno.out]; rfl, Hb0.out⟩
    | true =>
      cases f2 with
      | false =>
        have Hno := Lib.hid (show r = false by
          cases r with
          | false => rfl
          | true =>
            exfalso
            have he := Hr.out.1 rfl
            have := Hf.out.2.1.2 (by rw [he])
            cases this)
        go_wp2_with (first
    | ((with_reducible refine wpList_at 14 (by rfl) ?_); refine wpList_load_mid_ifC (by rfl) _ _ rfl gx 1 rfl X1 _ x1 Try.underlying26 rfl HX1.out ?_)
    | ((with_reducible refine wpList_at 16 (by rfl) ?_); refine wpList_load_mid_ifC (by rfl) _ _ rfl gy 1 rfl Y1 _ y1 Try.underlying26 rfl HY1.out ?_)
    | ((with_reducible refine wpList_at 21 (by rfl) ?_); refine wpList_load_mid_ifC (by rfl) _ _ rfl gx 35 rfl X2 _ x2 Try.underlying26 rfl HX2.out ?_)
    | ((with_reducible refine wpList_at 23 (by rfl) ?_); refine wpList_load_mid_ifC (by rfl) _ _ rfl gy 35 rfl Y2 _ y2 Try.underlying26 rfl HY2.out ?_)
    | ((with_reducible refine wpList_at 28 (by rfl) ?_); refine wpList_load_mid_ifC (by rfl) _ _ rfl gx 69 rfl X3 _ x3 Try.underlying26 rfl HX3.out ?_)
    | ((with_reducible refine wpList_at 30 (by rfl) ?_); refine wpList_load_mid_ifC (by rfl) _ _ rfl gy 69 rfl Y3 _ y3 Try.underlying26 rfl HY3.out ?_)
    | ((with_reducible refine wpList_at 35 (by rfl) ?_); refine wpList_load_mid_ifC (by rfl) _ _ rfl gx 104 rfl X4 _ x5 Try.underlying24 rfl HX4.out ?_)
    | ((with_reducible refine wpList_at 37 (by rfl) ?_); refine wpList_load_mid_ifC (by rfl) _ _ rfl gy 104 rfl Y4 _ y5 Try.underlying24 rfl HY4.out ?_)
    | ((with_reducible refine wpList_at 17 (by rfl) ?_); refine wpList_neq_ifC (by rfl) _ _ _ _ rfl X1 Y1 rfl rfl _ HF1.out gtR ?_)
    | ((with_reducible refine wpList_at 24 (by rfl) ?_); refine wpList_neq_ifC (by rfl) _ _ _ _ rfl X2 Y2 rfl rfl _ HF2.out gtR ?_)
    | ((with_reducible refine wpList_at 31 (by rfl) ?_); refine wpList_neq_ifC (by rfl) _ _ _ _ rfl X3 Y3 rfl rfl _ HF3.out gtR ?_)
    | ((with_reducible refine wpList_at 38 (by rfl) ?_); refine wpList_neq_ifC (by rfl) _ _ _ _ rfl X4 Y4 rfl rfl _ HF4.out gt32 ?_))
        go_ret
        exact ⟨by rw [Hno.out]; rfl, Hb0.out⟩
      | true =>
        cases f3 with
        | false =>
          have Hno := Lib.hid (show r = false by
            cases r with
            | false => rfl
            | true =>
              exfalso
              have he := Hr.out.1 rfl
              have := Hf.out.2.2.1.2 (by rw [he])
              cases this)
          go_wp2_with (first
    | ((with_reducible refine wpList_at 14 (by rfl) ?_); refine wpList_load_mid_ifC (by rfl) _ _ rfl gx 1 rfl X1 _ x1 Try.underlying26 rfl HX1.out ?_)
    | ((with_reducible refine wpList_at 16 (by rfl) ?_); refine wpList_load_mid_ifC (by rfl) _ _ rfl gy 1 rfl Y1 _ y1 Try.underlying26 rfl HY1.out ?_)
    | ((with_reducible refine wpList_at 21 (by rfl) ?_); refine wpList_load_mid_ifC (by rfl) _ _ rfl gx 35 rfl X2 _ x2 Try.underlying26 rfl HX2.out ?_)
    | ((with_reducible refine wpList_at 23 (by rfl) ?_); refine wpList_load_mid_ifC (by rfl) _ _ rfl gy 35 rfl Y2 _ y2 Try.underlying26 rfl HY2.out ?_)
    | ((with_reducible refine wpList_at 28 (by rfl) ?_); refine wpList_load_mid_ifC (by rfl) _ _ rfl gx 69 rfl X3 _ x3 Try.underlying26 rfl HX3.out ?_)
    | ((with_reducible refine wpList_at 30 (by rfl) ?_); refine wpList_load_mid_ifC (by rfl) _ _ rfl gy 69 rfl Y3 _ y3 Try.underlying26 rfl HY3.out ?_)
    | ((with_reducible refine wpList_at 35 (by rfl) ?_); refine wpList_load_mid_ifC (by rfl) _ _ rfl gx 104 rfl X4 _ x5 Try.underlying24 rfl HX4.out ?_)
    | ((with_reducible refine wpList_at 37 (by rfl) ?_); refine wpList_load_mid_ifC (by rfl) _ _ rfl gy 104 rfl Y4 _ y5 Try.underlying24 rfl HY4.out ?_)
    | ((with_reducible refine wpList_at 17 (by rfl) ?_); refine wpList_neq_ifC (by rfl) _ _ _ _ rfl X1 Y1 rfl rfl _ HF1.out gtR ?_)
    | ((with_reducible refine wpList_at 24 (by rfl) ?_); refine wpList_neq_ifC (by rfl) _ _ _ _ rfl X2 Y2 rfl rfl _ HF2.out gtR ?_)
    | ((with_reducible refine wpList_at 31 (by rfl) ?_); refine wpList_neq_ifC (by rfl) _ _ _ _ rfl X3 Y3 rfl rfl _ HF3.out gtR ?_)
    | ((with_reducible refine wpList_at 38 (by rfl) ?_); refine wpList_neq_ifC (by rfl) _ _ _ _ rfl X4 Y4 rfl rfl _ HF4.out gt32 ?_))
          go_ret
          exact ⟨by rw [Hno.out]; rfl, Hb0.out⟩
        | true =>
          cases f4 with
          | false =>
            have Hno := Lib.hid (show r = false by
              cases r with
              | false => rfl
              | true =>
                exfalso
                have he := Hr.out.1 rfl
                have := Hf.out.2.2.2.2 (by rw [he])
                cases this)
            go_wp2_with (first
    | ((with_reducible refine wpList_at 14 (by rfl) ?_); refine wpList_load_mid_ifC (by rfl) _ _ rfl gx 1 rfl X1 _ x1 Try.underlying26 rfl HX1.out ?_)
    | ((with_reducible refine wpList_at 16 (by rfl) ?_); refine wpList_load_mid_ifC (by rfl) _ _ rfl gy 1 rfl Y1 _ y1 Try.underlying26 rfl HY1.out ?_)
    | ((with_reducible refine wpList_at 21 (by rfl) ?_); refine wpList_load_mid_ifC (by rfl) _ _ rfl gx 35 rfl X2 _ x2 Try.underlying26 rfl HX2.out ?_)
    | ((with_reducible refine wpList_at 23 (by rfl) ?_); refine wpList_load_mid_ifC (by rfl) _ _ rfl gy 35 rfl Y2 _ y2 Try.underlying26 rfl HY2.out ?_)
    | ((with_reducible refine wpList_at 28 (by rfl) ?_); refine wpList_load_mid_ifC (by rfl) _ _ rfl gx 69 rfl X3 _ x3 Try.underlying26 rfl HX3.out ?_)
    | ((with_reducible refine wpList_at 30 (by rfl) ?_); refine wpList_load_mid_ifC (by rfl) _ _ rfl gy 69 rfl Y3 _ y3 Try.underlying26 rfl HY3.out ?_)
    | ((with_reducible refine wpList_at 35 (by rfl) ?_); refine wpList_load_mid_ifC (by rfl) _ _ rfl gx 104 rfl X4 _ x5 Try.underlying24 rfl HX4.out ?_)
    | ((with_reducible refine wpList_at 37 (by rfl) ?_); refine wpList_load_mid_ifC (by rfl) _ _ rfl gy 104 rfl Y4 _ y5 Try.underlying24 rfl HY4.out ?_)
    | ((with_reducible refine wpList_at 17 (by rfl) ?_); refine wpList_neq_ifC (by rfl) _ _ _ _ rfl X1 Y1 rfl rfl _ HF1.out gtR ?_)
    | ((with_reducible refine wpList_at 24 (by rfl) ?_); refine wpList_neq_ifC (by rfl) _ _ _ _ rfl X2 Y2 rfl rfl _ HF2.out gtR ?_)
    | ((with_reducible refine wpList_at 31 (by rfl) ?_); refine wpList_neq_ifC (by rfl) _ _ _ _ rfl X3 Y3 rfl rfl _ HF3.out gtR ?_)
    | ((with_reducible refine wpList_at 38 (by rfl) ?_); refine wpList_neq_ifC (by rfl) _ _ _ _ rfl X4 Y4 rfl rfl _ HF4.out gt32 ?_))
            go_ret
            exact ⟨by rw [Hno.out]; rfl, Hb0.out⟩
          | true =>
            by_cases hnb : nbx = nby
            · subst hnb
              have qb : ((nbx : Int) != (nbx : Int)) = false := by simp
              by_cases hne : nex = ney
              · subst hne
                have qe : ((nex : Int) != (nex : Int)) = false := by simp
                go_upto_region 3 with (first
    | ((with_reducible refine wpList_at 14 (by rfl) ?_); refine wpList_load_mid_ifC (by rfl) _ _ rfl gx 1 rfl X1 _ x1 Try.underlying26 rfl HX1.out ?_)
    | ((with_reducible refine wpList_at 16 (by rfl) ?_); refine wpList_load_mid_ifC (by rfl) _ _ rfl gy 1 rfl Y1 _ y1 Try.underlying26 rfl HY1.out ?_)
    | ((with_reducible refine wpList_at 21 (by rfl) ?_); refine wpList_load_mid_ifC (by rfl) _ _ rfl gx 35 rfl X2 _ x2 Try.underlying26 rfl HX2.out ?_)
    | ((with_reducible refine wpList_at 23 (by rfl) ?_); refine wpList_load_mid_ifC (by rfl) _ _ rfl gy 35 rfl Y2 _ y2 Try.underlying26 rfl HY2.out ?_)
    | ((with_reducible refine wpList_at 28 (by rfl) ?_); refine wpList_load_mid_ifC (by rfl) _ _ rfl gx 69 rfl X3 _ x3 Try.underlying26 rfl HX3.out ?_)
    | ((with_reducible refine wpList_at 30 (by rfl) ?_); refine wpList_load_mid_ifC (by rfl) _ _ rfl gy 69 rfl Y3 _ y3 Try.underlying26 rfl HY3.out ?_)
    | ((with_reducible refine wpList_at 35 (by rfl) ?_); refine wpList_load_mid_ifC (by rfl) _ _ rfl gx 104 rfl X4 _ x5 Try.underlying24 rfl HX4.out ?_)
    | ((with_reducible refine wpList_at 37 (by rfl) ?_); refine wpList_load_mid_ifC (by rfl) _ _ rfl gy 104 rfl Y4 _ y5 Try.underlying24 rfl HY4.out ?_)
    | ((with_reducible refine wpList_at 17 (by rfl) ?_); refine wpList_neq_ifC (by rfl) _ _ _ _ rfl X1 Y1 rfl rfl _ HF1.out gtR ?_)
    | ((with_reducible refine wpList_at 24 (by rfl) ?_); refine wpList_neq_ifC (by rfl) _ _ _ _ rfl X2 Y2 rfl rfl _ HF2.out gtR ?_)
    | ((with_reducible refine wpList_at 31 (by rfl) ?_); refine wpList_neq_ifC (by rfl) _ _ _ _ rfl X3 Y3 rfl rfl _ HF3.out gtR ?_)
    | ((with_reducible refine wpList_at 38 (by rfl) ?_); refine wpList_neq_ifC (by rfl) _ _ _ _ rfl X4 Y4 rfl rfl _ HF4.out gt32 ?_))
                clear x0 x1 x2 x3 x5 y0 y1 y2 y3 y5 q0 q0' qb qe
                go_wp2_with fail
                go_loopw [5] (fun i wr => ∃ k : Nat, k ≤ nbx ∧ i = .int .i64 k ∧ Drawn W2 wr ∧ Hid (∀ j, j < k → x.c.bins[j]? = y.c.bins[j]?)) (fun i _ => nbx - (Go.RowKit.intOf i).toNat)
                case atStart => exact ⟨0, Nat.zero_le _, rfl, Drawn.refl W2, fun j hj => by omega⟩
                case round =>
                  obtain ⟨k, hk, rfl, ⟨dn, rfl⟩, Hk⟩ := hrel
                  have x4' : (W2.drewN dn).cell? ⟨gx, 103, none⟩ = some (.slice Abx nbx cbx) := x4
                  have y4' : (W2.drewN dn).cell? ⟨gy, 103, none⟩ = some (.slice Aby nbx cby) := y4
                  by_cases hlt : k < nbx
                  · have hd1 : decide ((k : Int) < (nbx : Int)) = true := by simp; omega
                    obtain ⟨bx, ox, rfl, hbx, hrx⟩ := Hbx.out (by rw [Hnb.out.1]; omega)
                    obtain ⟨bY, oy, rfl, hby, hry⟩ := Hby.out (by rw [Hnb.out.2]; omega)
                    obtain ⟨u, hu⟩ : ∃ z, x.c.bins[k]? = some z := ⟨_, List.getElem?_eq_getElem (by rw [Hnb.out.1]; exact hlt)⟩
                    obtain ⟨v, hv⟩ : ∃ z, y.c.bins[k]? = some z := ⟨_, List.getElem?_eq_getElem (by rw [Hnb.out.2]; exact hlt)⟩
                    have huw := Hbwx.out u (List.mem_of_getElem? hu)
                    have hvw := Hbwy.out v (List.mem_of_getElem? hv)
                    obtain ⟨UL, hUL⟩ : ∃ z, z = bC u := ⟨_, rfl⟩
                    obtain ⟨VL, hVL⟩ : ∃ z, z = bC v := ⟨_, rfl⟩
                    obtain ⟨r0, hr0, hr0r⟩ := bin_cmp huw.d hvw.d hUL hVL
                    have Hr0 := Lib.hid hr0
                    have Hr0r := Lib.hid hr0r
                    have HUi := Lib.hid (show (Try.prog.info? 72).map (·.size) = some UL.length by rw [hUL, bC_length huw]; exact binSize)
                    have HVi := Lib.hid (show (Try.prog.info? 72).map (·.size) = some VL.length by rw [hVL, bC_length hvw]; exact binSize)
                    have hru : (W2.drewN dn).rangeAt bx (ox + k * 35) UL := fun j q hq => by rw [hUL] at hq; exact hrx k u hu j q hq
                    have hrv : (W2.drewN dn).rangeAt bY (oy + k * 35) VL := fun j q hq => by rw [hVL] at hq; exact hry k v hv j q hq
                    have Hu := Lib.hid hu
                    have Hv := Lib.hid hv
                    clear hr0 hr0r hUL hVL huw hvw hu hv hrx hry hbx hby
                    go_upto_region 6 with fail
                    refine wp_region_held_drew (S := fun w' => w'.cell? ⟨gx, 103, none⟩ = some (.slice (some ⟨bx, ox, none⟩) nbx cbx) ∧ w'.cell? ⟨gy, 103, none⟩ = some (.slice (some ⟨bY, oy, none⟩) nbx cby) ∧ w'.rangeAt bx (ox + k * 35) UL ∧ w'.rangeAt bY (oy + k * 35) VL) (by kernel_rfl) ⟨x4', y4', hru, hrv⟩ (fun hHeld => ?_)
                    refine anyH_take (i := 0) (v := .pointer (some ⟨gx, 103, none⟩)) (some 65) rfl rfl (by kernel_rfl) (by kernel_rfl) (by kernel_rfl) (fun _ _ _ h => h) (Or.inl ⟨by rfl, fun w' hw => by (go_simp)⟩) (by assumption) ?_
                    simp only [Act.put, List.setIfInBounds_toArray, List.set_cons_zero, List.set_cons_succ]
                    refine anyH_take (i := 1) (v := .slice (some ⟨bx, ox, none⟩) nbx cbx) (some 66) rfl rfl (by kernel_rfl) (by kernel_rfl) (by kernel_rfl) (fun _ _ _ h => h) (Or.inl ⟨by rfl, fun w' hw => by (have hcc := hw.1; go_simp)⟩) (by assumption) ?_
                    simp only [Act.put, List.setIfInBounds_toArray, List.set_cons_zero, List.set_cons_succ]
                    refine anyH_take (i := 2) (v := .int .i64 (k : Nat)) (some 67) rfl rfl (by kernel_rfl) (by kernel_rfl) (by kernel_rfl) (fun _ _ _ h => h) (Or.inl ⟨by rfl, fun w' hw => by (go_simp)⟩) (by assumption) ?_
                    simp only [Act.put, List.setIfInBounds_toArray, List.set_cons_zero, List.set_cons_succ]
                    refine anyH_take (i := 3) (v := .pointer (some ⟨bx, ox + k * 35, none⟩)) (some 68) rfl rfl (by kernel_rfl) (by kernel_rfl) (by kernel_rfl) (fun _ _ _ h => h) (Or.inl ⟨by rfl, fun w' hw => by (go_simp; try (intro h; omega))⟩) (by assumption) ?_
                    simp only [Act.put, List.setIfInBounds_toArray, List.set_cons_zero, List.set_cons_succ]
                    refine anyH_take (i := 4) (v := .agg UL.toArray) (some 69) rfl rfl (by kernel_rfl) (by kernel_rfl) (by kernel_rfl) (fun _ _ _ h => h) (yieldsIf_load_mid (by rfl) 72 (.tmp 68) rfl bx (ox + k * 35) rfl UL _ (fun w' h => h.2.2.1) Try.underlying72 rfl HUi.out) (by assumption) ?_
                    simp only [Act.put, List.setIfInBounds_toArray, List.set_cons_zero, List.set_cons_succ]
                    refine anyH_take (i := 5) (v := .pointer (some ⟨gy, 103, none⟩)) (some 70) rfl rfl (by kernel_rfl) (by kernel_rfl) (by kernel_rfl) (fun _ _ _ h => h) (Or.inl ⟨by rfl, fun w' hw => by (go_simp)⟩) (by assumption) ?_
                    simp only [Act.put, List.setIfInBounds_toArray, List.set_cons_zero, List.set_cons_succ]
                    refine anyH_take (i := 6) (v := .slice (some ⟨bY, oy, none⟩) nbx cby) (some 71) rfl rfl (by kernel_rfl) (by kernel_rfl) (by kernel_rfl) (fun _ _ _ h => h) (Or.inl ⟨by rfl, fun w' hw => by (have hcc := hw.2.1; go_simp)⟩) (by assumption) ?_
                    simp only [Act.put, List.setIfInBounds_toArray, List.set_cons_zero, List.set_cons_succ]
                    refine anyH_take (i := 7) (v := .int .i64 (k : Nat)) (some 72) rfl rfl (by kernel_rfl) (by kernel_rfl) (by kernel_rfl) (fun _ _ _ h => h) (Or.inl ⟨by rfl, fun w' hw => by (go_simp)⟩) (by assumption) ?_
                    simp only [Act.put, List.setIfInBounds_toArray, List.set_cons_zero, List.set_cons_succ]
                    refine anyH_take (i := 8) (v := .pointer (some ⟨bY, oy + k * 35, none⟩)) (some 73) rfl rfl (by kernel_rfl) (by kernel_rfl) (by kernel_rfl) (fun _ _ _ h => h) (Or.inl ⟨by rfl, fun w' hw => by (go_simp; try (intro h; omega))⟩) (by assumption) ?_
                    simp only [Act.put, List.setIfInBounds_toArray, List.set_cons_zero, List.set_cons_succ]
                    refine anyH_take (i := 9) (v := .agg VL.toArray) (some 74) rfl rfl (by kernel_rfl) (by kernel_rfl) (by kernel_rfl) (fun _ _ _ h => h) (yieldsIf_load_mid (by rfl) 72 (.tmp 73) rfl bY (oy + k * 35) rfl VL _ (fun w' h => h.2.2.2) Try.underlying72 rfl HVi.out) (by assumption) ?_
                    simp only [Act.put, List.setIfInBounds_toArray, List.set_cons_zero, List.set_cons_succ]
                    refine anyH_take (i := 10) (v := .bool (!r0)) (some 75) rfl rfl (by kernel_rfl) (by kernel_rfl) (by kernel_rfl) (fun _ _ _ h => h) (Or.inl ⟨by rfl, fun w' hw => by (have hc := Hr0.out; have hg := gtNN; go_simp)⟩) (by assumption) ?_
                    simp only [Act.put, List.setIfInBounds_toArray, List.set_cons_zero, List.set_cons_succ]
                    refine wpAnyH_done (by kernel_rfl) ?_ _
                    clear hHeld hru hrv
                    cases r0 with
                    | false =>
                      have Hno := Lib.hid (show r = false by
                        cases r with
                        | false => rfl
                        | true =>
                          have he := Hr.out.1 rfl
                          have h1 := Hu.out
                          rw [he, Hv.out] at h1
                          injection h1 with h1
                          have := Hr0r.out.2 h1.symm
                          cases this)
                      go_wp2_with fail
                      go_ret
                      exact ⟨by rw [Hno.out]; rfl, by first | exact Below.dN Hb0.out _ | exact Below.dN (Below.dN Hb0.out _) _⟩
                    | true =>
                      have Hk2 : Hid (∀ j, j < k + 1 → x.c.bins[j]? = y.c.bins[j]?) := fun j hj => by
                        by_cases e : j = k
                        · rw [e, Hu.out, Hv.out, Hr0r.out.1 rfl]
                        · exact Hk.out j (by omega)
                      go_wp2_with fail
                      go_roundw
                      case rel => exact ⟨k + 1, by omega, by go_num, ⟨dn + 1, rfl⟩, Hk2⟩
                      case measure => simp [Go.RowKit.intOf]; omega
                  · obtain rfl : k = nbx := by omega
                    have hd1 : decide ((k : Int) < (k : Int)) = false := by simp
                    have Hbins := Lib.hid (show x.c.bins = y.c.bins from List.ext_getElem? fun j => by
                      by_cases hj : j < k
                      · exact Hk.out j hj
                      · rw [List.getElem?_eq_none (by rw [Hnb.out.1]; omega), List.getElem?_eq_none (by rw [Hnb.out.2]; omega)])
                    have X6 := Lib.hid x6
                    have Y6 := Lib.hid y6
                    clear x4 y4 x6 y6
                    go_wp2_with fail
                    obtain ⟨W3, hW3⟩ : ∃ z, z = W2.drewN dn := ⟨_, rfl⟩
                    have x6 : W3.cell? ⟨gx, 136, none⟩ = some (.slice Aex nex cex) := by rw [hW3]; exact X6.out
                    have y6 : W3.cell? ⟨gy, 136, none⟩ = some (.slice Aey nex cey) := by rw [hW3]; exact Y6.out
                    have Hex3 := Lib.hid (show RowsAt W3 gx Aex x.c.evs by rw [hW3]; exact Hex.out)
                    have Hey3 := Lib.hid (show RowsAt W3 gx Aey y.c.evs by rw [hW3]; exact Hey.out)
                    have Hb3 := Lib.hid (show Below gx w W3 by rw [hW3]; exact Below.dN Hb0.out _)
                    rw [← hW3]
                    clear hW3 x4' y4'
                    go_loopw [6] (fun i wr => ∃ k : Nat, k ≤ nex ∧ i = .int .i64 k ∧ Drawn W3 wr ∧ Hid (∀ j, j < k → x.c.evs.getD j [] = y.c.evs.getD j [])) (fun i _ => nex - (Go.RowKit.intOf i).toNat)
                    case atStart => exact ⟨0, Nat.zero_le _, rfl, Drawn.refl W3, fun j hj => by omega⟩
                    case round =>
                      obtain ⟨k2, hk2, rfl, ⟨dm, rfl⟩, Hk2⟩ := hrel
                      have x6' : (W3.drewN dm).cell? ⟨gx, 136, none⟩ = some (.slice Aex nex cex) := x6
                      have y6' : (W3.drewN dm).cell? ⟨gy, 136, none⟩ = some (.slice Aey nex cey) := y6
                      by_cases hlt2 : k2 < nex
                      · have hd2 : decide ((k2 : Int) < (nex : Int)) = true := by simp; omega
                        obtain ⟨bx, ox, rfl, hbx, hrx⟩ := Hex3.out (by rw [Hne.out.1]; omega)
                        obtain ⟨bY, oy, rfl, hby, hry⟩ := Hey3.out (by rw [Hne.out.2]; omega)
                        obtain ⟨Au, cu, hcu, hlu, hmu, hbu⟩ := hrx k2 (by rw [Hne.out.1]; exact hlt2)
                        obtain ⟨Av, cv, hcv, hlv, hmv, hbv⟩ := hry k2 (by rw [Hne.out.2]; exact hlt2)
                        obtain ⟨u, hu⟩ : ∃ z, x.c.evs.getD k2 [] = z := ⟨_, rfl⟩
                        obtain ⟨v, hv⟩ : ∃ z, y.c.evs.getD k2 [] = z := ⟨_, rfl⟩
                        rw [hu] at hcu hlu hbu
                        rw [hv] at hcv hlv hbv
                        have hcu' : (W3.drewN dm).cell? ⟨bx, ox + k2, none⟩ = some (.slice Au u.length cu) := hcu
                        have hcv' : (W3.drewN dm).cell? ⟨bY, oy + k2, none⟩ = some (.slice Av v.length cv) := hcv
                        have hlim : u.length ≤ maxLen ∧ v.length ≤ maxLen := ⟨Nat.le_trans hlu hmu, Nat.le_trans hlv hmv⟩
                        obtain ⟨lu, hlu2⟩ : ∃ z, u.length = z := ⟨_, rfl⟩
                        obtain ⟨lv, hlv2⟩ : ∃ z, v.length = z := ⟨_, rfl⟩
                        have hsame := fun dd => same_any gx gx Au Av cu cv u v (W3.drewN dd) (hbu.drewN dd) (hbv.drewN dd) hlim.1 hlim.2
                        rw [hlu2, hlv2] at hsame
                        rw [hlu2] at hcu'
                        rw [hlv2] at hcv'
                        have Hsame := Lib.hid hsame
                        have Hu := Lib.hid hu
                        have Hv := Lib.hid hv
                        clear hrx hry hcu hcv hbu hbv hu hv hlu hlv hmu hmv hlu2 hlv2 hsame hlim hbx hby
                        go_upto_region 11 with fail
                        refine wp_region_held_drew (S := fun w' => w'.cell? ⟨gx, 136, none⟩ = some (.slice (some ⟨bx, ox, none⟩) nex cex) ∧ w'.cell? ⟨gy, 136, none⟩ = some (.slice (some ⟨bY, oy, none⟩) nex cey) ∧ w'.cell? ⟨bx, ox + k2, none⟩ = some (.slice Au lu cu) ∧ w'.cell? ⟨bY, oy + k2, none⟩ = some (.slice Av lv cv)) (by kernel_rfl) ⟨x6', y6', hcu', hcv'⟩ (fun hHeld => ?_)
                        refine anyH_take (i := 0) (v := .pointer (some ⟨gx, 136, none⟩)) (some 83) rfl rfl (by kernel_rfl) (by kernel_rfl) (by kernel_rfl) (fun _ _ _ h => h) (Or.inl ⟨by rfl, fun w' hw => by (go_simp)⟩) (by assumption) ?_
                        simp only [Act.put, List.setIfInBounds_toArray, List.set_cons_zero, List.set_cons_succ]
                        refine anyH_take (i := 1) (v := .slice (some ⟨bx, ox, none⟩) nex cex) (some 84) rfl rfl (by kernel_rfl) (by kernel_rfl) (by kernel_rfl) (fun _ _ _ h => h) (Or.inl ⟨by rfl, fun w' hw => by (have hcc := hw.1; go_simp)⟩) (by assumption) ?_
                        simp only [Act.put, List.setIfInBounds_toArray, List.set_cons_zero, List.set_cons_succ]
                        refine anyH_take (i := 2) (v := .int .i64 (k2 : Nat)) (some 85) rfl rfl (by kernel_rfl) (by kernel_rfl) (by kernel_rfl) (fun _ _ _ h => h) (Or.inl ⟨by rfl, fun w' hw => by (go_simp)⟩) (by assumption) ?_
                        simp only [Act.put, List.setIfInBounds_toArray, List.set_cons_zero, List.set_cons_succ]
                        refine anyH_take (i := 3) (v := .pointer (some ⟨bx, ox + k2, none⟩)) (some 86) rfl rfl (by kernel_rfl) (by kernel_rfl) (by kernel_rfl) (fun _ _ _ h => h) (Or.inl ⟨by rfl, fun w' hw => by (go_simp; try (intro h; omega))⟩) (by assumption) ?_
                        simp only [Act.put, List.setIfInBounds_toArray, List.set_cons_zero, List.set_cons_succ]
                        refine anyH_take (i := 4) (v := .slice Au lu cu) (some 87) rfl rfl (by kernel_rfl) (by kernel_rfl) (by kernel_rfl) (fun _ _ _ h => h) (Or.inl ⟨by rfl, fun w' hw => by (have hcc := hw.2.2.1; go_simp)⟩) (by assumption) ?_
                        simp only [Act.put, List.setIfInBounds_toArray, List.set_cons_zero, List.set_cons_succ]
                        refine anyH_take (i := 5) (v := .pointer (some ⟨gy, 136, none⟩)) (some 88) rfl rfl (by kernel_rfl) (by kernel_rfl) (by kernel_rfl) (fun _ _ _ h => h) (Or.inl ⟨by rfl, fun w' hw => by (go_simp)⟩) (by assumption) ?_
                        simp only [Act.put, List.setIfInBounds_toArray, List.set_cons_zero, List.set_cons_succ]
                        refine anyH_take (i := 6) (v := .slice (some ⟨bY, oy, none⟩) nex cey) (some 89) rfl rfl (by kernel_rfl) (by kernel_rfl) (by kernel_rfl) (fun _ _ _ h => h) (Or.inl ⟨by rfl, fun w' hw => by (have hcc := hw.2.1; go_simp)⟩) (by assumption) ?_
                        simp only [Act.put, List.setIfInBounds_toArray, List.set_cons_zero, List.set_cons_succ]
                        refine anyH_take (i := 7) (v := .int .i64 (k2 : Nat)) (some 90) rfl rfl (by kernel_rfl) (by kernel_rfl) (by kernel_rfl) (fun _ _ _ h => h) (Or.inl ⟨by rfl, fun w' hw => by (go_simp)⟩) (by assumption) ?_
                        simp only [Act.put, List.setIfInBounds_toArray, List.set_cons_zero, List.set_cons_succ]
                        refine anyH_take (i := 8) (v := .pointer (some ⟨bY, oy + k2, none⟩)) (some 91) rfl rfl (by kernel_rfl) (by kernel_rfl) (by kernel_rfl) (fun _ _ _ h => h) (Or.inl ⟨by rfl, fun w' hw => by (go_simp; try (intro h; omega))⟩) (by assumption) ?_
                        simp only [Act.put, List.setIfInBounds_toArray, List.set_cons_zero, List.set_cons_succ]
                        refine anyH_take (i := 9) (v := .slice Av lv cv) (some 92) rfl rfl (by kernel_rfl) (by kernel_rfl) (by kernel_rfl) (fun _ _ _ h => h) (Or.inl ⟨by rfl, fun w' hw => by (have hcc := hw.2.2.2; go_simp)⟩) (by assumption) ?_
                        simp only [Act.put, List.setIfInBounds_toArray, List.set_cons_zero, List.set_cons_succ]
                        refine wpAnyH_ready (rs := [10]) (by kernel_rfl) (by simp) ?_
                        refine AllReadyH.cons rfl (fun K hK => ?_) AllReadyH.nil
                        go_simp
                        go_at_call 14
                        refine Calls.mono (Hsame.out (dm + 1)) ?_
                        rintro e w5 ⟨rfl, nd, rfl⟩
                        go_wp2_with fail
                        refine hK.out _ _ ⟨x6', y6', hcu', hcv'⟩ (fun hHeldx => ?_)
                        clear hK K
                        try simp only [Act.put, List.setIfInBounds_toArray, List.set_cons_zero, List.set_cons_succ]
                        refine anyH_take (i := 11) (v := .bool (!decide (u = v))) (some 94) rfl rfl (by kernel_rfl) (by kernel_rfl) (by kernel_rfl) (fun _ _ _ h => h) (Or.inl ⟨by rfl, fun w' hw => by (go_simp)⟩) (by assumption) ?_
                        simp only [Act.put, List.setIfInBounds_toArray, List.set_cons_zero, List.set_cons_succ]
                        refine wpAnyH_done (by kernel_rfl) ?_ _
                        clear hHeld hcu' hcv'
                        by_cases huv : u = v
                        · have hq : decide (u = v) = true := by simp [huv]
                          have Hk3 : Hid (∀ j, j < k2 + 1 → x.c.evs.getD j [] = y.c.evs.getD j []) := fun j hj => by
                            by_cases e : j = k2
                            · rw [e, Hu.out, Hv.out, huv]
                            · exact Hk2.out j (by omega)
                          rw [hq]
                          clear huv hq
                          go_wp2_with fail
                          go_roundw
                          case rel => exact ⟨k2 + 1, by omega, by go_num, ⟨dm + 1 + nd, by first | rfl | (simp only [World.drewN_add_]; done) | (rw [World.drewN_add_]; rfl) | skip⟩, Hk3⟩
                          case measure => simp [Go.RowKit.intOf]; omega
                        · have hq : decide (u = v) = false := by simp [huv]
                          have Hno := Lib.hid (show r = false by
                            cases r with
                            | false => rfl
                            | true =>
                              have he := Hr.out.1 rfl
                              exact absurd (by rw [← Hu.out, ← Hv.out, he]) huv)
                          rw [hq]
                          clear huv hq
                          go_wp2_with fail
                          go_ret
                          exact ⟨by rw [Hno.out]; rfl, by first | exact Below.dN Hb3.out _ | exact Below.dN (Below.dN Hb3.out _) _ | exact Below.dN (Below.dN (Below.dN Hb3.out _) _) _⟩
                      · obtain rfl : k2 = nex := by omega
                        have hd2 : decide ((k2 : Int) < (k2 : Int)) = false := by simp
                        have Hyes := Lib.hid (show r = true from Hr.out.2 (Hext.out (by rw [Hep.out.1, Hep.out.2]) (Hf.out.1.1 (by simp)) (Hf.out.2.1.1 (by simp)) (Hf.out.2.2.1.1 (by simp)) Hbins.out (Hf.out.2.2.2.1 (by simp)) (List.ext_getElem? fun j => by
                          by_cases hj : j < k2
                          · have := Hk2.out j hj
                            have h1 : j < x.c.evs.length := by rw [Hne.out.1]; exact hj
                            have h2 : j < y.c.evs.length := by rw [Hne.out.2]; exact hj
                            simp only [List.getD, List.getElem?_eq_getElem h1, List.getElem?_eq_getElem h2, Option.getD_some] at this
                            rw [List.getElem?_eq_getElem h1, List.getElem?_eq_getElem h2, this]
                          · rw [List.getElem?_eq_none (by rw [Hne.out.1]; omega), List.getElem?_eq_none (by rw [Hne.out.2]; omega)])))
                        go_wp2_with fail
                        go_ret
                        exact ⟨by rw [Hyes.out]; rfl, by first | exact Below.dN Hb3.out _ | exact Hb3.out⟩
              · have qe : ((nex : Int) != (ney : Int)) = true := by simp; omega
                have Hno := Lib.hid (show r = false by
                  cases r with
                  | false => rfl
                  | true =>
                    exfalso
                    have he := Hr.out.1 rfl
                    exact hne (by rw [← Hne.out.1, ← Hne.out.2, he]))
                go_wp2_with (first
    | ((with_reducible refine wpList_at 14 (by rfl) ?_); refine wpList_load_mid_ifC (by rfl) _ _ rfl gx 1 rfl X1 _ x1 Try.underlying26 rfl HX1.out ?_)
    | ((with_reducible refine wpList_at 16 (by rfl) ?_); refine wpList_load_mid_ifC (by rfl) _ _ rfl gy 1 rfl Y1 _ y1 Try.underlying26 rfl HY1.out ?_)
    | ((with_reducible refine wpList_at 21 (by rfl) ?_); refine wpList_load_mid_ifC (by rfl) _ _ rfl gx 35 rfl X2 _ x2 Try.underlying26 rfl HX2.out ?_)
    | ((with_reducible refine wpList_at 23 (by rfl) ?_); refine wpList_load_mid_ifC (by rfl) _ _ rfl gy 35 rfl Y2 _ y2 Try.underlying26 rfl HY2.out ?_)
    | ((with_reducible refine wpList_at 28 (by rfl) ?_); refine wpList_load_mid_ifC (by rfl) _ _ rfl gx 69 rfl X3 _ x3 Try.underlying26 rfl HX3.out ?_)
    | ((with_reducible refine wpList_at 30 (by rfl) ?_); refine wpList_load_mid_ifC (by rfl) _ _ rfl gy 69 rfl Y3 _ y3 Try.underlying26 rfl HY3.out ?_)
    | ((with_reducible refine wpList_at 35 (by rfl) ?_); refine wpList_load_mid_ifC (by rfl) _ _ rfl gx 104 rfl X4 _ x5 Try.underlying24 rfl HX4.out ?_)
    | ((with_reducible refine wpList_at 37 (by rfl) ?_); refine wpList_load_mid_ifC (by rfl) _ _ rfl gy 104 rfl Y4 _ y5 Try.underlying24 rfl HY4.out ?_)
    | ((with_reducible refine wpList_at 17 (by rfl) ?_); refine wpList_neq_ifC (by rfl) _ _ _ _ rfl X1 Y1 rfl rfl _ HF1.out gtR ?_)
    | ((with_reducible refine wpList_at 24 (by rfl) ?_); refine wpList_neq_ifC (by rfl) _ _ _ _ rfl X2 Y2 rfl rfl _ HF2.out gtR ?_)
    | ((with_reducible refine wpList_at 31 (by rfl) ?_); refine wpList_neq_ifC (by rfl) _ _ _ _ rfl X3 Y3 rfl rfl _ HF3.out gtR ?_)
    | ((with_reducible refine wpList_at 38 (by rfl) ?_); refine wpList_neq_ifC (by rfl) _ _ _ _ rfl X4 Y4 rfl rfl _ HF4.out gt32 ?_))
                go_ret
                exact ⟨by rw [Hno.out]; rfl, Hb0.out⟩
            · have qb : ((nbx : Int) != (nby : Int)) = true := by simp; omega
              have Hno := Lib.hid (show r = false by
                cases r with
                | false => rfl
                | true =>
                  exfalso
                  have he := Hr.out.1 rfl
                  exact hnb (by rw [← Hnb.out.1, ← Hnb.out.2, he]))
              go_wp2_with (first
    | ((with_reducible refine wpList_at 14 (by rfl) ?_); refine wpList_load_mid_ifC (by rfl) _ _ rfl gx 1 rfl X1 _ x1 Try.underlying26 rfl HX1.out ?_)
    | ((with_reducible refine wpList_at 16 (by rfl) ?_); refine wpList_load_mid_ifC (by rfl) _ _ rfl gy 1 rfl Y1 _ y1 Try.underlying26 rfl HY1.out ?_)
    | ((with_reducible refine wpList_at 21 (by rfl) ?_); refine wpList_load_mid_ifC (by rfl) _ _ rfl gx 35 rfl X2 _ x2 Try.underlying26 rfl HX2.out ?_)
    | ((with_reducible refine wpList_at 23 (by rfl) ?_); refine wpList_load_mid_ifC (by rfl) _ _ rfl gy 35 rfl Y2 _ y2 Try.underlying26 rfl HY2.out ?_)
    | ((with_reducible refine wpList_at 28 (by rfl) ?_); refine wpList_load_mid_ifC (by rfl) _ _ rfl gx 69 rfl X3 _ x3 Try.underlying26 rfl HX3.out ?_)
    | ((with_reducible refine wpList_at 30 (by rfl) ?_); refine wpList_load_mid_ifC (by rfl) _ _ rfl gy 69 rfl Y3 _ y3 Try.underlying26 rfl HY3.out ?_)
    | ((with_reducible refine wpList_at 35 (by rfl) ?_); refine wpList_load_mid_ifC (by rfl) _ _ rfl gx 104 rfl X4 _ x5 Try.underlying24 rfl HX4.out ?_)
    | ((with_reducible refine wpList_at 37 (by rfl) ?_); refine wpList_load_mid_ifC (by rfl) _ _ rfl gy 104 rfl Y4 _ y5 Try.underlying24 rfl HY4.out ?_)
    | ((with_reducible refine wpList_at 17 (by rfl) ?_); refine wpList_neq_ifC (by rfl) _ _ _ _ rfl X1 Y1 rfl rfl _ HF1.out gtR ?_)
    | ((with_reducible refine wpList_at 24 (by rfl) ?_); refine wpList_neq_ifC (by rfl) _ _ _ _ rfl X2 Y2 rfl rfl _ HF2.out gtR ?_)
    | ((with_reducible refine wpList_at 31 (by rfl) ?_); refine wpList_neq_ifC (by rfl) _ _ _ _ rfl X3 Y3 rfl rfl _ HF3.out gtR ?_)
    | ((with_reducible refine wpList_at 38 (by rfl) ?_); refine wpList_neq_ifC (by rfl) _ _ _ _ rfl X4 Y4 rfl rfl _ HF4.out gt32 ?_))
              go_ret
              exact ⟨by rw [Hno.out]; rfl, Hb0.out⟩
  · have q0 : ((epx : Int) != (epy : Int)) = true := by simp; omega
    have q0' : (epx != epy) = true := by simpa using h0
    have Hno := Lib.hid (show r = false by
      cases r with
      | false => rfl
      | true =>
        exfalso
        have he := Hr.out.1 rfl
        exact h0 (by rw [← Hep.out.1, ← Hep.out.2, he]))
    go_wp2_with (first
    | ((with_reducible refine wpList_at 14 (by rfl) ?_); refine wpList_load_mid_ifC (by rfl) _ _ rfl gx 1 rfl X1 _ x1 Try.underlying26 rfl HX1.out ?_)
    | ((with_reducible refine wpList_at 16 (by rfl) ?_); refine wpList_load_mid_ifC (by rfl) _ _ rfl gy 1 rfl Y1 _ y1 Try.underlying26 rfl HY1.out ?_)
    | ((with_reducible refine wpList_at 21 (by rfl) ?_); refine wpList_load_mid_ifC (by rfl) _ _ rfl gx 35 rfl X2 _ x2 Try.underlying26 rfl HX2.out ?_)
    | ((with_reducible refine wpList_at 23 (by rfl) ?_); refine wpList_load_mid_ifC (by rfl) _ _ rfl gy 35 rfl Y2 _ y2 Try.underlying26 rfl HY2.out ?_)
    | ((with_reducible refine wpList_at 28 (by rfl) ?_); refine wpList_load_mid_ifC (by rfl) _ _ rfl gx 69 rfl X3 _ x3 Try.underlying26 rfl HX3.out ?_)
    | ((with_reducible refine wpList_at 30 (by rfl) ?_); refine wpList_load_mid_ifC (by rfl) _ _ rfl gy 69 rfl Y3 _ y3 Try.underlying26 rfl HY3.out ?_)
    | ((with_reducible refine wpList_at 35 (by rfl) ?_); refine wpList_load_mid_ifC (by rfl) _ _ rfl gx 104 rfl X4 _ x5 Try.underlying24 rfl HX4.out ?_)
    | ((with_reducible refine wpList_at 37 (by rfl) ?_); refine wpList_load_mid_ifC (by rfl) _ _ rfl gy 104 rfl Y4 _ y5 Try.underlying24 rfl HY4.out ?_)
    | ((with_reducible refine wpList_at 17 (by rfl) ?_); refine wpList_neq_ifC (by rfl) _ _ _ _ rfl X1 Y1 rfl rfl _ HF1.out gtR ?_)
    | ((with_reducible refine wpList_at 24 (by rfl) ?_); refine wpList_neq_ifC (by rfl) _ _ _ _ rfl X2 Y2 rfl rfl _ HF2.out gtR ?_)
    | ((with_reducible refine wpList_at 31 (by rfl) ?_); refine wpList_neq_ifC (by rfl) _ _ _ _ rfl X3 Y3 rfl rfl _ HF3.out gtR ?_)
    | ((with_reducible refine wpList_at 38 (by rfl) ?_); refine wpList_neq_ifC (by rfl) _ _ _ _ rfl X4 Y4 rfl rfl _ HF4.out gt32 ?_))
    go_ret
    exact ⟨by rw [Hno.out]; rfl, Hb0.out⟩

end Go.Proofs.Ytkepfigoeaheaaa

namespace Go.Proofs.Ytkepfigoeaheaaa
open Go.RowKit
set_option linter.unusedVariables false
set_option linter.unusedSimpArgs false


def greatC (c : Com) : Bool := decide (40 < c.bins.length) || decide (40 < c.evs.length) || c.evs.any fun e => decide (70000 < e.length)
theorem greatC_no {c : Com} (h : greatC c = false) : c.bins.length ≤ 40 ∧ c.evs.length ≤ 40 ∧ ∀ e ∈ c.evs, e.length ≤ 70000 := by
  unfold greatC at h
  simp only [Bool.or_eq_false_iff, decide_eq_false_iff_not, List.any_eq_false, decide_eq_true_eq] at h
  exact ⟨by omega, by omega, fun e he => by have := h.2 e he; omega⟩
set_option maxHeartbeats 4000000 in
set_option maxRecDepth 100000 in
theorem great_anyC (x : Cx) (VL : List Value) (hVL : VL = comC x) (w : World) (h : CxOk w w.heap.size x) (r : Bool) (hr : greatC x.c = r) :
    Calls Try.prog 9 #[.agg VL.toArray] w fun e w' => e = .returned (.bool r) ∧ Below w.heap.size w w' := by
  obtain ⟨W1, hW1⟩ : ∃ z, z = w.alloc (.cells VL.toArray 30) := ⟨_, rfl⟩
  have hR1 : Arr W1 w.heap.size 30 VL := by rw [hW1]; exact Arr.new w _ _
  have hb0 : Below w.heap.size w W1 := by rw [hW1]; exact (Below.refl _ w).alloc (Nat.le_refl _) _
  rw [hVL] at hR1
  obtain ⟨_, _, _, _, p4, _, p6⟩ := Arr.com hR1 (rC_length h.r1) (rC_length h.r2) (rC_length h.r3) (by rw [Lib.byteCells_length, h.st])
  obtain ⟨nb, hnb⟩ : ∃ z, x.c.bins.length = z := ⟨_, rfl⟩
  obtain ⟨ne, hne⟩ : ∃ z, x.c.evs.length = z := ⟨_, rfl⟩
  obtain ⟨Ae, hAe⟩ : ∃ z, x.Ae = z := ⟨_, rfl⟩
  obtain ⟨ce, hce⟩ : ∃ z, x.ce = z := ⟨_, rfl⟩
  rw [hnb] at p4
  rw [hne, hAe, hce] at p6
  have hnec : ne ≤ ce ∧ ce ≤ 9223372036854775807 := by rw [← hne, ← hce]; exact ⟨h.le, by have := h.me; unfold maxLen at this; omega⟩
  have hnbc : nb ≤ 9223372036854775807 := by rw [← hnb]; have := h.lb; have := h.mb; unfold maxLen at this; omega
  have Hevs := Lib.hid (show RowsAt W1 w.heap.size Ae x.c.evs by rw [← hAe]; exact h.evs.below hb0 (Nat.le_refl _))
  have Hne := Lib.hid hne
  have HW1 := Lib.hid hW1
  have Hr : Hid (r = (decide (40 < nb) || decide (40 < ne) || x.c.evs.any fun e => decide (70000 < e.length))) := Lib.hid (by rw [← hr, ← hnb, ← hne]; rfl)
  clear hVL hW1 hR1 h hnb hne hAe hce hr
  go_enter Try.func9, Try.ntmps9
  go_upto_region 1 with fail
  change Code.wp _ _ _ _ (w.alloc (.cells VL.toArray 30))
  rw [← HW1.out]
  clear HW1
  by_cases h1 : 40 < nb
  · have q : decide ((40 : Int) < (nb : Int)) = true := by simp; omega
    have Hy := Lib.hid (show r = true by rw [Hr.out]; simp [h1])
    go_wp2_with fail
    go_ret
    exact ⟨by rw [Hy.out]; rfl, hb0⟩
  have q : decide ((40 : Int) < (nb : Int)) = false := by simp; omega
  by_cases h2 : 40 < ne
  · have q2 : decide ((40 : Int) < (ne : Int)) = true := by simp; omega
    have Hy := Lib.hid (show r = true by rw [Hr.out]; simp [h2])
    go_wp2_with fail
    go_ret
    exact ⟨by rw [Hy.out]; rfl, hb0⟩
  have q2 : decide ((40 : Int) < (ne : Int)) = false := by simp; omega
  have Hr2 := Lib.hid (show r = (x.c.evs.any fun e => decide (70000 < e.length)) by rw [Hr.out]; simp [h1, h2])
  clear h1 h2 Hr
  go_wp2_with fail
  go_loopw [18] (fun i wr => ∃ k : Nat, k ≤ ne ∧ i = .int .i64 k ∧ W1 = wr ∧ Hid (∀ j, j < k → (x.c.evs.getD j []).length ≤ 70000)) (fun i _ => ne - (Go.RowKit.intOf i).toNat)
  case atStart => exact ⟨0, Nat.zero_le _, rfl, rfl, fun j hj => by omega⟩
  case round =>
    obtain ⟨k, hk, rfl, rfl, Hk⟩ := hrel
    by_cases hlt : k < ne
    · have hd1 : decide ((k : Int) < (ne : Int)) = true := by simp; omega
      obtain ⟨bb, off, rfl, hblk, hrow⟩ := Hevs.out (by rw [Hne.out]; omega)
      obtain ⟨Ax, cx, hcx, hxc, hxm, _⟩ := hrow k (by rw [Hne.out]; exact hlt)
      obtain ⟨lx, hlx⟩ : ∃ z, (x.c.evs.getD k []).length = z := ⟨_, rfl⟩
      rw [hlx] at hcx hxc
      have hxm' : cx ≤ 9223372036854775807 := by unfold maxLen at hxm; omega
      have Hlx := Lib.hid hlx
      clear hrow hlx hblk
      by_cases hbig : 70000 < lx
      · have q3 : decide ((70000 : Int) < (lx : Int)) = true := by simp; omega
        have Hy := Lib.hid (show r = true by
          rw [Hr2.out, List.any_eq_true]
          have hkl : k < x.c.evs.length := by rw [Hne.out]; exact hlt
          refine ⟨x.c.evs[k], List.getElem_mem hkl, ?_⟩
          have e : x.c.evs.getD k [] = x.c.evs[k] := by simp [List.getD, hkl]
          rw [← e, decide_eq_true_eq, Hlx.out]
          exact hbig)
        clear hbig
        go_wp2_with fail
        go_ret
        exact ⟨by rw [Hy.out]; rfl, hb0⟩
      · have q3 : decide ((70000 : Int) < (lx : Int)) = false := by simp; omega
        have Hk2 : Hid (∀ j, j < k + 1 → (x.c.evs.getD j []).length ≤ 70000) := fun j hj => by
          by_cases e : j = k
          · rw [e, Hlx.out]; omega
          · exact Hk.out j (by omega)
        clear hbig
        go_wp2_with fail
        go_roundw
        case rel => exact ⟨k + 1, by omega, by go_num, by first | rfl | trivial, Hk2⟩
        case measure => simp [Go.RowKit.intOf]; omega
    · obtain rfl : k = ne := by omega
      have hd1 : decide (k < k) = false := by simp
      have Hn := Lib.hid (show r = false by
        rw [Hr2.out, List.any_eq_false]
        intro e he
        obtain ⟨j, hj, rfl⟩ := List.getElem_of_mem he
        have := Hk.out j (by rw [← Hne.out]; exact hj)
        have e : x.c.evs.getD j [] = x.c.evs[j] := by simp [List.getD, hj]
        rw [e] at this
        simpa using this)
      go_wp2_with fail
      go_ret
      exact ⟨by rw [Hn.out]; rfl, hb0⟩

end Go.Proofs.Ytkepfigoeaheaaa

namespace Go.Proofs.Ytkepfigoeaheaaa
open Go.RowKit
set_option linter.unusedVariables false
set_option linter.unusedSimpArgs false


def c0 : Com := ⟨3, zR, zR, zR, [], List.replicate 32 0, [[1]]⟩
theorem com_built2 (A : Option Addr) : Try.prog.built 30 [(0, .int .u64 3), (6, .slice A 1 1)] = some (comC ⟨c0, none, 0, A, 1⟩).toArray := by kernel_rfl
theorem zR_w : RefW zR := ⟨rfl, by unfold I64 zR; decide, by unfold I64 zR; decide⟩
theorem c0_may : MayC c0 := ⟨by decide, ⟨by decide, by decide, by decide, by decide⟩, ⟨by decide, by decide, by decide, by decide⟩, ⟨by decide, by decide, by decide, by decide⟩, by intro b hb; simp [c0] at hb, by intro i hi; simp [c0] at hi⟩
theorem c0_ok : OkC c0 := ⟨by decide, ⟨⟨by decide, by decide, by decide, by decide⟩, rfl⟩, ⟨⟨by decide, by decide, by decide, by decide⟩, rfl⟩, ⟨⟨by decide, by decide, by decide, by decide⟩, rfl⟩, ⟨by decide, by intro b hb; simp [c0] at hb⟩, rfl, ⟨by decide, by decide⟩⟩
theorem c0_len : (encC c0).length ≤ 65536 := by
  have h0 : Lib.uvarint 0 = [0] := Lib.uvarint_small (by omega)
  have h1 : Lib.uvarint 1 = [1] := Lib.uvarint_small (by omega)
  have h3 : Lib.uvarint 3 = [3] := Lib.uvarint_small (by omega)
  have hu : uF 0 = 0 := by decide
  simp [encC, encH, encR, refB, encE, c0, zR, hu, h0, h1, h3]
theorem c0_good : Good (encC c0) ∧ ∀ c, IsDec (encC c0) c → c = c0 := by
  have h := dec_back c0_ok []
  rw [List.append_nil] at h
  exact ⟨⟨c0_len, h.2, c0, h.1, by decide, c0_may.2.2.2.2.2⟩, fun c hc => dec_one hc h.1⟩
set_option maxHeartbeats 4000000 in
set_option maxRecDepth 100000 in
theorem speaks13_any (w : World) : Calls Try.prog 8 #[] w fun e w' => e = .returned (.bool true) ∧ Below w.heap.size w w' := by
  obtain ⟨W1, hW1⟩ : ∃ z, z = w.alloc (.cells #[.int .u8 1] 5) := ⟨_, rfl⟩
  obtain ⟨W2, hW2⟩ : ∃ z, z = W1.alloc (.cells #[.slice (some ⟨w.heap.size, 0, none⟩) 1 1] 33) := ⟨_, rfl⟩
  have hA1 : Arr W1 w.heap.size 5 [.int .u8 1] := by rw [hW1]; exact Arr.new w _ _
  have hs1 : W1.heap.size = w.heap.size + 1 := by rw [hW1]; simp
  have hb1 : Below w.heap.size w W1 := by rw [hW1]; exact (Below.refl _ w).alloc (Nat.le_refl _) _
  have hb2 : Below W1.heap.size W1 W2 := by rw [hW2]; exact (Below.refl _ W1).alloc (Nat.le_refl _) _
  have hA2 : Arr W2 W1.heap.size 33 [.slice (some ⟨w.heap.size, 0, none⟩) 1 1] := by rw [hW2]; exact Arr.new W1 _ _
  have hA3 : Arr W2 w.heap.size 5 [.int .u8 1] := Arr.up hA1 hb2
  have hs2 : W2.heap.size = w.heap.size + 2 := by rw [hW2]; simp [hs1]
  have hb0 : Below w.heap.size w W2 := hb1.trans (hb2.mono hb1.size)
  obtain ⟨x0, hx0⟩ : ∃ x : Cx, x = ⟨c0, none, 0, some ⟨W1.heap.size, 0, none⟩, 1⟩ := ⟨_, rfl⟩
  have hox : CxOk W2 W2.heap.size x0 := by
    rw [hx0]
    exact { ep := (by decide : (3 : Nat) < 18446744073709551616), r1 := zR_w, r2 := zR_w, r3 := zR_w, bw := (by intro b hb; simp at hb : ∀ b ∈ ([] : List BinF), BinW b), st := rfl, lb := Nat.le_refl 0, mb := Nat.zero_le _, le := Nat.le_refl 1, me := (by unfold maxLen; decide : (1 : Nat) ≤ maxLen),
            bins := fun h => absurd h (by simp [c0]),
            evs := fun _ => ⟨W1.heap.size, 0, rfl, by omega, fun i hi => by
              have hi0 : i = 0 := by simp [c0] at hi; exact hi
              subst hi0
              refine ⟨some ⟨w.heap.size, 0, none⟩, 1, ?_, Nat.le_refl 1, (by unfold maxLen; decide : (1 : Nat) ≤ maxLen), fun _ => ⟨w.heap.size, 0, rfl, by omega, fun j hj => ?_⟩⟩
              · rw [hA2.cell]; rfl
              · have hj0 : j = 0 := by simp [c0] at hj; exact hj
                subst hj0
                rw [hA3.cell]; rfl⟩ }
  obtain ⟨VL, hVL⟩ : ∃ z, z = comC x0 := ⟨_, rfl⟩
  have Hbt := Lib.hid (show Try.prog.built 30 [(0, .int .u64 3), (6, .slice (some ⟨w.heap.size + 1, 0, none⟩) 1 1)] = some VL.toArray by rw [hVL, hx0, hs1]; exact com_built2 _)
  have hc : x0.c = c0 := by rw [hx0]
  have Henc := Lib.hid (show Calls Try.prog 10 #[.agg VL.toArray] W2 (EncPost c0 W2) by
    have h := enc_any x0 VL hVL W2 hox (by rw [hc]; decide) (by rw [hc]; decide) (by rw [hc]; decide)
    rw [hc] at h
    exact h)
  have HW1 := Lib.hid hW1
  have HW2 := Lib.hid hW2
  have Hb0 := Lib.hid hb0
  clear hW1 hW2 hA1 hA2 hA3 hs1 hb1 hb2 hox hx0 hVL hc hb0 hs2
  go_enter Try.func8, Try.ntmps8
  go_wp2_with (refine wpList_builtD rfl _ _ rfl _ rfl VL.toArray Hbt.out ?_)
  rw [← HW1.out, ← HW2.out]
  refine Calls.mono Henc.out ?_
  rintro e w3 ⟨v, k, rfl, hb3, hpost⟩
  obtain ⟨rfl, hown⟩ : k = 0 ∧ Owns w3 W2.heap.size 5 v (encC c0) := by
    rcases hpost with ⟨h, _⟩ | ⟨_, h, _⟩ | ⟨_, _, h, h2⟩
    · exact absurd c0_may h
    · have := c0_len; omega
    · exact ⟨h, h2⟩
  obtain ⟨A, cc, rfl, hcc, hcm, hbs⟩ := Owns.slice hown
  obtain ⟨n, hn⟩ : ∃ z, (encC c0).length = z := ⟨_, rfl⟩
  have hdec := dec_any A n cc (encC c0) hn (by omega) hcm w3 hbs
  have Hdec := Lib.hid hdec
  have Hb3 := Lib.hid (show Below w.heap.size w w3 from Hb0.out.trans (hb3.mono Hb0.out.size))
  rw [hn]
  clear hpost hown hcc hcm hbs hn hdec hb3
  go_wp2_with fail
  refine Calls.mono Hdec.out ?_
  rintro e w4 ⟨hb4, hres⟩
  obtain ⟨x, rfl, hw, hxc⟩ : ∃ x, e = .returned (.tuple #[.agg (comC x).toArray, .int .i64 0]) ∧ CxOk w4 w4.heap.size x ∧ x.c = c0 := by
    rcases hres with ⟨x, he, hw, hd, _⟩ | ⟨_, h⟩
    · exact ⟨x, he, hw, c0_good.2 _ hd⟩
    · exact absurd c0_good.1 h
  obtain ⟨XL, hXL⟩ : ∃ z, z = comC x := ⟨_, rfl⟩
  rw [← hXL]
  have hXlen : XL.length = 137 := by rw [hXL]; exact comV_length (rC_length hw.r1) (rC_length hw.r2) (rC_length hw.r3) (by rw [Lib.byteCells_length, hw.st])
  have HXi := Lib.hid (show (Try.prog.info? 30).map (·.size) = some XL.toArray.size ∧ comZ.toArray.size = XL.toArray.size by rw [List.size_toArray, hXlen]; exact ⟨comSize, by rw [List.size_toArray, comZ_length]⟩)
  have HX1 := Lib.hid (show XL.toArray.all (·.oneCell') = true by rw [hXL]; exact all_oneC (comC_one x))
  have Hp := Lib.hid (fun (w' : World) (g : Nat) (hR : Arr w' g 30 XL) => show w'.cell? ⟨g, 0, none⟩ = some (.int .u64 (3 : Nat)) ∧ ∃ A c, w'.cell? ⟨g, 136, none⟩ = some (.slice A 1 c) by
    rw [hXL] at hR
    obtain ⟨p0, _, _, _, _, _, p6⟩ := Arr.com hR (rC_length hw.r1) (rC_length hw.r2) (rC_length hw.r3) (by rw [Lib.byteCells_length, hw.st])
    rw [hxc] at p0 p6
    exact ⟨p0, _, _, p6⟩)
  obtain ⟨ZL, hZL⟩ : ∃ z, z = comZ := ⟨_, rfl⟩
  have HZ0 := Lib.hid (fun w : World => show (zeroValue 30).run Try.prog w = .ok (.agg ZL.toArray) w by rw [hZL]; exact comZero w)
  rw [← hZL] at HXi
  have Hb4 := Lib.hid (show Below w.heap.size w w4 from Hb3.out.trans (hb4.mono Hb3.out.size))
  clear hres hw hxc hXL hXlen hZL hb4 Hdec Hb3 Henc Hbt HW1 HW2 Hb0
  go_upto_region 3 with (first | (refine wpList_allocZC rfl 30 rfl ZL.toArray (HZ0.out _) ?_) | (change wpList _ _ _ _ _ (w4.alloc (.cells ZL.toArray 30)); refine wpList_store_row rfl _ _ _ rfl w4.heap.size XL.toArray rfl rfl 30 ZL.toArray (heap_alloc_new w4 _) HXi.out.1 HXi.out.2 HX1.out ?_; obtain ⟨w5, hw5⟩ : ∃ x, x = (w4.alloc (.cells ZL.toArray 30)).setRow w4.heap.size XL.toArray := ⟨_, rfl⟩; rw [← hw5]; obtain ⟨hP5, hb5⟩ := alloc_row w4 30 ZL.toArray XL; rw [← hw5] at hP5 hb5; clear hw5))
  obtain ⟨q0, Ae, ce, q6⟩ := Hp.out _ _ hP5
  have Hb5 := Lib.hid hb5
  clear hb5 hP5 Hp HX1 HXi HZ0
  go_wp2_with fail
  go_ret
  exact ⟨rfl, Hb4.out.trans (Hb5.out.mono Hb4.out.size)⟩

end Go.Proofs.Ytkepfigoeaheaaa

namespace Go.Proofs.Ytkepfigoeaheaaa
open Go.RowKit
set_option linter.unusedVariables false
set_option linter.unusedSimpArgs false

theorem rtagged_atB (use : UInt8) (u : Int) (rs : List (List UInt8)) (SL : List Value) (A : Option Addr) (n c : Nat) (w : World) (hu : ((use.toNat : Nat) : Int) = u) (hS : SL = Lib.byteCells (shaF (tagF use rs))) (hn : rs.length = n) (hn2 : n ≤ 1000000) (hr : RowsAt w w.heap.size A rs) (hlim : (tagF use rs).length ≤ 1000000) :
    Calls Try.prog 54 #[.int .u8 u, .slice A n c] w fun e w' => e = .returned (.agg SL.toArray) ∧ Below w.heap.size w w' := by
  subst hS hu; exact rtagged_any use rs A n c w hn hn2 hr hlim

set_option maxHeartbeats 8000000 in
set_option maxRecDepth 100000 in
theorem rof_any (a : Int) (l : List UInt8) (DL : List Value) (A : Option Addr) (n c : Nat) (w : World) (hn : l.length = n) (hn2 : n ≤ 900000) (hc : n ≤ c) (hm : c ≤ maxLen) (hb : Bs w w.heap.size A l) (ha0 : -9223372036854775808 ≤ a) (ha1 : a ≤ 9223372036854775807) (hDL : DL = refC (blobDig l) a n) :
    Calls Try.prog 17 #[.int .i64 a, .slice A n c] w fun e w' => e = .returned (.agg DL.toArray) ∧ Below w.heap.size w w' := by
  obtain ⟨W, hW⟩ : ∃ W, W = w.alloc (.cells refZ.toArray 26) := ⟨_, rfl⟩
  have hR : Arr W w.heap.size 26 refZ := by rw [hW]; exact Arr.new w _ _
  have hWs : W.heap.size = w.heap.size + 1 := by rw [hW]; simp
  have hB : Below w.heap.size w W := by rw [hW]; exact (Below.refl _ w).alloc (Nat.le_refl _) _
  obtain ⟨V, hV⟩ : ∃ V, V = W.alloc (.cells #[.slice A n c] 33) := ⟨_, rfl⟩
  have hbV : Below W.heap.size W V := by rw [hV]; exact (Below.refl _ W).alloc (Nat.le_refl _) _
  have hrow : RowsAt V V.heap.size (some ⟨W.heap.size, 0, none⟩) [l] := by
    have h1 := rows_one (w := W) 33 hn hc hm (hb.below hB (Nat.le_refl _)) hB.size
    rw [hV]; exact h1.more (Nat.le_of_eq (by simp))
  have hlim : (tagF 3 [l]).length ≤ 1000000 := by
    unfold tagF
    have e1 := Lib.uvarint_length64 (x := l.length) (by omega)
    simp only [List.length_cons, List.flatMap_cons, List.flatMap_nil, List.length_append, List.length_nil]
    omega
  obtain ⟨SL, hSL⟩ : ∃ SL, SL = Lib.byteCells (blobDig l) := ⟨_, rfl⟩
  have Hb := Lib.hid (show Try.prog.built 26 [(0, .agg SL.toArray), (1, .int .i64 a), (2, .int .i64 n)] = some DL.toArray by rw [hDL]; exact ref_built (blobDig l) SL hSL (blobDig_length l) a n)
  have hdl : DL.length = 34 := by rw [hDL]; exact refC_length (blobDig_length l) _ _
  have hone : ∀ v ∈ DL, v.oneCell' = true := by rw [hDL]; exact refC_cell _ _ _
  have hi34 : (Try.prog.info? 26).map (·.size) = some DL.length := by rw [hdl]; exact refSize
  have HSL := Lib.hid hSL
  have HV := Lib.hid hV
  have HW := Lib.hid hW
  have HWs := Lib.hid hWs
  clear hV hW hSL hDL hWs
  go_enter Try.func17, Try.ntmps17
  go_wp2_with fail
  change Calls _ _ #[_, .slice (some ⟨w.heap.size + 1, 0, none⟩) 1 1] ((w.alloc (.cells refZ.toArray 26)).alloc (.cells #[.slice A n c] 33)) _
  rw [← HWs.out, ← HW.out, ← HV.out]
  refine Calls.mono (rtagged_atB 3 3 [l] SL (some ⟨W.heap.size, 0, none⟩) 1 1 V rfl HSL.out rfl (by omega) hrow hlim) ?_
  rintro e w5 ⟨rfl, hb5⟩
  have hR5 : Arr w5 w.heap.size 26 refZ := (hR.below hbV hR.lt).below hb5 (by have := hR.lt; have := hbV.size; omega)
  have h5 : Below w.heap.size w w5 := (hB.trans (hbV.mono hB.size)).trans (hb5.mono (Nat.le_trans hB.size hbV.size))
  have H0 : Hid (w5.heap[w.heap.size]? = some (.cells refZ.toArray 26 (0, 0))) := Lib.hid hR5
  have HI := Lib.hid (show (Try.prog.info? 26).map (·.size) = some DL.toArray.size by rw [List.size_toArray]; exact hi34)
  have HS := Lib.hid (show refZ.toArray.size = DL.toArray.size by rw [List.size_toArray, List.size_toArray, hdl]; rfl)
  have H1 := Lib.hid (show DL.toArray.all (·.oneCell') = true from all_oneCell_toArray hone)
  have hfin : Below w.heap.size w (w5.setRow w.heap.size DL.toArray) := h5.trans (((Only.refl (fun k => k = w.heap.size) w5).setRow (.inl rfl) DL.toArray).below h5.size (by rintro k rfl; omega))
  have hset : Arr (w5.setRow w.heap.size DL.toArray) w.heap.size 26 DL := hR5.setRow DL
  clear hR hB hbV hrow hlim hb5 hb hR5 h5
  go_wp2_with (first
    | (refine wpList_builtD rfl _ _ rfl _ rfl DL.toArray Hb.out ?_)
    | (refine wpList_store_row rfl _ _ _ rfl w.heap.size DL.toArray rfl rfl 26 refZ.toArray H0.out HI.out HS.out H1.out ?_))
  exact bodyPost_ret (v := .agg DL.toArray) (results_cell_row (by rfl) _ _ w.heap.size 26 DL.toArray (0, 0) _ (by rfl) hset Try.underlying26 rfl hi34) rfl ⟨rfl, hfin⟩


theorem ref_field0 {d : List UInt8} (hd : d.length = 32) (a n : Int) (DL SL : List Value) (hDL : DL = refC d a n) (hSL : SL = Lib.byteCells d) (w : World) : (Instr.field 26 (.agg DL.toArray) 0).run Try.prog w = .ok (.agg SL.toArray) w := by
  subst hDL hSL
  obtain ⟨f, g, h, hl, ⟨f1, f2, f3⟩, _⟩ := ref_list
  have h0 : (Try.prog.fieldsOf 26)[0]? = some f := by rw [← Array.getElem?_toList, hl]; rfl
  unfold Instr.field
  simp only [Sem.run_bind, run_underlying ref_under, Result.andThen_ok, h0, f2, f3, asAgg, Sem.run_pure]
  exact dig_part hd a n w
theorem dig_eqvC {X Y : List UInt8} (hX : X.length = 32) (hY : Y.length = 32) {XL YL : List Value} (hXL : XL = Lib.byteCells X) (hYL : YL = Lib.byteCells Y) (w : World) : (Op.equalIn 10000 24 (.agg XL.toArray) (.agg YL.toArray)).run Try.prog w = .ok (decide (X = Y)) w := by
  subst hXL hYL
  exact dig_eqv_at 9998 X Y hX hY w
theorem gtD : Try.prog.eqGuardType Try.prog.depth 24 = false := by kernel_rfl
set_option maxHeartbeats 4000000 in
set_option maxRecDepth 100000 in
theorem cdig_any (l : List UInt8) (SL : List Value) (A : Option Addr) (n c : Nat) (w : World) (hSL : SL = Lib.byteCells (blobDig l)) (hn : l.length = n) (hn2 : n ≤ 900000) (hc : n ≤ c) (hm : c ≤ maxLen) (hb : Bs w w.heap.size A l) :
    Calls Try.prog 16 #[.slice A n c] w fun e w' => e = .returned (.agg SL.toArray) ∧ Below w.heap.size w w' := by
  obtain ⟨ZL, hZL⟩ : ∃ z, z = Lib.byteCells zeros := ⟨_, rfl⟩
  obtain ⟨W, hW⟩ : ∃ W, W = w.alloc (.cells ZL.toArray 24) := ⟨_, rfl⟩
  have hR : Arr W w.heap.size 24 ZL := by rw [hW]; exact Arr.new w _ _
  have hB : Below w.heap.size w W := by rw [hW]; exact (Below.refl _ w).alloc (Nat.le_refl _) _
  obtain ⟨DL, hDL⟩ : ∃ z, z = refC (blobDig l) (0 : Nat) (n : Nat) := ⟨_, rfl⟩
  have hbW : Bs W W.heap.size A l := (hb.below hB (Nat.le_refl _)).more hB.size
  have hof := of_any 0 l DL A n c W hn hn2 hc hm hbW (by omega) (by omega) hDL
  have hfd : ∀ w, (Instr.field 26 (.agg DL.toArray) 0).run Try.prog w = .ok (.agg SL.toArray) w := fun w => ref_field0 (blobDig_length l) _ _ DL SL hDL hSL w
  have hSl : SL.length = 32 := by rw [hSL, Lib.byteCells_length]; exact blobDig_length l
  have HSi := Lib.hid (show (Try.prog.info? 24).map (·.size) = some SL.toArray.size by rw [List.size_toArray, hSl]; exact digInfo)
  have HSz := Lib.hid (show ZL.toArray.size = SL.toArray.size by rw [List.size_toArray, List.size_toArray, hSl, hZL]; rfl)
  have HS1 := Lib.hid (show SL.toArray.all (·.oneCell') = true by rw [hSL]; exact dig_one _)
  have HW := Lib.hid hW
  have Hof := Lib.hid hof
  have HZL := Lib.hid hZL
  clear hW hZL hDL hSL hbW hof hb hSl
  go_enter Try.func16, Try.ntmps16
  go_upto_region 1 with fail
  change Code.wp _ _ _ _ (w.alloc (.cells (Lib.byteCells zeros).toArray 24))
  rw [← HZL.out, ← HW.out]
  go_wp2_with fail
  refine Calls.mono Hof.out ?_
  rintro e w5 ⟨rfl, hb5⟩
  have hR5 := hR.below hb5 hR.lt
  have h5 : Below w.heap.size w w5 := hB.trans (hb5.mono hB.size)
  have H0 : Hid (w5.heap[w.heap.size]? = some (.cells ZL.toArray 24 (0, 0))) := Lib.hid hR5
  have hfin : Below w.heap.size w (w5.setRow w.heap.size SL.toArray) := h5.trans (((Only.refl (fun k => k = w.heap.size) w5).setRow (.inl rfl) SL.toArray).below h5.size (by rintro k rfl; omega))
  have hset : Arr (w5.setRow w.heap.size SL.toArray) w.heap.size 24 SL := hR5.setRow SL
  clear hR hB hb5 hR5 h5 Hof HW HZL
  go_wp2_with (first | (refine wpList_store_row rfl _ _ _ rfl w.heap.size SL.toArray rfl rfl 24 ZL.toArray H0.out HSi.out HSz.out HS1.out ?_))
  exact bodyPost_ret (v := .agg SL.toArray) (results_cell_row (by rfl) _ _ w.heap.size 24 SL.toArray (0, 0) _ (by rfl) hset Try.underlying24 rfl HSi.out) rfl ⟨rfl, hfin⟩

end Go.Proofs.Ytkepfigoeaheaaa

namespace Go.Proofs.Ytkepfigoeaheaaa
open Go.RowKit Go.ChangeShapes Go.WideShapes
set_option linter.unusedVariables false

theorem row_cell {H : Type} {enc : TypeId × Value → H} {W : World} {v : Value} {y : DataW H × List MemPlace} {n : Nat} (h : DataW.trod enc Try.prog W 0 (fun _ => true) true n 33 [v] = some y) :
    ∃ (A : Option Addr) (c : Nat) (l : List UInt8), v = .slice A l.length c ∧ l.length ≤ c ∧ c ≤ maxLen ∧ Bs W W.heap.size A l := by
  rcases open_ints Try.underlying33 Try.underlying5 (by kernel_rfl) h with ⟨hcs, _⟩ | ⟨x, l, c, zs, hcs, _, hl, hm, hz, _, hcell, hwz⟩
  · simp at hcs
    subst hcs
    exact ⟨none, 0, [], rfl, Nat.le_refl _, by unfold maxLen; omega, Bs.nil _ _ _⟩
  · simp at hcs
    subst hcs
    obtain ⟨l', hl', hb'⟩ := bs_of_ints (w := W) (len := l) (zs := zs) (by simp at hz; omega) hcell (fun n hn => bounds_u8 (hwz n hn))
    subst hl'
    exact ⟨some x, c, l', rfl, hl, hm, hb'⟩

theorem rows_arg {H : Type} {enc : TypeId × Value → H} {W : World} {A : Option Addr} {len cap : Nat} {d : DataW H} {p : List MemPlace} (h : DataW.Trod enc Try.prog W 0 (fun _ => true) true 28 (.slice A len cap) d p) :
    ∃ rs : List (List UInt8), rs.length = len ∧ len ≤ cap ∧ cap ≤ maxLen ∧ RowsAt W W.heap.size A rs := by
  obtain ⟨fuel, hf⟩ := h
  rcases Go.Deep.open_slice Try.underlying28 hf with ⟨h0, _⟩ | ⟨a, len', cap', m, n, D, Pl, hcs, _, hl, hm, hmm, _, hi⟩
  · simp [Value.cells] at h0
    obtain ⟨rfl, rfl, rfl⟩ := h0
    exact ⟨[], rfl, Nat.le_refl _, by unfold maxLen; omega, fun h => absurd h (by simp)⟩
  · simp [Value.cells] at hcs
    obtain ⟨rfl, rfl, rfl⟩ := hcs
    have hC : Try.prog.cellsOf 33 = 1 := by kernel_rfl
    have hle : len ≤ m := by rw [hmm]; split <;> omega
    have hall : ∀ i, i < len → ∃ l : List UInt8, ∃ A' c, W.cell? (a.add i) = some (.slice A' l.length c) ∧ l.length ≤ c ∧ c ≤ maxLen ∧ Bs W W.heap.size A' l := by
      intro i him
      obtain ⟨cs', hc, ht'⟩ := hi i (by omega)
      rw [hC] at hc
      obtain ⟨_, hcl, hat⟩ := World.cells?_some hc
      match cs', hcl with
      | [v], _ =>
        obtain ⟨A', c, l, rfl, h1, h2, h3⟩ := row_cell ht'
        have h0 := hat 0 (by omega)
        refine ⟨l, A', c, ?_, h1, h2, h3⟩
        rw [Go.Deep.add_add] at h0
        simpa using h0
    have hch : ∃ f : Nat → List UInt8, ∀ i, i < len → ∃ A' c, W.cell? (a.add i) = some (.slice A' (f i).length c) ∧ (f i).length ≤ c ∧ c ≤ maxLen ∧ Bs W W.heap.size A' (f i) := by
      classical
      refine ⟨fun i => if hi : i < len then Classical.choose (hall i hi) else [], fun i hi => ?_⟩
      simp only [dif_pos hi]
      exact Classical.choose_spec (hall i hi)
    clear hall
    obtain ⟨f, hf2⟩ := hch
    refine ⟨(List.range len).map f, by simp, hl, hm, fun hp => ?_⟩
    have hp' : 0 < len := by simpa using hp
    obtain ⟨b, off, spot⟩ := a
    obtain ⟨_, _, hc0, _⟩ := hf2 0 hp'
    have hspot : spot = none := by simpa [Addr.add] using World.cell?_spot hc0
    subst hspot
    refine ⟨b, off, rfl, World.block_lt_of_cell? W _ (by simpa [Addr.add] using hc0), fun i hi => ?_⟩
    have hi' : i < len := by simpa using hi
    obtain ⟨A', c, g0, g1, g2, g3⟩ := hf2 i hi'
    have hadd : (⟨b, off, none⟩ : Addr).add i = ⟨b, off + i, none⟩ := by unfold Addr.add; split <;> simp_all
    rw [hadd] at g0
    have hg : ((List.range len).map f).getD i [] = f i := by simp [List.getD, hi']
    rw [hg]
    exact ⟨A', c, g0, g1, g2, g3⟩

end Go.Proofs.Ytkepfigoeaheaaa

namespace Go.Proofs.Ytkepfigoeaheaaa
open Go.RowKit Go.ChangeShapes Go.WideShapes
set_option maxRecDepth 100000
set_option linter.unusedVariables false
set_option linter.unusedSimpArgs false

theorem dig_cellsN {H : Type} {enc : TypeId × Value → H} {W : World} {base : Nat} {sp : Nat → Bool} {held : Bool} {m : Nat} {cs : List Value} {x : DataW H × List MemPlace} (hl : cs.length = 32) (h : DataW.trod enc Try.prog W base sp held m 24 cs = some x) : ∃ l : List UInt8, l.length = 32 ∧ cs = Lib.byteCells l := by
  have hr : ∃ l : List UInt8, l.length = 32 ∧ (.agg cs.toArray : Value) = digV l := by
    obtain ⟨xs, m', _, _, hlen, hn, hel⟩ := DataW.trod_array Try.underlying24 h
    have hc1 : Try.prog.cellsOf 5 = 1 := by kernel_rfl
    have hall : ∀ i, i < 32 → ∃ b : UInt8, cs[i]? = some (.int .u8 (b.toNat : Nat)) := by
      intro i hi
      have h1 := hel i hi
      rw [hc1, Nat.mul_one] at h1
      have hx : xs[i]? = some (xs[i]'(by omega)) := List.getElem?_eq_getElem (by omega)
      rw [hx] at h1
      have hd : ((cs.drop i).take 1) = [cs[i]'(by omega)] := by rw [List.drop_eq_getElem_cons (by omega)]; rfl
      rw [hd] at h1
      obtain ⟨k, e, _, hw⟩ := DataW.trod_int Try.underlying5 h1
      have hb := bounds_u8 hw
      simp only [List.cons.injEq, and_true] at e
      refine ⟨k.toNat.toUInt8, ?_⟩
      rw [List.getElem?_eq_getElem (by omega), e, Lib.toUInt8_toNat (by omega), Int.toNat_of_nonneg hb.1]
    have hch : ∃ f : Nat → UInt8, ∀ i, i < 32 → cs[i]? = some (.int .u8 ((f i).toNat : Nat)) := by
      classical
      refine ⟨fun i => if hi : i < 32 then Classical.choose (hall i hi) else 0, fun i hi => ?_⟩
      simp only [dif_pos hi]
      exact Classical.choose_spec (hall i hi)
    obtain ⟨f, hf2⟩ := hch
    refine ⟨(List.range 32).map f, by simp, ?_⟩
    unfold digV
    congr 2
    apply List.ext_getElem?
    intro i
    by_cases hi : i < 32
    · rw [hf2 i hi]
      simp [Lib.byteCells, hi]
    · rw [List.getElem?_eq_none (by omega), List.getElem?_eq_none (by simp [Lib.byteCells]; omega)]
  obtain ⟨l, h1, h2⟩ := hr
  refine ⟨l, h1, ?_⟩
  unfold digV at h2
  injection h2 with h2
  simpa using congrArg Array.toList h2

theorem int_cellN {H : Type} {enc : TypeId × Value → H} {W : World} {base : Nat} {sp : Nat → Bool} {held : Bool} {v : Value} {y : DataW H × List MemPlace} {n : Nat} (h : DataW.trod enc Try.prog W base sp held n 3 [v] = some y) :
    ∃ z, v = .int .i64 z ∧ -9223372036854775808 ≤ z ∧ z ≤ 9223372036854775807 := by
  obtain ⟨z, hcs, _, hw⟩ := DataW.trod_int Try.underlying3 h
  simp at hcs
  exact ⟨z, hcs, bounds_i64 hw⟩


theorem cells_cut (cs : List Value) (a n : Nat) : (cs.drop a).take n ++ cs.drop (a + n) = cs.drop a := by
  rw [← List.drop_drop]; exact List.take_append_drop n (cs.drop a)
theorem u64_cellC {H : Type} {enc : TypeId × Value → H} {W : World} {base : Nat} {sp : Nat → Bool} {held : Bool} {v : Value} {y : DataW H × List MemPlace} {n : Nat} (h : DataW.trod enc Try.prog W base sp held n 22 [v] = some y) :
    ∃ z : Nat, v = .int .u64 (z : Nat) ∧ z < 18446744073709551616 := by
  obtain ⟨z, hcs, _, hw⟩ := DataW.trod_int Try.underlying22 h
  simp at hcs
  have hb := bounds_u64 hw
  refine ⟨z.toNat, ?_, by omega⟩
  rw [hcs, Int.toNat_of_nonneg (by omega)]
theorem ref_cells {H : Type} {enc : TypeId × Value → H} {W : World} {base : Nat} {sp : Nat → Bool} {held : Bool} {m : Nat} {cs : List Value} {x : DataW H × List MemPlace} (hl : cs.length = 34) (hf : DataW.trod enc Try.prog W base sp held m 26 cs = some x) :
    ∃ r : RefF, RefW r ∧ cs = rC r := by
  obtain ⟨ys, n', _, _, hlen, hyl, hff⟩ := DataW.trod_struct Try.underlying26 hf
  have g : ∀ j (hj : j < ys.length), ys[j]? = some (ys[j]) := fun j hj => List.getElem?_eq_getElem hj
  have hy3 : ys.length = 3 := hyl
  have c0 : DataW.trod enc Try.prog W base sp held n' 24 ((cs.drop 0).take (Try.prog.cellsOf 24)) = ys[0]? := hff 0 _ rfl
  have c1 : DataW.trod enc Try.prog W base sp held n' 3 ((cs.drop 32).take (Try.prog.cellsOf 3)) = ys[1]? := hff 1 _ rfl
  have c2 : DataW.trod enc Try.prog W base sp held n' 3 ((cs.drop 33).take (Try.prog.cellsOf 3)) = ys[2]? := hff 2 _ rfl
  have k1 : Try.prog.cellsOf 3 = 1 := by kernel_rfl
  have k32 : Try.prog.cellsOf 24 = 32 := by kernel_rfl
  rw [k32, g 0 (by omega)] at c0
  rw [k1, g 1 (by omega), show (cs.drop 32).take 1 = [cs[32]'(by omega)] by rw [List.drop_eq_getElem_cons (by omega)]; rfl] at c1
  rw [k1, g 2 (by omega), show (cs.drop 33).take 1 = [cs[33]'(by omega)] by rw [List.drop_eq_getElem_cons (by omega)]; rfl] at c2
  obtain ⟨l, h32, e0⟩ := dig_cellsN (by rw [List.length_take, List.length_drop]; omega) c0
  obtain ⟨a, e1, ha⟩ := int_cellN c1
  obtain ⟨n, e2, hn⟩ := int_cellN c2
  refine ⟨⟨l, a, n⟩, ⟨h32, ha, hn⟩, ?_⟩
  show cs = refC l a n
  unfold refC
  rw [← e1, ← e2, ← e0]
  have t2 : cs.drop 32 = [cs[32]'(by omega), cs[33]'(by omega)] := by rw [List.drop_eq_getElem_cons (by omega), List.drop_eq_getElem_cons (by omega), List.drop_of_length_le (by omega)]
  rw [← t2]
  exact (cells_cut cs 0 32).symm
theorem bin_cells {H : Type} {enc : TypeId × Value → H} {W : World} {base : Nat} {sp : Nat → Bool} {held : Bool} {m : Nat} {cs : List Value} {x : DataW H × List MemPlace} (hl : cs.length = 35) (hf : DataW.trod enc Try.prog W base sp held m 72 cs = some x) :
    ∃ b : BinF, BinW b ∧ cs = bC b := by
  obtain ⟨ys, n', _, _, hlen, hyl, hff⟩ := DataW.trod_struct Try.underlying72 hf
  have g : ∀ j (hj : j < ys.length), ys[j]? = some (ys[j]) := fun j hj => List.getElem?_eq_getElem hj
  have hy3 : ys.length = 4 := hyl
  have c0 : DataW.trod enc Try.prog W base sp held n' 3 ((cs.drop 0).take (Try.prog.cellsOf 3)) = ys[0]? := hff 0 _ rfl
  have c1 : DataW.trod enc Try.prog W base sp held n' 3 ((cs.drop 1).take (Try.prog.cellsOf 3)) = ys[1]? := hff 1 _ rfl
  have c2 : DataW.trod enc Try.prog W base sp held n' 3 ((cs.drop 2).take (Try.prog.cellsOf 3)) = ys[2]? := hff 2 _ rfl
  have c3 : DataW.trod enc Try.prog W base sp held n' 24 ((cs.drop 3).take (Try.prog.cellsOf 24)) = ys[3]? := hff 3 _ rfl
  have k1 : Try.prog.cellsOf 3 = 1 := by kernel_rfl
  have k32 : Try.prog.cellsOf 24 = 32 := by kernel_rfl
  rw [k1, g 0 (by omega), show (cs.drop 0).take 1 = [cs[0]'(by omega)] by rw [List.drop_eq_getElem_cons (by omega)]; rfl] at c0
  rw [k1, g 1 (by omega), show (cs.drop 1).take 1 = [cs[1]'(by omega)] by rw [List.drop_eq_getElem_cons (by omega)]; rfl] at c1
  rw [k1, g 2 (by omega), show (cs.drop 2).take 1 = [cs[2]'(by omega)] by rw [List.drop_eq_getElem_cons (by omega)]; rfl] at c2
  rw [k32, g 3 (by omega)] at c3
  obtain ⟨x, e0, hx⟩ := int_cellN c0
  obtain ⟨a, e1, ha⟩ := int_cellN c1
  obtain ⟨n, e2, hn⟩ := int_cellN c2
  obtain ⟨l, h32, e3⟩ := dig_cellsN (by rw [List.length_take, List.length_drop]; omega) c3
  refine ⟨⟨x, a, n, l⟩, ⟨hx, ha, hn, h32⟩, ?_⟩
  show cs = binC x a n l
  unfold binC
  rw [← e0, ← e1, ← e2, ← e3, List.take_of_length_le (by rw [List.length_drop]; omega)]
  conv => lhs; rw [← List.drop_zero (l := cs), List.drop_eq_getElem_cons (by omega), List.drop_eq_getElem_cons (by omega), List.drop_eq_getElem_cons (by omega)]
theorem bins_cells {H : Type} {enc : TypeId × Value → H} {W : World} {v : Value} {fuel : Nat} {y : DataW H × List MemPlace} (hf : DataW.trod enc Try.prog W 0 (fun _ => true) true fuel 27 [v] = some y) :
    ∃ (A : Option Addr) (bs : List BinF) (cap : Nat), v = .slice A bs.length cap ∧ bs.length ≤ cap ∧ cap ≤ maxLen ∧ (∀ b ∈ bs, BinW b) ∧ RowOf bC 35 W W.heap.size A bs := by
  rcases Go.Deep.open_slice Try.underlying27 hf with ⟨h0, _⟩ | ⟨a, len, cap, m, n, D, Pl, hcs, _, hl, hm, hmm, _, hi⟩
  · simp at h0
    subst h0
    exact ⟨none, [], 0, rfl, Nat.le_refl _, by unfold maxLen; omega, by simp, fun h => absurd h (by simp)⟩
  · simp at hcs
    subst hcs
    have hC : Try.prog.cellsOf 72 = 35 := by kernel_rfl
    have hle : len ≤ m := by rw [hmm]; split <;> omega
    have hall : ∀ i, i < len → ∃ b : BinF, BinW b ∧ ∀ j u, (bC b)[j]? = some u → W.cell? (a.add (i * 35 + j)) = some u := by
      intro i him
      obtain ⟨cs', hc, ht'⟩ := hi i (by omega)
      rw [hC] at hc
      obtain ⟨_, hcl, hat⟩ := World.cells?_some hc
      obtain ⟨b, hb, rfl⟩ := bin_cells hcl ht'
      refine ⟨b, hb, fun j u hj => ?_⟩
      have hj35 : j < 35 := by have := (List.getElem?_eq_some_iff.1 hj).1; rw [bC_length hb] at this; omega
      have h0 := hat j hj35
      rw [Go.Deep.add_add] at h0
      rw [h0, hj]
    have hch : ∃ f : Nat → BinF, ∀ i, i < len → BinW (f i) ∧ ∀ j u, (bC (f i))[j]? = some u → W.cell? (a.add (i * 35 + j)) = some u := by
      classical
      refine ⟨fun i => if hi : i < len then Classical.choose (hall i hi) else zB, fun i hi => ?_⟩
      simp only [dif_pos hi]
      exact Classical.choose_spec (hall i hi)
    clear hall
    obtain ⟨f, hf2⟩ := hch
    refine ⟨some a, (List.range len).map f, cap, by simp, by simpa using hl, hm, ?_, fun hp => ?_⟩
    · intro b hb
      simp only [List.mem_map, List.mem_range] at hb
      obtain ⟨i, hi', rfl⟩ := hb
      exact (hf2 i hi').1
    · have hp' : 0 < len := by simpa using hp
      obtain ⟨b, off, spot⟩ := a
      obtain ⟨hw0, hc0⟩ := hf2 0 hp'
      have hc00 := hc0 0 (.int .i64 (f 0).x) rfl
      have hspot : spot = none := by simpa [Addr.add] using World.cell?_spot hc00
      subst hspot
      refine ⟨b, off, rfl, World.block_lt_of_cell? W _ (by simpa [Addr.add] using hc00), fun i x hx j u hj => ?_⟩
      have hi' : i < len := by have := (List.getElem?_eq_some_iff.1 hx).1; simpa using this
      have hg : x = f i := by simp [hi'] at hx; exact hx.symm
      rw [hg] at hj
      have h1 := (hf2 i hi').2 j u hj
      have hadd : (⟨b, off, none⟩ : Addr).add (i * 35 + j) = ⟨b, off + i * 35 + j, none⟩ := by unfold Addr.add; split <;> simp_all <;> omega
      rwa [hadd] at h1
theorem rows_cells {H : Type} {enc : TypeId × Value → H} {W : World} {v : Value} {fuel : Nat} {y : DataW H × List MemPlace} (hf : DataW.trod enc Try.prog W 0 (fun _ => true) true fuel 28 [v] = some y) :
    ∃ (A : Option Addr) (rs : List (List UInt8)) (cap : Nat), v = .slice A rs.length cap ∧ rs.length ≤ cap ∧ cap ≤ maxLen ∧ RowsAt W W.heap.size A rs := by
  have hv : ∃ A len cap, v = .slice A len cap := by
    rcases Go.Deep.open_slice Try.underlying28 hf with ⟨h0, _⟩ | ⟨a, len, cap, m, n, D, Pl, hcs, _⟩
    · simp at h0; exact ⟨_, _, _, h0⟩
    · simp at hcs; exact ⟨_, _, _, hcs⟩
  obtain ⟨A, len, cap, rfl⟩ := hv
  obtain ⟨rs, hl, hc, hm, hr⟩ := rows_arg (d := y.1) (p := y.2) ⟨fuel, hf⟩
  subst hl
  exact ⟨A, rs, cap, rfl, hc, hm, hr⟩
theorem com_open {H : Type} {enc : TypeId × Value → H} {W : World} {r : Reach} {b0 : Nat} {v : Value} {d : DataW H} {p : List MemPlace}
    (hv : Value.okWide Try.prog W r b0 30 v) (h : DataW.Trod enc Try.prog W 0 (fun _ => true) true 30 v d p) :
    ∃ x : Cx, CxOk W W.heap.size x ∧ v = .agg (comC x).toArray := by
  have hT := Try.underlying30
  obtain ⟨cs0, rfl, hsz, _⟩ : ∃ cs, v = .agg cs ∧ cs.size = Try.prog.cellsOf 30 ∧ Row.okWide Try.prog W r b0 30 cs := by
    simpa [Value.okWide, hT] using hv
  obtain ⟨fuel, hf⟩ := h
  have hC : Try.prog.cellsOf 30 = 137 := by kernel_rfl
  rw [hC] at hsz
  obtain ⟨cs⟩ := cs0
  have hl : cs.length = 137 := hsz
  obtain ⟨ys, n', _, _, hlen, hyl, hff⟩ := DataW.trod_struct Try.underlying30 hf
  have hcs : (Value.agg cs.toArray).cells.toList = cs := by simp [Value.cells]
  have g : ∀ j (hj : j < ys.length), ys[j]? = some (ys[j]) := fun j hj => List.getElem?_eq_getElem hj
  have hy7 : ys.length = 7 := hyl
  have c0 : DataW.trod enc Try.prog W 0 (fun _ => true) true n' 22 ((cs.drop 0).take (Try.prog.cellsOf 22)) = ys[0]? := hcs ▸ hff 0 _ rfl
  rw [show Try.prog.cellsOf 22 = 1 by kernel_rfl, g 0 (by omega), show (cs.drop 0).take 1 = [cs[0]'(by omega)] by rw [List.drop_eq_getElem_cons (by omega)]; rfl] at c0
  have c1 : DataW.trod enc Try.prog W 0 (fun _ => true) true n' 26 ((cs.drop 1).take (Try.prog.cellsOf 26)) = ys[1]? := hcs ▸ hff 1 _ rfl
  rw [show Try.prog.cellsOf 26 = 34 by kernel_rfl, g 1 (by omega)] at c1
  have c2 : DataW.trod enc Try.prog W 0 (fun _ => true) true n' 26 ((cs.drop 35).take (Try.prog.cellsOf 26)) = ys[2]? := hcs ▸ hff 2 _ rfl
  rw [show Try.prog.cellsOf 26 = 34 by kernel_rfl, g 2 (by omega)] at c2
  have c3 : DataW.trod enc Try.prog W 0 (fun _ => true) true n' 26 ((cs.drop 69).take (Try.prog.cellsOf 26)) = ys[3]? := hcs ▸ hff 3 _ rfl
  rw [show Try.prog.cellsOf 26 = 34 by kernel_rfl, g 3 (by omega)] at c3
  have c4 : DataW.trod enc Try.prog W 0 (fun _ => true) true n' 27 ((cs.drop 103).take (Try.prog.cellsOf 27)) = ys[4]? := hcs ▸ hff 4 _ rfl
  rw [show Try.prog.cellsOf 27 = 1 by kernel_rfl, g 4 (by omega), show (cs.drop 103).take 1 = [cs[103]'(by omega)] by rw [List.drop_eq_getElem_cons (by omega)]; rfl] at c4
  have c5 : DataW.trod enc Try.prog W 0 (fun _ => true) true n' 24 ((cs.drop 104).take (Try.prog.cellsOf 24)) = ys[5]? := hcs ▸ hff 5 _ rfl
  rw [show Try.prog.cellsOf 24 = 32 by kernel_rfl, g 5 (by omega)] at c5
  have c6 : DataW.trod enc Try.prog W 0 (fun _ => true) true n' 28 ((cs.drop 136).take (Try.prog.cellsOf 28)) = ys[6]? := hcs ▸ hff 6 _ rfl
  rw [show Try.prog.cellsOf 28 = 1 by kernel_rfl, g 6 (by omega), show (cs.drop 136).take 1 = [cs[136]'(by omega)] by rw [List.drop_eq_getElem_cons (by omega)]; rfl] at c6
  obtain ⟨ep, e0, hep⟩ := u64_cellC c0
  obtain ⟨r1, hr1, e1⟩ := ref_cells (by rw [List.length_take, List.length_drop]; omega) c1
  obtain ⟨r2, hr2, e2⟩ := ref_cells (by rw [List.length_take, List.length_drop]; omega) c2
  obtain ⟨r3, hr3, e3⟩ := ref_cells (by rw [List.length_take, List.length_drop]; omega) c3
  obtain ⟨Ab, bs, cb, e4, hlb, hmb, hbw, hbs⟩ := bins_cells c4
  obtain ⟨st, hst, e5⟩ := dig_cellsN (by rw [List.length_take, List.length_drop]; omega) c5
  obtain ⟨Ae, rs, ce, e6, hle, hme, hrs⟩ := rows_cells c6
  refine ⟨⟨⟨ep, r1, r2, r3, bs, st, rs⟩, Ab, cb, Ae, ce⟩, ⟨hep, hr1, hr2, hr3, hbw, hst, hlb, hmb, hle, hme, hbs, hrs⟩, ?_⟩
  congr 2
  show cs = comV ep (rC r1) (rC r2) (rC r3) (.slice Ab bs.length cb) (Lib.byteCells st) (.slice Ae rs.length ce)
  unfold comV
  rw [← e0, ← e1, ← e2, ← e3, ← e4, ← e5, ← e6]
  have t6 : cs.drop 136 = [cs[136]'(by omega)] := by rw [List.drop_eq_getElem_cons (by omega), List.drop_of_length_le (by omega)]
  have t5 : (cs.drop 104).take 32 ++ cs.drop 136 = cs.drop 104 := cells_cut cs 104 32
  have t4 : cs[103]'(by omega) :: cs.drop 104 = cs.drop 103 := (List.drop_eq_getElem_cons (by omega)).symm
  have t3 : (cs.drop 69).take 34 ++ cs.drop 103 = cs.drop 69 := cells_cut cs 69 34
  have t2 : (cs.drop 35).take 34 ++ cs.drop 69 = cs.drop 35 := cells_cut cs 35 34
  have t1 : (cs.drop 1).take 34 ++ cs.drop 35 = cs.drop 1 := cells_cut cs 1 34
  have t0 : cs[0]'(by omega) :: cs.drop 1 = cs := (List.drop_eq_getElem_cons (l := cs) (i := 0) (by omega)).symm
  rw [← t6, t5, t4, t3, t2, t1, t0]

end Go.Proofs.Ytkepfigoeaheaaa

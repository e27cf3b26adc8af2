/-
  PackOne answers true, and writes nothing that was there.
-/
import Derived.Test.YtopiiebdmddigaaSpeaks
import Derived.Test.YtopiiebdmddigaaBytes
import Derived.Test.YtopiiebdmddigaaPackMath
import Derived.OpenShut
namespace Go.Proofs.Ytopiiebdmddigaa
open Go.RowKit
set_option linter.unusedVariables false

set_option maxHeartbeats 8000000 in
set_option maxRecDepth 100000 in
theorem one_walk (v : Nat) (hv : v < 18446744073709551616) (w : Nat) (hw : w < 18446744073709551616) (A : Option Addr) (cap : Nat) (b : List UInt8) (hc : b.length ≤ cap) (hm : cap ≤ maxLen) (cut : Int) (hlo : -9223372036854775808 ≤ cut) (hhi : cut ≤ 9223372036854775807) (W : World) (hA : Bs W W.heap.size A b) :
    Calls Try.prog 5 #[.int .u64 v, .int .u64 w, .slice A b.length cap, .int .i64 cut] W fun e w' => e = .returned (.bool true) ∧ Below W.heap.size W w' := by
  obtain ⟨i0, hi, hz0, hz1, hz2⟩ := info_parts byteInfo
  have hm63 : cap ≤ 9223372036854775807 := by unfold maxLen at hm; omega
  by_cases hbig : 1000 < b.length
  · go_enter Try.func5, Try.ntmps5
    go_wp2_with fail
    refine (speaks_true _).mono ?_
    rintro e w1 ⟨rfl, hb1⟩
    go_wp2_with fail
    go_ret
    exact ⟨rfl, hb1⟩
  · have hbl : b.length ≤ 1000 := by omega
    clear hbig
    have hX1 := Lib.uvarint_pos v
    have hX2 := Lib.uvarint_length64 hv
    have hY1 := Lib.uvarint_pos w
    have hY2 := Lib.uvarint_length64 hw
    have Hpre := Lib.hid (uv_prefix v w)
    go_enter Try.func5, Try.ntmps5
    go_wp2_with fail
    refine (speaks_true _).mono ?_
    rintro e w1 ⟨rfl, hb1⟩
    go_wp2_with fail
    refine (number_nil v (by omega) (by omega) _).mono ?_
    rintro e w2 ⟨A1, c1, rfl, hx, hb2⟩
    rw [Int.toNat_natCast] at hx ⊢
    go_wp2_with fail
    refine (number_nil w (by omega) (by omega) _).mono ?_
    rintro e w3 ⟨A2, c2, rfl, hy, hb3⟩
    rw [Int.toNat_natCast] at hy ⊢
    have hbW : Below W.heap.size W w3 := (hb1.trans (hb2.mono hb1.size)).trans (hb3.mono (Nat.le_trans hb1.size hb2.size))
    have hxlt := hx.lt
    have hx3 := hx.below hb3 (fun k hk => (hxlt k hk).2)
    have hA3 := hA.below hbW (Nat.le_refl _)
    have hs3 := hb3.size
    obtain ⟨_, _, e1, hxc, hxm, hxb⟩ := hx3.slice
    cases e1
    obtain ⟨_, _, e2, hyc, hym, hyb⟩ := hy.slice
    cases e2
    generalize hXe : Lib.uvarint v = X at *
    generalize hYe : Lib.uvarint w = Y at *
    have HX := Lib.hid hXe
    have HY := Lib.hid hYe
    clear hXe hYe
    obtain ⟨n, hn⟩ : ∃ n, n = min X.length Y.length := ⟨_, rfl⟩
    have hmin : min (X.length : Int) (Y.length : Int) = (n : Int) := by omega
    have hnX : n ≤ X.length := by omega
    have hnY : n ≤ Y.length := by omega
    have htX : Hid ((X.take n).length = n) := by show _ = _; rw [List.length_take]; omega
    have htY : Hid ((Y.take n).length = n) := by show _ = _; rw [List.length_take]; omega
    have hpre : X.take n = Y.take n ↔ v = w := Hpre.out n hn
    obtain ⟨bx, ox, rfl, hbx, hcx⟩ := hxb (by omega)
    have hxb : Bs w3 w3.heap.size (some ⟨bx, ox, none⟩) X := fun _ => ⟨bx, ox, rfl, hbx, hcx⟩
    have hXc : ∀ j u, (Lib.byteCells X)[j]? = some u → w3.cell? ((⟨bx, ox, none⟩ : Addr).add j) = some u := by
      intro j u hj
      obtain ⟨ad, e, h⟩ := hxb.cells (by have := (List.getElem?_eq_some_iff.1 hj).1; omega)
      injection e with e
      subst e
      exact h j u hj
    have HXc := Lib.hid hXc
    have Hcx := Lib.hid hcx
    have HXl := Lib.hid (show (Lib.byteCells X).length = X.length * 1 by simp [Lib.byteCells])
    have HX1 := Lib.hid (byteCells_one X)
    clear hXc hcx
    have Hpre2 := Lib.hid hpre
    have Hn := Lib.hid hn
    have hc1 : c1 ≤ 9223372036854775807 := by unfold maxLen at hxm; omega
    have hc2 : c2 ≤ 9223372036854775807 := by unfold maxLen at hym; omega
    clear hpre hn
    obtain ⟨bb, hd, hvwb⟩ : ∃ bb, Hid (decide (X.take n = Y.take n) = bb) ∧ ((v : Int) == (w : Int)) = bb := by
      by_cases hvw : v = w
      · exact ⟨true, decide_eq_true (Hpre2.out.2 hvw), by rw [beq_iff_eq]; omega⟩
      · exact ⟨false, decide_eq_false (fun h => hvw (Hpre2.out.1 h)), by rw [beq_eq_false_iff_ne]; omega⟩
    go_wp2_with fail
    go_quiet ((go_at_call 15; exact Calls.quiet_of (same_n _ _ _ _ _ _ n n (X.take n) (Y.take n) _ bb ((hxb.take).drewN _) ((hyb.take).drewN _) htX.out htY.out (by unfold maxLen; omega) (by unfold maxLen; omega) hd.out)))
    go_wp2_with (at_builtin; refine wpList_append_own_at _ rfl _ _ 25 rfl w3.heap.size 5 i0 (.int .u8 0) 1 1 Try.underlying25 hi hz0 hz1 hz2 rfl (by decide) _ 0 [] rfl ?c0 ⟨bx, ox, none⟩ X.length c1 (Lib.byteCells X) rfl HXl.out ?c1 HX1.out ?c3 ?c4 ?c5 ?_)
    case c0 => exact ⟨by simp, .inr ⟨w3.heap.size, 0, #[], rfl, Nat.le_refl _, heap_alloc_new w3 _, Nat.le_refl _, by unfold maxLen; omega, by simp, by simp⟩⟩
    case c1 =>
      intro j u hj
      have h := HXc.out j u hj
      rw [← h]
      exact World.cell?_alloc_lt w3 _ _ (World.block_lt_of_cell? w3 _ h)
    case c3 => unfold maxLen; omega
    case c4 => omega
    case c5 => simp
    intro v4 w4 hown4 hgrow4 _ hplace4
    clear hz0 hz1 hz2 hi hplace4
    have hrow : ∀ k, (Value.slice (some ⟨w3.heap.size, 0, none⟩) 0 0).ownBlock = some k → w3.heap.size ≤ k := fun k hk => by
      simp only [Value.ownBlock, Option.some.injEq] at hk
      omega
    have hb4 : Below w3.heap.size w3 w4 := ((Below.dN (Below.refl _ w3) _).alloc (Nat.le_refl _) _).grown hgrow4 (by simp) hrow
    clear hrow
    have hW3 := hbW.size
    have hbW4 := hbW.trans (hb4.mono hW3)
    have hs4 := hb4.size
    have HU := Lib.hid (show Lib.uvarint b.length = Lib.uvarint b.length from rfl)
    go_wp2_with fail
    refine (bytes_any w3.heap.size v4 X b A cap w4 hown4 hs4 ((hA.below hbW4 (Nat.le_refl _)).more hW3) hc (by omega)).mono ?_
    rintro e w5 ⟨v5, rfl, hall, hg5⟩
    have hl4 := World.ownsRow.lt hown4
    have hbW5 := hbW4.trans ((hg5.below hs4 (fun k hk => (hl4 k hk).1)).mono hW3)
    have hU2 := Lib.uvarint_length64 (x := b.length) (by omega)
    obtain ⟨A5, c5, rfl, h5c, h5m, h5b⟩ := hall.slice
    have hLlen : (X ++ (Lib.uvarint b.length ++ b)).length ≤ 2000 ∧ 0 < (X ++ (Lib.uvarint b.length ++ b)).length := by simp only [List.length_append]; omega
    have Hcut := Lib.hid (cut_wrong v · b hv (by omega))
    rw [HX.out] at Hcut
    obtain ⟨M, hM⟩ : ∃ M, M = Lib.uvarint b.length ++ b := ⟨_, rfl⟩
    rw [← hM] at h5c h5b hLlen hall Hcut hg5 ⊢
    obtain ⟨L, hL⟩ : ∃ L, L = X ++ M := ⟨_, rfl⟩
    rw [← hL] at h5c h5b hLlen hall Hcut hg5 ⊢
    obtain ⟨hL1, hL2⟩ := hLlen
    have hn1 : numF v L = (v, M, false) := by rw [hL, ← HX.out]; exact numF_uv v M hv
    have hn2 : bytesF b.length M = (b, [], false) := by
      have := bytesF_uv b [] (by omega)
      rw [List.append_nil] at this
      rw [hM]; exact this
    have HN1 := Lib.hid hn1
    have HN2 := Lib.hid hn2
    have HM := Lib.hid hM
    have HL := Lib.hid hL
    have Hall := Lib.hid hall
    have Hg5 := Lib.hid hg5
    have h5m' : c5 ≤ 9223372036854775807 := by unfold maxLen at h5m; omega
    clear hn1 hn2 hM hL hall hg5
    go_wp2_with fail
    refine (from_any _ A5 c5 L w5 h5b (by omega)).mono ?_
    rintro e w6 ⟨p, rfl, hp5, hpin, hb6⟩
    have hbW6 := hbW5.trans (hb6.mono hbW5.size)
    go_wp2_with fail
    refine (number_in p v L false w6 hpin hv).mono ?_
    rintro e w7 ⟨rfl, hp7, ht7⟩
    rw [HN1.out] at hp7 ⊢
    have hW6 := hbW6.size
    have hW5 := hbW5.size
    have hbW7 := hbW6.trans (ht7.below hW6 (Nat.le_trans hW5 hp5))
    go_wp2_with fail
    refine (bytes_in p b.length M _ w7 hp7 (by omega) (by omega)).mono ?_
    rintro e w8 ⟨A8, c8, rfl, h8a, h8b, h8c, hp8, ht8⟩
    rw [HN2.out] at h8a h8c hp8 ⊢
    have hbW8 := hbW7.trans (ht8.below hbW7.size (Nat.le_trans hW5 hp5))
    go_wp2_with fail
    refine (same_n _ _ A8 A c8 cap b.length b.length b b w8 true h8c (hA.below hbW8 (Nat.le_refl _)) rfl rfl (by unfold maxLen; omega) (by unfold maxLen; omega) (decide_eq_true rfl)).mono ?_
    rintro e w9 ⟨rfl, k9, rfl⟩
    go_wp2_with fail
    refine (done_in p [] _ _ (hp8.drewN k9)).mono ?_
    rintro e w10 ⟨rfl, rfl⟩
    rw [show doneF [] (false || false || false) = 0 from rfl]
    obtain ⟨m, hand, hm16⟩ := and_ffff cut
    obtain ⟨k, hk⟩ : ∃ k, k = m % L.length := ⟨_, rfl⟩
    have hkL : k < L.length := by rw [hk]; exact Nat.mod_lt _ hL2
    have hrem : ((m : Int) % (L.length : Int)) = (k : Int) := by rw [hk]; simp
    have hcut3 := Hcut.out k hkL
    have Hcut3 := Lib.hid hcut3
    have hkc : k ≤ c5 := by omega
    clear hk hcut3
    have h5b8 : Bs (w8.drewN k9) w5.heap.size A5 L := by
      have h1 := h5b.below hb6 (Nat.le_refl _)
      have h2 := h1.below (ht7.below hb6.size hp5) (Nat.le_refl _)
      exact (h2.below (ht8.below (Nat.le_trans hb6.size ht7.size) hp5) (Nat.le_refl _)).drewN _
    have hbW9 : Below W.heap.size W (w8.drewN k9) := Below.dN hbW8 _
    go_wp2_with fail
    refine (from_n _ A5 c5 k (L.take k) _ h5b8.take (by rw [List.length_take]; omega) (by omega)).mono ?_
    rintro e w11 ⟨p2, rfl, hp25, hpin2, hb11⟩
    have hbW11 := hbW9.trans (hb11.mono hbW9.size)
    have hq : Hid (∃ q, numF v (L.take k) = q) := ⟨_, rfl⟩
    obtain ⟨q, hq⟩ := hq.out
    have hC3 := Hcut3.out
    rw [hq] at hC3
    have HQ := Lib.hid hq
    obtain ⟨v2, l2, f2⟩ := q
    have HC3 := Lib.hid hC3
    clear hq hC3
    go_wp2_with fail
    refine (number_in p2 v (L.take k) false w11 hpin2 hv).mono ?_
    rintro e w12 ⟨rfl, hp12, ht12⟩
    rw [HQ.out] at hp12 ⊢
    have hWp2 := Nat.le_trans hbW9.size hp25
    have hbW12 := hbW11.trans (ht12.below hbW11.size hWp2)
    go_wp2_with fail
    refine (bytes_in p2 b.length l2 _ w12 hp12 (by omega) (by omega)).mono ?_
    rintro e w13 ⟨A13, c13, rfl, h13a, h13b, h13c, hp13, ht13⟩
    have hbW13 := hbW12.trans (ht13.below hbW12.size hWp2)
    go_wp2_with fail
    refine (done_in p2 _ _ _ hp13).mono ?_
    rintro e w14 ⟨rfl, rfl⟩
    rw [show doneF (bytesF (↑b.length) l2).2.1 (false || f2 || (bytesF (↑b.length) l2).2.2) = 3 from by simpa using HC3.out]
    go_wp2_with fail
    go_ret
    exact ⟨rfl, hbW13⟩

end Go.Proofs.Ytopiiebdmddigaa

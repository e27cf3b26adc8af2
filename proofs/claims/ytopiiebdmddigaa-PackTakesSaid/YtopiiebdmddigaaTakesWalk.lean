/-
  PackTakes answers true, and writes nothing that was there.
-/
import Derived.Test.YtopiiebdmddigaaRel
import Derived.Test.YtopiiebdmddigaaDigEq
import Derived.Test.YtopiiebdmddigaaGreat
import Derived.Test.YtopiiebdmddigaaSpeaks
namespace Go.Proofs.Ytopiiebdmddigaa
open Go.RowKit
set_option linter.unusedVariables false

theorem PIn.other {w w' : World} {p q : Nat} {l : List UInt8} {b : Bool} (h : PIn w p l b) (ht : Turn q w w') (hpq : p < q) : PIn w' p l b :=
  h.kept fun k hk => ht.block k (by have := h.lt; omega) (fun e => by injection e with e; omega)

theorem RIn.other {w w' : World} {p q : Nat} {L : List UInt8} {A : Option Addr} {c o : Nat} {b : Bool} (h : RIn w q L A c o b) (ht : Turn p w w') (hpq : p ≠ q) : RIn w' q L A c o b :=
  (ht.block q h.lt (fun e => by injection e with e; omega)).trans h

theorem PIn.alloc {w : World} {p : Nat} {l : List UInt8} {b : Bool} (h : PIn w p l b) (ob : Obj) : PIn (w.alloc ob) p l b :=
  h.kept fun k hk => Below.heap_alloc w ob k (by have := h.lt; omega)

theorem rdone_n (q : Nat) (L : List UInt8) (A : Option Addr) (c o : Nat) (b : Bool) (l : List UInt8) (d : Int) (w : World) (h : RIn w q L A c o b) (hf : RFix w q L A c) (hr : Rel l L o b) (hd : doneF l b = d) :
    Calls Try.prog 25 #[.pointer (some ⟨q, 0, none⟩)] w fun e w' => e = .returned (.int .i64 d) ∧ ∃ k, w' = w.drewN k := by
  subst hd
  rw [← rel_done hr]
  exact rdone_in q L A c o b w h hf

theorem done_n (p : Nat) (l : List UInt8) (b : Bool) (d : Int) (w : World) (h : PIn w p l b) (hd : doneF l b = d) :
    Calls Try.prog 24 #[.pointer (some ⟨p, 0, none⟩)] w fun e w' => e = .returned (.int .i64 d) ∧ w' = w := by
  subst hd
  exact (done_in p l b w h).mono fun e w' h => ⟨h.1, h.2.symm⟩

theorem wrong_n (p : Nat) (l : List UInt8) (b : Bool) (w : World) (h : PIn w p l b) :
    Calls Try.prog 23 #[.pointer (some ⟨p, 0, none⟩)] w fun e w' => e = .returned (.bool b) ∧ w' = w :=
  (wrong_in p l b w h).mono fun e w' h => ⟨h.1, h.2.symm⟩

theorem RFix.drewN {w : World} {q : Nat} {L : List UInt8} {A : Option Addr} {c : Nat} (h : RFix w q L A c) (k : Nat) : RFix (w.drewN k) q L A c := ⟨h.le, h.lim, h.cap, h.bytes⟩

/-- Both Ins, and what is left of them. -/
structure Both (w : World) (p q : Nat) (l L : List UInt8) (A : Option Addr) (c o : Nat) (b : Bool) : Prop where
  mine : PIn w p l b
  its : RIn w q L A c o b
  rel : Rel l L o b

set_option maxHeartbeats 32000000 in
set_option maxRecDepth 100000 in
theorem takes_walk (A : Option Addr) (cap : Nat) (bs : List UInt8) (hc : bs.length ≤ cap) (hm : cap ≤ maxLen) (T : Option Addr) (n cap1 : Nat) (f : Nat → Thing) (hc1 : n ≤ cap1) (hm1 : cap1 ≤ maxLen) (W : World) (hA : Bs W W.heap.size A bs) (hT : Things W W.heap.size T n f) :
    Calls Try.prog 4 #[.slice A bs.length cap, .slice T n cap1] W fun e w' => e = .returned (.bool true) ∧ Below W.heap.size W w' := by
  obtain ⟨i0, hi, hz0, hz1, hz2⟩ := info_parts byteInfo
  have hm63 : cap ≤ 9223372036854775807 := by unfold maxLen at hm; omega
  have hm163 : cap1 ≤ 9223372036854775807 := by unfold maxLen at hm1; omega
  by_cases hbig : 2000 < bs.length
  · go_enter Try.func4, Try.ntmps4
    go_wp2_with fail
    refine (speaks_true _).mono ?_
    rintro e w1 ⟨rfl, hb1⟩
    go_wp2_with fail
    go_ret
    exact ⟨rfl, hb1⟩
  · have hbl : bs.length ≤ 2000 := by omega
    clear hbig
    go_enter Try.func4, Try.ntmps4
    go_wp2_with fail
    refine (speaks_true _).mono ?_
    rintro e w1 ⟨rfl, hb1⟩
    go_wp2_with fail
    refine (great_any T n cap1 f w1 ((hT.below hb1 (Nat.le_refl _)).more hb1.size) hc1 hm1).mono ?_
    rintro e w2 ⟨g, rfl, hgr, hb2⟩
    have hbW := hb1.trans (hb2.mono hb1.size)
    cases g with
    | true =>
      go_wp2_with fail
      go_ret
      exact ⟨rfl, hbW⟩
    | false =>
      obtain ⟨hn60, _⟩ := hgr rfl
      clear hgr
      have hW2 := hbW.size
      have hA2 := hA.below hbW (Nat.le_refl _)
      go_wp2_with (at_builtin; refine wpList_append_bs rfl _ _ 25 rfl w2.heap.size 5 i0 (.int .u8 0) Try.underlying25 hi hz0 hz1 hz2 rfl (.slice (some ⟨w2.heap.size, 0, none⟩) 0 0) [] rfl (owns_empty w2 w2.heap.size (Nat.le_refl _)) W.heap.size A bs.length cap bs rfl rfl (hA2.alloc hW2 _) (by simp; omega) (by simp) ?_; intro v3 w3 hown3 hg3)
      rw [List.nil_append] at hown3
      have hrow : ∀ k, (Value.slice (some ⟨w2.heap.size, 0, none⟩) 0 0).ownBlock = some k → w2.heap.size ≤ k := fun k hk => by
        simp only [Value.ownBlock, Option.some.injEq] at hk
        omega
      have hb3 : Below w2.heap.size w2 w3 := ((Below.refl _ w2).alloc (Nat.le_refl _) _).trans (hg3.below (by simp) hrow)
      have hbW3 := hbW.trans (hb3.mono hW2)
      obtain ⟨A3, c3, rfl, _, _, hs3⟩ := hown3.slice
      clear hrow
      go_wp2_with fail
      refine (from_any _ A3 c3 bs w3 hs3 (by omega)).mono ?_
      rintro e w4 ⟨p, rfl, hp3, hpin, hb4⟩
      have hbW4 := hbW3.trans (hb4.mono hbW3.size)
      have hplt := hpin.lt
      have hW4 := hbW4.size
      have hWp : W.heap.size ≤ p := Nat.le_trans hbW3.size hp3
      go_wp2_with fail
      generalize hqe : w4.heap.size = q at *
      have Hq := Lib.hid hqe
      clear hqe
      have hpq : p < q := by omega
      have hWq : W.heap.size ≤ q := by omega
      go_loopw [28] (fun i wr => ∃ (k : Nat) (l : List UInt8) (o : Nat) (b : Bool), i = .int .i64 k ∧ k ≤ n ∧ Both wr p q l bs A cap o b ∧ Below W.heap.size W wr) (fun i _ => n - (intOf i).toNat)
      case atStart =>
        refine ⟨0, bs, 0, false, rfl, Nat.zero_le _, ⟨hpin.alloc _, ?_, ⟨fun _ => rfl, (fun h => by cases h), Nat.zero_le _⟩⟩, hbW4.alloc (by rw [Hq.out]; exact hW4) _⟩
        have := heap_alloc_new w4 (.cells #[.slice A bs.length cap, .int .i64 0, .bool false] 36)
        rw [Hq.out] at this
        exact this
      case round =>
        obtain ⟨k, l, o, b, rfl, hk, hboth, hb⟩ := hrel
        have hfix : RFix wr q bs A cap := ⟨hc, by omega, hm, (hA.below hb (Nat.le_refl _)).more hWq⟩
        by_cases hlt : k < n
        · obtain ⟨blk, off, rfl, hbl2, ht⟩ := (hT.below hb (Nat.le_refl _)) (by omega)
          obtain ⟨hfit, Ab, cb, g0, g1, g2, g3, g4, g5, g6, g7⟩ := ht k hlt
          generalize hx : f k = x at *
          obtain ⟨xk, xn, xv, xm, xb⟩ := x
          simp only at g0 g1 g2 g3 g4 g5 g6 g7
          obtain ⟨_, _, hn1, hn2, _, hxm⟩ := hfit
          simp only at hn1 hn2 hxm
          obtain ⟨hpi, hri, hrel⟩ := hboth
          have hqlt := hri.lt
          have hsz := hb.size
          clear hx ht
          -- what stands behind the three ways
          have fin : Hid (∀ (w6 : World) (l2 : List UInt8) (o2 : Nat) (b2 : Bool), PIn w6 p l2 b2 → RIn w6 q bs A cap o2 b2 → Rel l2 bs o2 b2 → Below W.heap.size W w6 → (Both w6 p q l2 bs A cap o2 b2 ∧ RFix w6 q bs A cap)) :=
            fun w6 l2 o2 b2 h1 h2 h3 h4 => ⟨⟨h1, h2, h3⟩, ⟨hc, by omega, hm, (hA.below h4 (Nat.le_refl _)).more hWq⟩⟩
          by_cases hk0 : xk = 0
          · have hk0b : (xk == 0) = true := by rw [beq_iff_eq]; exact hk0
            clear hk0
            go_wp2_with fail
            obtain ⟨rn1, rn2, rn3⟩ := rel_num hrel xm
            have Hrn1 := Lib.hid rn1
            have Hrn2 := Lib.hid rn2
            clear rn1 rn2
            go_region_held3 (fun w' => w'.cell? ⟨wr.heap.size, 3, none⟩ = some (.int .u64 xm)) (first | go_keep | assumption)
              (first
                | (go_at_call 17
                   refine (number_in p xm l b _ (by exact hpi.alloc _) hxm).mono ?_
                   rintro e w5 ⟨rfl, hp5, ht5⟩
                   rw [Hrn1.out]
                   have hS5 : w5.cell? ⟨wr.heap.size, 3, none⟩ = some (.int .u64 xm) := ht5.cell (by first | go_keep | (rw [cell_of_row _ wr.heap.size 3 _ _ (0, 0) (heap_alloc_new wr _)]; rfl)) (fun e => by simp at e; omega)
                   have hs5 : wr.heap.size + 1 ≤ w5.heap.size := by have := ht5.size; simpa using this
                   have hr5 : RIn w5 q bs A cap o b := RIn.other (by exact hri.alloc _) ht5 (by omega)
                   have hb5 : Below W.heap.size W w5 := by
                     have h1 := ht5.below (B := W.heap.size) (by simp; omega) hWp
                     first | exact (hb.alloc hsz _).trans h1 | exact (hb.alloc hsz _).drew.trans h1
                   have hf5 : RFix w5 q bs A cap := ⟨hc, by omega, hm, (hA.below hb5 (Nat.le_refl _)).more hWq⟩)
                | (go_at_call 18
                   refine (rnumber_in q xm bs A cap o b _ (by exact hr5) (by exact hf5) hrel.2.2 hxm).mono ?_
                   rintro e w6 ⟨rfl, hr6, ht6⟩
                   have hS6 : w6.cell? ⟨wr.heap.size, 3, none⟩ = some (.int .u64 xm) := ht6.cell (by first | go_keep | assumption) (fun e => by simp at e; omega)))
            have hp6 := PIn.other (by rw [Hrn2.out] at hp5; exact hp5) ht6 hpq
            have hb6 : Below W.heap.size W w6 := by
              have h1 := ht6.below (B := W.heap.size) (by omega) hWq
              first | exact hb5.trans h1 | exact hb5.drew.trans h1
            obtain ⟨hbo, hf6⟩ := fin.out w6 _ _ _ hp6 hr6 rn3 hb6
            clear hp6 hr6 rn3 fin Hrn2 hp5
            generalize (rnF xm bs o b).2.2 = b2 at *
            generalize (rnF xm bs o b).2.1 = o2 at *
            generalize (numF xm l).2.1 = l2 at *
            obtain ⟨d, hd⟩ : ∃ d, doneF l2 b2 = d := ⟨_, rfl⟩
            have Hd := Lib.hid hd
            obtain ⟨x0, x1, x2, y0, y1, y2⟩ := hbo.its.cells
            clear hd
            go_wp2_with fail
            go_quiet ((first
              | (go_at_call 23; exact Calls.quiet_of_same (wrong_n p l2 b2 _ (hbo.mine.drewN _)))
              | (go_at_call 24; exact Calls.quiet_of_same (done_n p l2 b2 d _ (hbo.mine.drewN _) Hd.out))
              | (go_at_call 25; exact Calls.quiet_of (rdone_n q bs A cap o2 b2 l2 d _ hbo.its (hf6.drewN _) hbo.rel Hd.out))))
            go_wp2_with fail
            exact ⟨⟨k + 1, l2, o2, b2, by go_num, by omega, ⟨hbo.mine.drewN _, hbo.its, hbo.rel⟩, Below.dN hb6 _⟩, by simp [intOf]; omega⟩
          · by_cases hk1 : xk = 1
            · have hk0b : (xk == 0) = false := by rw [beq_eq_false_iff_ne]; exact hk0
              have hk1b : (xk == 1) = true := by rw [beq_iff_eq]; exact hk1
              clear hk0 hk1
              go_wp2_with fail
              refine (digest_in p l b _ (by exact hpi.alloc _)).mono ?_
              rintro e w5 ⟨rfl, hp5, ht5⟩
              rw [rel_dig hrel]
              have hs5 : wr.heap.size + 1 ≤ w5.heap.size := by have := ht5.size; simpa using this
              have hr5 : RIn w5 q bs A cap o b := RIn.other (by exact hri.alloc _) ht5 (by omega)
              have hb5 : Below W.heap.size W w5 := (hb.alloc hsz _).trans (ht5.below (B := W.heap.size) (by simp; omega) hWp)
              have hf5 : RFix w5 q bs A cap := ⟨hc, by omega, hm, (hA.below hb5 (Nat.le_refl _)).more hWq⟩
              go_wp2_with fail
              refine (rdigest_in q bs A cap o b w5 hr5 hf5 hrel.2.2).mono ?_
              rintro e w6 ⟨rfl, hr6, ht6⟩
              obtain ⟨rc1, rc2, rc3⟩ := rel_cut hrel 32 (fun _ => by omega)
              have hlD : (rdF bs o b).length = 32 := by rw [← rel_dig hrel]; exact digF_length l
              have heq := dig_eql (rdF bs o b) (rdF bs o b) hlD hlD w6
              rw [decide_eq_true rfl] at heq
              have hgd := fun x y => dig_guard .eql x y (rdF bs o b) (rdF bs o b) w6
              have hp6 := PIn.other (by rw [rc2] at hp5; exact hp5) ht6 hpq
              have hb6 : Below W.heap.size W w6 := hb5.trans (ht6.below (B := W.heap.size) (by omega) hWq)
              obtain ⟨hbo, hf6⟩ := fin.out w6 _ _ _ hp6 hr6 rc3 hb6
              clear hp6 hr6 rc3 fin rc1 rc2 hp5 hlD
              generalize rdF bs o b = D at *
              generalize (takeF 32 bs o b).2.2 = b2 at *
              generalize (takeF 32 bs o b).2.1 = o2 at *
              generalize (cutF 32 l).2.1 = l2 at *
              obtain ⟨d, hd⟩ : ∃ d, doneF l2 b2 = d := ⟨_, rfl⟩
              have Hd := Lib.hid hd
              obtain ⟨x0, x1, x2, y0, y1, y2⟩ := hbo.its.cells
              clear hd
              go_wp2_with fail
              go_quiet ((first
                | (go_at_call 23; exact Calls.quiet_of_same (wrong_n p l2 b2 _ (hbo.mine.drewN _)))
                | (go_at_call 24; exact Calls.quiet_of_same (done_n p l2 b2 d _ (hbo.mine.drewN _) Hd.out))
                | (go_at_call 25; exact Calls.quiet_of (rdone_n q bs A cap o2 b2 l2 d _ hbo.its (hf6.drewN _) hbo.rel Hd.out))))
              go_wp2_with fail
              exact ⟨⟨k + 1, l2, o2, b2, by go_num, by omega, ⟨hbo.mine.drewN _, hbo.its, hbo.rel⟩, Below.dN hb6 _⟩, by simp [intOf]; omega⟩
            · have hk0b : (xk == 0) = false := by rw [beq_eq_false_iff_ne]; exact hk0
              have hk1b : (xk == 1) = false := by rw [beq_eq_false_iff_ne]; exact hk1
              clear hk0 hk1
              obtain ⟨rb1, rb2, rb3⟩ := rel_bytes hrel xn
              obtain ⟨R, hR⟩ : ∃ R, (rbF xn bs o b).1 = R := ⟨_, rfl⟩
              rw [hR] at rb1
              have Hb1 := Lib.hid rb1
              have Hb2 := Lib.hid hR
              have Hrb2 := Lib.hid rb2
              clear rb1 hR rb2
              go_wp2_with fail
              go_region_held3 (fun w' => w'.cell? ⟨wr.heap.size, 1, none⟩ = some (.int .i64 xn)) (first | go_keep | assumption)
                (first
                  | (go_at_call 21
                     refine (bytes_in p xn l b _ (by exact hpi.alloc _) hn1 hn2).mono ?_
                     rintro e w5 ⟨A5, c5, rfl, h5a, h5b, h5c, hp5, ht5⟩
                     rw [Hb1.out] at h5a h5c ⊢
                     have hS5 : w5.cell? ⟨wr.heap.size, 1, none⟩ = some (.int .i64 xn) := ht5.cell (by first | go_keep | (rw [cell_of_row _ wr.heap.size 1 _ _ (0, 0) (heap_alloc_new wr _)]; rfl)) (fun e => by simp at e; omega)
                     have hs5 : wr.heap.size + 1 ≤ w5.heap.size := by have := ht5.size; simpa using this
                     have hr5 : RIn w5 q bs A cap o b := RIn.other (by exact hri.alloc _) ht5 (by omega)
                     have hb5 : Below W.heap.size W w5 := by
                       have h1 := ht5.below (B := W.heap.size) (by simp; omega) hWp
                       first | exact (hb.alloc hsz _).trans h1 | exact (hb.alloc hsz _).drew.trans h1
                     have hf5 : RFix w5 q bs A cap := ⟨hc, by omega, hm, (hA.below hb5 (Nat.le_refl _)).more hWq⟩)
                  | (go_at_call 22
                     refine (rbytes_in q xn bs A cap o b _ (by exact hr5) (by exact hf5) hrel.2.2 hn1 hn2).mono ?_
                     rintro e w6 ⟨v6, rfl, hown6, hr6, ht6⟩
                     rw [Hb2.out] at hown6
                     have hS6 : w6.cell? ⟨wr.heap.size, 1, none⟩ = some (.int .i64 xn) := ht6.cell (by first | go_keep | assumption) (fun e => by simp at e; omega)
                     have h6c : Bs w6 q A5 R := ht6.bs (by omega) (h5c.more (by omega))
                     obtain ⟨A6, c6, rfl, h6a, h6b, hs6⟩ := hown6.slice)
                  | (go_at_call 15
                     refine (same_n _ _ A5 A6 c5 c6 R.length R.length R R _ true (by exact h6c) (by exact hs6) rfl rfl (by omega) (by omega) (decide_eq_true rfl)).mono ?_
                     rintro e w7 ⟨rfl, k7, rfl⟩))
              have hp6 := PIn.other (by rw [Hrb2.out] at hp5; exact hp5) ht6 hpq
              have hb6 : Below W.heap.size W w6 := by
                have h1 := ht6.below (B := W.heap.size) (by omega) hWq
                first | exact hb5.trans h1 | exact hb5.drew.trans h1
              obtain ⟨hbo, hf6⟩ := fin.out w6 _ _ _ hp6 hr6 rb3 hb6
              clear hp6 hr6 rb3 fin Hrb2 hp5 Hb2 Hb1
              generalize (rbF xn bs o b).2.2 = b2 at *
              generalize (rbF xn bs o b).2.1 = o2 at *
              generalize (bytesF xn l).2.1 = l2 at *
              have hbo8 : Both (w6.drewN k7) p q l2 bs A cap o2 b2 := ⟨hbo.mine.drewN _, hbo.its, hbo.rel⟩
              have hf8 := hf6.drewN k7
              have hb8 : Below W.heap.size W (w6.drewN k7) := Below.dN hb6 _
              clear hbo hf6 hb6
              generalize w6.drewN k7 = w8 at *
              have hbo := hbo8
              have hf6 := hf8
              have hb6 := hb8
              clear hbo8 hf8 hb8
              obtain ⟨d, hd⟩ : ∃ d, doneF l2 b2 = d := ⟨_, rfl⟩
              have Hd := Lib.hid hd
              obtain ⟨x0, x1, x2, y0, y1, y2⟩ := hbo.its.cells
              clear hd
              go_wp2_with fail
              go_quiet ((first
                | (go_at_call 23; exact Calls.quiet_of_same (wrong_n p l2 b2 _ (hbo.mine.drewN _)))
                | (go_at_call 24; exact Calls.quiet_of_same (done_n p l2 b2 d _ (hbo.mine.drewN _) Hd.out))
                | (go_at_call 25; exact Calls.quiet_of (rdone_n q bs A cap o2 b2 l2 d _ hbo.its (hf6.drewN _) hbo.rel Hd.out))))
              go_wp2_with fail
              exact ⟨⟨k + 1, l2, o2, b2, by go_num, by omega, ⟨hbo.mine.drewN _, hbo.its, hbo.rel⟩, Below.dN hb6 _⟩, by simp [intOf]; omega⟩
        · obtain rfl : k = n := by omega
          obtain ⟨d, hd⟩ : ∃ d, doneF l b = d := ⟨_, rfl⟩
          go_wp2_with fail
          refine (done_n p l b d _ hboth.mine hd).mono ?_
          rintro e w5 ⟨rfl, rfl⟩
          go_wp2_with fail
          refine (rdone_n q bs A cap o b l d _ hboth.its hfix hboth.rel hd).mono ?_
          rintro e w6 ⟨rfl, k6, rfl⟩
          go_wp2_with fail
          go_ret
          exact ⟨ret_bool (by simp), Below.dN hb _⟩

end Go.Proofs.Ytopiiebdmddigaa

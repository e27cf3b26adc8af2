/-
  Sum of the document's own.
-/
import Derived.Test.YtlfddijmanlneaaRefBeg
import Derived.Test.YtlfddijmanlneaaNum
import Derived.Test.YtlfddijmanlneaaDig0
import Derived.Test.YtlfddijmanlneaaGen
import Derived.Deep.QuietTactic
import Derived.BigQuiet
import Derived.StillTailTactics
import Derived.Deep.RegionHeld3
import Derived.IntWalk
namespace Go.Proofs.Ytlfddijmanlneaa
open Go.RowKit
set_option linter.unusedVariables false

def RSumPost (l : List UInt8) (w : World) (e : Ending) (w' : World) : Prop :=
  e = .returned (digV (shaF l)) ∧ Below w.heap.size w w'

theorem roundL_fit : Fit roundL := by
  have h : (roundL.all fun x => decide (x < 4294967296)) = true := by kernel_rfl
  intro x hx
  exact of_decide_eq_true (List.all_eq_true.1 h x hx)
theorem beginL_fit : Fit beginL := by
  have h : (beginL.all fun x => decide (x < 4294967296)) = true := by kernel_rfl
  intro x hx
  exact of_decide_eq_true (List.all_eq_true.1 h x hx)
theorem lenH : beginL.length = 8 := rfl
theorem lenK : roundL.length = 64 := by kernel_rfl
theorem div_pow256 (n j : Nat) : n / 256 ^ j / 256 = n / 256 ^ (j + 1) := by rw [Nat.div_div_eq_div_mul, Nat.pow_succ]
theorem pow256 (j : Nat) : 256 ^ j = 2 ^ (8 * j) := by rw [Nat.pow_mul]

set_option maxHeartbeats 80000000 in
set_option maxRecDepth 1000000 in
theorem rsum_any (l : List UInt8) (A : Option Addr) (c n : Nat) (w : World) (hn : l.length = n) (hb : Bs w w.heap.size A l) (hc : n ≤ c) (hm : n ≤ 140737488355000) :
    Calls Try.prog 70 #[.slice A n c] w (RSumPost l w) := by
  obtain ⟨i0, hi, hz0, hz1, hz2⟩ := info_parts byteInfo
  obtain ⟨j0, hj, hj0, hj1, hj2⟩ := info_parts wordInfo
  have hcall : Hid (∀ (v : Value) (n : Nat), sliceLen (.slice none n n) = n) := fun _ _ => rfl
  obtain ⟨W2, hW2⟩ : ∃ W2, W2 = ((w.alloc (.cells (Lib.byteCells zeros).toArray 24)).alloc (.cells (wordCells beginL).toArray 115)).alloc (.cells (wordCells roundL).toArray 115) := ⟨_, rfl⟩
  have hW2s : W2.heap.size = w.heap.size + 3 := by rw [hW2]; simp
  have hb2 : Below w.heap.size w W2 := by rw [hW2]; exact (((Below.refl _ w).alloc (Nat.le_refl _) _).alloc (by simp) _).alloc (by simp; omega) _
  have hR2 : Arr W2 w.heap.size 24 (Lib.byteCells zeros) := by rw [hW2]; exact ((Arr.new w _ _).alloc _).alloc _
  have hH2 : Arr W2 (w.heap.size + 1) 115 (wordCells beginL) := by
    have h1 := Arr.new (w.alloc (.cells (Lib.byteCells zeros).toArray 24)) 115 (wordCells beginL)
    rw [show (w.alloc (.cells (Lib.byteCells zeros).toArray 24)).heap.size = w.heap.size + 1 from by simp] at h1
    rw [hW2]; exact h1.alloc _
  have hK2 : Arr W2 (w.heap.size + 2) 115 (wordCells roundL) := by
    have h1 := Arr.new ((w.alloc (.cells (Lib.byteCells zeros).toArray 24)).alloc (.cells (wordCells beginL).toArray 115)) 115 (wordCells roundL)
    rw [show ((w.alloc (.cells (Lib.byteCells zeros).toArray 24)).alloc (.cells (wordCells beginL).toArray 115)).heap.size = w.heap.size + 2 from by simp] at h1
    rw [hW2]; exact h1
  have hbs2 : Bs W2 w.heap.size A l := hb.below hb2 (Nat.le_refl _)
  have HW2 := Lib.hid hW2
  have Hn := Lib.hid hn
  clear hW2 hn hb
  go_enter Try.func70, Try.ntmps70
  go_wp2_with fail
  refine (rbegin_any _).mono ?_
  rintro e w' ⟨rfl, rfl⟩
  go_wp2_with fail
  refine (rrounds_any _).mono ?_
  rintro e w' ⟨rfl, hw'⟩
  obtain rfl : w' = W2 := by rw [HW2.out]; exact hw'.symm
  clear hw' HW2 hcall
  obtain ⟨W, rfl⟩ : ∃ W, W = w' := ⟨_, rfl⟩
  have hWle : w.heap.size + 3 ≤ W.heap.size := by omega
  clear hW2s
  have hown0 : Owns (W.alloc (.cells #[] 5)) W.heap.size 5 (.slice (some ⟨W.heap.size, 0, none⟩) 0 0) [] :=
    Owns.of_row (l := []) (cur := []) (Nat.le_refl _) (Nat.le_refl _) (by unfold maxLen; omega) (heap_alloc_new W _) rfl rfl
  have hbs3 : Bs (W.alloc (.cells #[] 5)) w.heap.size A l := hbs2.alloc (by omega) _
  go_wp2_with (first
    | (at_builtin; (refine wpList_append_bs rfl _ _ 33 rfl W.heap.size 5 i0 (.int .u8 0) Try.underlying33 hi hz0 hz1 hz2 rfl (.slice (some ⟨W.heap.size, 0, none⟩) 0 0) [] rfl hown0 w.heap.size A n c l rfl Hn.out hbs3 (by simp; omega) (by simp) ?_; intro v2 w2 hown2 hgr2; clear hown0; rw [List.nil_append] at hown2; have hs2 := hgr2.1.size))
    | (at_builtin; (refine wpList_append_own_at _ rfl _ _ 33 rfl W.heap.size 5 i0 (.int .u8 0) 1 1 Try.underlying33 hi hz0 hz1 hz2 rfl (by decide) v2 _ _ rfl (World.ownsRow.alloc hown2 _) ⟨w2.heap.size, 0, none⟩ 1 1 [Value.int .u8 128] rfl rfl (one_new _ _ _) (one_u8 _) (by rw [Hn.out]; unfold maxLen; omega) (by rw [Hn.out]; omega) (by simp at hs2 ⊢; omega) ?_; intro v3 w3 hown3' hgrow3 _ hplace3)))
  have hown3 : Owns w3 W.heap.size 5 v3 (l ++ (128 :: List.replicate 0 0)) := by
    have h1 := Owns.more1 (x := 128) rfl hown3'
    simpa using h1
  have hb3 : Below W.heap.size W w3 := by
    have h1 : Below W.heap.size W (W.alloc (.cells #[] 5)) := (Below.refl _ W).alloc (Nat.le_refl _) _
    have h2 := h1.trans (hgr2.below (by simp) (by simp [Value.ownBlock]))
    have h3 : Grew w2 w3 v2 v3 := ((Grew.refl w2 v2).alloc _).step hgrow3 (by simpa using hplace3)
    exact h2.trans (h3.below (by simp at hs2; omega) (fun k hk => (hown2.lt k hk).1))
  clear hown3' hgrow3 hplace3 hown2 hgr2 hbs3
  have hpl := padF_lt n
  go_loopw [5] (fun v wr => ∃ j : Nat, j ≤ padF n ∧ Owns wr W.heap.size 5 v (l ++ (128 :: List.replicate j 0)) ∧ Below W.heap.size W wr) (fun v _ => n + 200 - sliceLen v)
  case atStart => exact ⟨0, by omega, hown3, hb3⟩
  case round =>
    clear hown3 hb3
    obtain ⟨j, hjp, hown, hbel⟩ := hrel
    have hlen : (l ++ (128 :: List.replicate j (0 : UInt8))).length = n + 1 + j := by
      simp only [List.length_append, List.length_cons, List.length_replicate, Hn.out]; omega
    obtain ⟨L, hL⟩ : ∃ L, l ++ (128 :: List.replicate j (0 : UInt8)) = L := ⟨_, rfl⟩
    have hsn : l ++ (128 :: List.replicate (j + 1) (0 : UInt8)) = L ++ [0] := by rw [← hL, List.replicate_succ']; simp
    have hdone : j = padF n → l ++ (128 :: List.replicate (padF n) (0 : UInt8)) = L := fun e => by rw [← hL, e]
    rw [hL] at hown hlen
    have hownL := hown
    obtain ⟨A1, c1, rfl, hlc, hcm, hbs⟩ := hown.slice
    have Hsn := Lib.hid hsn
    have Hdone := Lib.hid hdone
    clear hL hsn hdone hown
    obtain ⟨m, hm'⟩ : ∃ m, L.length = m := ⟨_, rfl⟩
    rw [hm'] at hlen hlc ⊢
    have hbz := hbel.size
    by_cases hlt : j < padF n
    · as_aux_lemma =>
      have ht : ((m : Int) % 64 != 56) = true := by
        have := padF_step n j hlt
        rw [bne_iff_ne]; omega
      have hown1 : wr.ownsRow W.heap.size 5 1 (.slice A1 m c1) m (Lib.byteCells L) := by rw [← hm']; exact hownL
      have Hm := Lib.hid hm'
      have Hl := Lib.hid hlen
      have hm200 : m < n + 200 := by omega
      clear hm' hlen hownL
      go_wp2_with (at_builtin; (refine wpList_append_own_at _ rfl _ _ 33 rfl W.heap.size 5 i0 (.int .u8 0) 1 1 Try.underlying33 hi hz0 hz1 hz2 rfl (by decide) (.slice A1 m c1) _ _ rfl (World.ownsRow.alloc hown1 _) ⟨wr.heap.size, 0, none⟩ 1 1 [Value.int .u8 0] rfl rfl (one_new _ _ _) (one_u8 _) (by unfold maxLen; omega) (by omega) (by simp; omega) ?_; intro v5 w5 hown5 hgrow5 _ hplace5))
      have hown6 : Owns w5 W.heap.size 5 v5 (L ++ [0]) := by
        rw [← Hm.out] at hown5
        exact Owns.more1 rfl hown5
      have hb5 : Below W.heap.size W w5 := by
        have h3 : Grew wr w5 (.slice A1 m c1) v5 := ((Grew.refl wr _).alloc _).step hgrow5 (by simpa using hplace5)
        exact hbel.trans (h3.below hbz (fun k hk => (World.ownsRow.lt hown1 k hk).1))
      have hlen6 : (L ++ [(0 : UInt8)]).length = m + 1 := by rw [List.length_append, Hm.out]; rfl
      obtain ⟨A2, c2, hv5, _, _, _⟩ := hown6.slice
      rw [hlen6] at hv5
      subst hv5
      go_roundw
      case rel => exact ⟨j + 1, by omega, by rw [Hsn.out]; exact hown6, hb5⟩
      case measure => show n + 200 - (m + 1) < n + 200 - m; omega
    · have hje : j = padF n := by omega
      have ht : ((m : Int) % 64 != 56) = false := by
        have := padF_mod n
        rw [bne_eq_false_iff_eq]; omega
      have hX := Hdone.out hje
      have hown0 : Owns wr W.heap.size 5 (.slice A1 m c1) (L ++ (bytes8 (n * 8)).take 0) := by rw [List.take_zero, List.append_nil, ← hm']; exact hownL
      have hfin : fullF l = L ++ bytes8 (n * 8) := by unfold fullF; rw [Hn.out, hX]
      have Hfin := Lib.hid hfin
      have Hm := Lib.hid hm'
      have hm200 : m < n + 200 := by omega
      have hn8 : n * 8 < 18446744073709551616 := by omega
      obtain ⟨wo, rfl⟩ : ∃ wo : World, wo = wr := ⟨_, rfl⟩
      clear hm' hlen hownL hX hfin hje hlt
      go_wp2_with fail
      go_loopw [5, 7] (fun v sh wr => ∃ (i : Nat) (z : Int), i ≤ 8 ∧ z + (i : Int) = 7 ∧ sh = .int .i64 z ∧ Owns wr W.heap.size 5 v (L ++ (bytes8 (n * 8)).take i) ∧ Below W.heap.size W wr) (fun _ sh _ => (intOf sh + 1).toNat)
      case atStart => exact ⟨0, 7, by omega, by omega, rfl, hown0, hbel⟩
      case round =>
        clear hown0 hbel
        obtain ⟨i, z, hi8, hz, rfl, hown, hbel⟩ := hrel
        have hlen : (L ++ (bytes8 (n * 8)).take i).length = m + i := by
          rw [List.length_append, List.length_take, bytes8_length, Hm.out]; omega
        have hbz := hbel.size
        by_cases hlt : i < 8
        · as_aux_lemma =>
          obtain ⟨sh, rfl⟩ := Int.eq_ofNat_of_zero_le (show 0 ≤ z by omega)
          have hsn := bytes8_snoc (n * 8) hlt (show 8 * sh + 8 * i = 56 by omega)
          obtain ⟨Y, hY⟩ : ∃ Y, L ++ (bytes8 (n * 8)).take i = Y := ⟨_, rfl⟩
          have hsn2 : L ++ (bytes8 (n * 8)).take (i + 1) = Y ++ [(n * 8 / 256 ^ sh).toUInt8] := by rw [hsn, ← hY, pow256]; simp
          rw [hY] at hown hlen
          obtain ⟨q, hq⟩ : ∃ q, Y.length = q := ⟨_, rfl⟩
          rw [hq] at hlen
          have hown1 := hown
          unfold Owns at hown1
          rw [hq] at hown1
          have Hsn2 := Lib.hid hsn2
          have Hq := Lib.hid hq
          have Hlen := Lib.hid hlen
          have Hz := Lib.hid hz
          have hsh1 : (sh : Int) ≤ 7 := by omega
          have hq300 : q < n + 300 := by omega
          obtain ⟨w8, rfl⟩ : ∃ wo : World, wo = wr := ⟨_, rfl⟩
          clear hsn hsn2 hq hlen hown hY hz
          go_wp2_with fail
          go_loopw [8, 9] (fun x j wr => ∃ k y : Nat, k ≤ sh ∧ j = .int .i64 k ∧ x = .int .u64 y ∧ Hid (n * 8 / 256 ^ k = y) ∧ y < 18446744073709551616 ∧ wr = w8) (fun _ j _ => sh - (intOf j).toNat)
          case atStart => exact ⟨0, n * 8, by omega, rfl, by go_num, Lib.hid (by simp), hn8, rfl⟩
          case round =>
            obtain ⟨k, y, hk, rfl, rfl, hy, hyl, rfl⟩ := hrel
            by_cases hks : k < sh
            · go_wp2
              go_roundw
              case rel => exact ⟨k + 1, y / 256, by omega, by go_num, by go_num, Lib.hid (by rw [← div_pow256, hy.out]), by omega, (by first | rfl | trivial)⟩
              case measure => simp [intOf]; omega
            · obtain rfl : k = sh := by omega
              rw [hy.out] at Hsn2
              have hd : decide ((k : Int) < (k : Int)) = false := by simp
              go_wp2_with (at_builtin; (refine wpList_append_own_at _ rfl _ _ 33 rfl W.heap.size 5 i0 (.int .u8 0) 1 1 Try.underlying33 hi hz0 hz1 hz2 rfl (by decide) u5 _ _ rfl (World.ownsRow.alloc hown1 _) ⟨wr.heap.size, 0, none⟩ 1 1 [Value.int .u8 ((y : Int) % 256)] rfl rfl (one_new _ _ _) (one_u8 _) (by unfold maxLen; omega) (by omega) (by simp; omega) ?_; intro v5 w5 hown5 hgrow5 _ hplace5))
              have hown6 : Owns w5 W.heap.size 5 v5 (Y ++ [y.toUInt8]) := by
                rw [← Hq.out] at hown5
                exact Owns.more1 (by simp) hown5
              have hb5 : Below W.heap.size W w5 := by
                have h3 : Grew wr w5 u5 v5 := ((Grew.refl wr _).alloc _).step hgrow5 (by simpa using hplace5)
                exact hbel.trans (h3.below hbz (fun k hk => (World.ownsRow.lt hown1 k hk).1))
              go_roundw
              case rel => exact ⟨i + 1, (k : Int) - 1, by omega, by have := Hz.out; omega, by go_num, by rw [Hsn2.out]; exact hown6, hb5⟩
              case measure => simp [intOf]
        · obtain rfl : i = 8 := by omega
          obtain rfl : z = -1 := by omega
          rw [List.take_of_length_le (Nat.le_of_eq (bytes8_length _)), ← Hfin.out] at hown
          have hbase := hown.lt
          obtain ⟨A6, c6, rfl, h61, h62, h63⟩ := hown.slice
          obtain ⟨F, hF⟩ : ∃ F, fullF l = F := ⟨_, rfl⟩
          have hfc := fullF_chunks l
          rw [hF] at hfc h61 h63 ⊢
          have hshF : shaF l = outF (hashF roundL (chunksF l) beginL F) := by unfold shaF; rw [hF]
          obtain ⟨C, hC⟩ : ∃ C, chunksF l = C := ⟨_, rfl⟩
          rw [hC] at hfc hshF
          have hFl : F.length ≤ 140737488355328 := by rw [← hF, fullF_length, Hn.out]; omega
          have hbW : Below w.heap.size w wr := hb2.trans (hbel.mono (by omega))
          have hX6 : BsX wr (w.heap.size + 1) wr.heap.size A6 F := fun hp => by
            obtain ⟨b, off, e, hbb, hcell⟩ := h63 hp
            refine ⟨b, off, e, hbb, ?_, hcell⟩
            intro e2
            subst e2
            have h2 := (hbase (w.heap.size + 1) (by
              rcases hown.2 with ⟨hv, _⟩ | ⟨g', cap', cur', hv, _⟩
              · injection hv with e1; rw [e] at e1; cases e1
              · injection hv with e1; rw [e] at e1; injection e1 with e1; injection e1 with e1; subst e1; rw [e]; rfl)).1
            omega
          have hHw := hH2.below hbel (by omega)
          have hKw := hK2.below hbel (by omega)
          have hRw := hR2.below hbel (by omega)
          have hHF := Lib.hid hF
          have HC := Lib.hid hC
          have Hfc := Lib.hid hfc
          have HshF := Lib.hid hshF
          have hgz : w.heap.size + 3 ≤ wr.heap.size := by have := hbel.size; omega
          clear hbase hown h63 hlen hbs2 hR2 hH2 hK2 hb2 hbel hF hC hshF hlt hz
          obtain ⟨nF, hnF⟩ : ∃ nF, F.length = nF := ⟨_, rfl⟩
          rw [hnF] at hfc h61 hFl ⊢
          have HnF := Lib.hid hnF
          obtain ⟨gh, hgh⟩ : ∃ g, g = w.heap.size + 1 := ⟨_, rfl⟩
          obtain ⟨gk, hgk⟩ : ∃ g, g = w.heap.size + 2 := ⟨_, rfl⟩
          obtain ⟨w4, rfl⟩ : ∃ wo : World, wo = wr := ⟨_, rfl⟩
          rw [← hgh] at hHw hX6
          rw [← hgk] at hKw
          have hC0 : 0 < C := by
            rcases Nat.eq_zero_or_pos C with h0 | h0
            · subst h0
              have h1 : (fullF l).length = 0 := by rw [hHF.out, HnF.out]; omega
              rw [fullF_length] at h1
              omega
            · exact h0
          obtain ⟨b6, off6, rfl, hb6, hn6, hcF⟩ := hX6 (by rw [HnF.out]; omega)
          have HcF := Lib.hid hcF
          have Hgh := Lib.hid hgh
          have Hgk := Lib.hid hgk
          have hghk : gh < gk ∧ gk < w4.heap.size ∧ w.heap.size < gh := by omega
          obtain ⟨hgh1, hgh2, hgh3⟩ := hghk
          have hfc1 : nF ≤ 64 * C := by omega
          have hfc2 : 64 * C ≤ nF := by omega
          clear hnF hcF hfc
          go_wp2_with fail
          rw [show w.heap.size + 1 + 1 = gk from by omega, show w.heap.size + 1 = gh from by omega]
          clear hgh hgk
          go_loopw [10] (fun at_ w5 => ∃ m a : Nat, m ≤ C ∧ 64 * m = a ∧ at_ = .int .i64 (a : Nat) ∧ Arr w5 gh 115 (wordCells (hashF roundL m beginL F)) ∧ Only (fun k => k = gh) w4 w5) (fun at_ _ => nF - (intOf at_).toNat)
          case atStart => exact ⟨0, 0, by omega, rfl, rfl, hHw, Only.refl _ _⟩
          case round =>
            obtain ⟨m, a, hmC, hma, rfl, hAr, hor⟩ := hrel
            obtain ⟨w5, rfl⟩ : ∃ wo : World, wo = wr := ⟨_, rfl⟩
            by_cases hlt : m < C
            ·
              have hlt1 : (a : Int) < (nF : Int) := by omega
              have hhl := hashF_length (ks := roundL) m F lenH
              have hhf := hashF_fit (ks := roundL) m F beginL_fit
              have hsn := hashF_snoc roundL m beginL F
              obtain ⟨H, hH⟩ : ∃ H, hashF roundL m beginL F = H := ⟨_, rfl⟩
              rw [hH] at hAr hhl hhf hsn
              obtain ⟨ch, hch⟩ : ∃ ch, (F.drop (64 * m)).take 64 = ch := ⟨_, rfl⟩
              have hchg : ∀ i, i < 64 → ch.getD i 0 = F.getD (a + i) 0 := fun i hi => by rw [← hch, ← hma]; exact chunk_get F m hi
              rw [hch] at hsn
              have hwl := wordsF_length ch
              have hwf := wordsF_fit ch
              have hsz5 := hor.size
              have hF5 : Hid (∀ p, p < nF → w5.cell? ⟨b6, off6 + p, none⟩ = some (.int .u8 ((F.getD p 0).toNat : Nat))) := fun p hp => by
                rw [World.cell?_of_block (hor.block b6 hb6 hn6)]; exact HcF.out p (by rw [HnF.out]; exact hp)
              have hK5 : Arr w5 gk 115 (wordCells roundL) := hKw.only hor (show ¬ gk = gh by omega)
              have Hchg := Lib.hid hchg
              have Hsn := Lib.hid hsn
              have HH := Lib.hid hH
              have Hma := Lib.hid hma
              have Hhl := Lib.hid hhl
              have Hwl := Lib.hid hwl
              clear hchg hsn hH hma hhl hwl
              have hownE : OwnsW (w5.alloc (.cells #[] 115)) w5.heap.size 115 (.slice (some ⟨w5.heap.size, 0, none⟩) 0 0) ((wordsF ch).take 0) := by
                rw [List.take_zero]
                exact ⟨rfl, .inr ⟨w5.heap.size, 0, #[], rfl, Nat.le_refl _, heap_alloc_new w5 _, Nat.le_refl _, by unfold maxLen; omega, rfl, rfl⟩⟩
              have hbE : Below w5.heap.size w5 (w5.alloc (.cells #[] 115)) := (Below.refl _ _).alloc (Nat.le_refl _) _
              go_wp2_with fail
              go_loopw [11, 12] (fun v t w6 => ∃ k : Nat, k ≤ 64 ∧ t = .int .i64 k ∧ OwnsW w6 w5.heap.size 115 v ((wordsF ch).take k) ∧ Below w5.heap.size w5 w6) (fun _ t _ => 64 - (intOf t).toNat)
              case atStart => exact ⟨0, by omega, rfl, hownE, hbE⟩
              case round =>
                clear hownE hbE
                obtain ⟨t, ht, rfl, hown, hbel⟩ := hrel
                obtain ⟨w6, rfl⟩ : ∃ wo : World, wo = wr := ⟨_, rfl⟩
                have hbz := hbel.size
                by_cases htl : t < 64
                · have hsn2 := take_snocD (wordsF ch) (t := t) (by rw [Hwl.out]; exact htl)
                  have htk : ((wordsF ch).take t).length = t := by rw [List.length_take, Hwl.out]; omega
                  obtain ⟨Y, hY⟩ : ∃ Y, (wordsF ch).take t = Y := ⟨_, rfl⟩
                  rw [hY] at hsn2 htk hown
                  have hown1 := hown
                  unfold OwnsW at hown1
                  rw [htk] at hown1
                  by_cases ht16 : t < 16
                  · as_aux_lemma =>
                    rw [wordsF_first ch ht16] at hsn2
                    have Hsn2 := Lib.hid hsn2
                    have Htk := Lib.hid htk
                    have HY := Lib.hid hY
                    have hd1 : decide ((t : Int) < 64) = true := by simp; omega
                    have hd2 : decide ((t : Int) < 16) = true := by simp; omega
                    clear hsn2 htk hY hown
                    go_wp2_with fail
                    clear hd1 hd2
                    go_loopw [13, 14] (fun x j w7 => ∃ k y : Nat, k ≤ 4 ∧ j = .int .i64 k ∧ x = .int .u32 y ∧ Hid (pwF ch (4 * t + k) t = y) ∧ y < 4294967296 ∧ w7 = w6) (fun _ j _ => 4 - (intOf j).toNat)
                    case atStart => exact ⟨0, 0, by omega, rfl, rfl, Lib.hid (pwF_none ch t), by omega, rfl⟩
                    case round =>
                      obtain ⟨j, y, hjj, rfl, rfl, hy, hyl, rfl⟩ := hrel
                      by_cases hj4 : j < 4
                      · have hy24 := pwF_lt4 ch t hj4
                        have hyn := pwF_succ4 ch t hj4
                        rw [hy.out] at hy24 hyn
                        obtain ⟨p, hp⟩ : ∃ p, a + 4 * t + j = p := ⟨_, rfl⟩
                        rw [Hchg.out (4 * t + j) (by omega), show a + (4 * t + j) = p from by omega] at hyn
                        have hpF : p < nF := by have := Hma.out; omega
                        have hcp := hF5.out p hpF
                        have hcp6 : wr.cell? ⟨b6, off6 + p, none⟩ = some (.int .u8 ((F.getD p 0).toNat : Nat)) := by
                          rw [World.cell?_of_block (hbel.block b6 (by omega))]; exact hcp
                        obtain ⟨x, hx⟩ : ∃ x, (F.getD p 0).toNat = x := ⟨_, rfl⟩
                        have hx256 : x < 256 := by rw [← hx]; exact UInt8.toNat_lt _
                        rw [hx] at hcp6 hyn
                        have hpI : (a : Int) + 4 * (t : Int) + (j : Int) = (p : Int) := by omega
                        have hpl2 : (p : Int) < (nF : Int) := by omega
                        have Hyn := Lib.hid hyn
                        have hd1 : decide ((j : Int) < 4) = true := by simp; omega
                        clear hcp hx hyn hp
                        go_wp2_with fail
                        go_roundw
                        case rel => exact ⟨j + 1, y * 256 + x, by omega, by go_num, by go_num, Hyn, by omega, (by first | rfl | trivial)⟩
                        case measure => simp [intOf]; omega
                      · obtain rfl : j = 4 := by omega
                        have hyw : word4 ch t = y := by rw [← hy.out]; exact (pwF_full ch t).symm
                        rw [hyw] at Hsn2
                        have Hyw := Lib.hid hyw
                        clear hyw
                        have hd1 : decide (((4 : Nat) : Int) < 4) = false := by simp
                        go_wp2_with (at_builtin; (refine wpList_append_own_at _ rfl _ _ 113 rfl w5.heap.size 115 j0 (.int .u32 0) 1 4 Try.underlying113 hj hj0 hj1 hj2 rfl (by decide) u11 _ _ rfl (World.ownsRow.alloc hown1 _) ⟨wr.heap.size, 0, none⟩ 1 1 [Value.int .u32 (y : Int)] rfl rfl (one_new _ _ _) (one_u32 _) (by unfold maxLen; omega) (by omega) (by simp; omega) ?_; intro v7 w7 hown7 hgrow7 _ hplace7))
                        have hown8 : OwnsW w7 w5.heap.size 115 v7 (Y ++ [y]) := by
                          rw [← Htk.out] at hown7
                          exact OwnsW.more1 rfl hown7
                        have hb8 : Below w5.heap.size w5 w7 := by
                          have h3 : Grew wr w7 u11 v7 := ((Grew.refl wr _).alloc _).step hgrow7 (by simpa using hplace7)
                          exact hbel.trans (h3.below hbz (fun k hk => (World.ownsRow.lt hown1 k hk).1))
                        go_roundw
                        case rel => exact ⟨t + 1, by omega, by go_num, by rw [Hsn2.out]; exact hown8, hb8⟩
                        case measure => simp [intOf]; omega
                  · as_aux_lemma =>
                    obtain ⟨b, c1, hv1, hc1, hc1m, hbB, hbb, hcell⟩ := OwnsW.at0 hown (by omega)
                    rw [htk] at hv1 hc1
                    subst hv1
                    have hcell2 : ∀ i, i < t → w6.cell? ⟨b, i, none⟩ = some (.int .u32 (((wordsF ch).getD i 0 : Nat) : Int)) := fun i hi => by
                      rw [hcell i (by omega), ← hY]
                      simp [List.getD, hi]
                    obtain ⟨t2, e2⟩ : ∃ t2, t - 2 = t2 := ⟨_, rfl⟩
                    obtain ⟨t15, e15⟩ : ∃ t2, t - 15 = t2 := ⟨_, rfl⟩
                    obtain ⟨t7, e7⟩ : ∃ t2, t - 7 = t2 := ⟨_, rfl⟩
                    obtain ⟨t16, e16⟩ : ∃ t2, t - 16 = t2 := ⟨_, rfl⟩
                    rw [wordsF_next ch (by omega) htl, e2, e15, e7, e16] at hsn2
                    have k2 := hcell2 t2 (by omega)
                    have k15 := hcell2 t15 (by omega)
                    have k7 := hcell2 t7 (by omega)
                    have k16 := hcell2 t16 (by omega)
                    have b2 := hwf.get t2
                    have b15 := hwf.get t15
                    have b7 := hwf.get t7
                    have b16 := hwf.get t16
                    obtain ⟨p, ep⟩ : ∃ p, (wordsF ch).getD t2 0 = p := ⟨_, rfl⟩
                    obtain ⟨q, eq⟩ : ∃ p, (wordsF ch).getD t15 0 = p := ⟨_, rfl⟩
                    obtain ⟨r, er⟩ : ∃ p, (wordsF ch).getD t7 0 = p := ⟨_, rfl⟩
                    obtain ⟨s, es⟩ : ∃ p, (wordsF ch).getD t16 0 = p := ⟨_, rfl⟩
                    rw [ep] at hsn2 k2 b2
                    rw [eq] at hsn2 k15 b15
                    rw [er] at hsn2 k7 b7
                    rw [es] at hsn2 k16 b16
                    obtain ⟨a1, a2, a3, a4, x1, x2, g1, g2, g3, g4, g5, g6, ⟨g7, g7'⟩, ⟨g8, g8'⟩, ⟨g9, g9'⟩⟩ := w_steps r s b2 b15
                    obtain ⟨y, ey⟩ : ∃ y, schN p q r s = y := ⟨_, rfl⟩
                    rw [ey] at hsn2 g9 g9'
                    have w2e : IntKind.i64.wrap ((t : Int) - 2) = (t2 : Int) := by rw [IntWalk.i64_in _ (by omega)]; omega
                    have w15e : IntKind.i64.wrap ((t : Int) - 15) = (t15 : Int) := by rw [IntWalk.i64_in _ (by omega)]; omega
                    have w7e : IntKind.i64.wrap ((t : Int) - 7) = (t7 : Int) := by rw [IntWalk.i64_in _ (by omega)]; omega
                    have w16e : IntKind.i64.wrap ((t : Int) - 16) = (t16 : Int) := by rw [IntWalk.i64_in _ (by omega)]; omega
                    have l2 : (t2 : Int) < (t : Int) := by omega
                    have l15 : (t15 : Int) < (t : Int) := by omega
                    have l7 : (t7 : Int) < (t : Int) := by omega
                    have l16 : (t16 : Int) < (t : Int) := by omega
                    have hd1 : decide ((t : Int) < 64) = true := by simp; omega
                    have hd2 : decide ((t : Int) < 16) = false := by simp; omega
                    have Hsn2 := Lib.hid hsn2
                    have Htk := Lib.hid htk
                    have HY := Lib.hid hY
                    have gY7 : Hid ((wordCells Y)[t7]? = some (.int .u32 (r : Nat))) := by
                      show _ = _
                      rw [wordCells_get (by omega), ← hY, ← er]; simp [List.getD, show t7 < t from by omega]
                    have gY16 : Hid ((wordCells Y)[t16]? = some (.int .u32 (s : Nat))) := by
                      show _ = _
                      rw [wordCells_get (by omega), ← hY, ← es]; simp [List.getD, show t16 < t from by omega]
                    clear hsn2 htk hY hown ep eq er es ey e2 e15 e7 e16 hcell hcell2
                    go_wp2_with fail
                    clear hd1 hd2
                    go_quiet (fail)
                    go_wp2_with fail
                    obtain ⟨wq, hwq⟩ : ∃ wq, wq = w6.drewN nq := ⟨_, rfl⟩
                    rw [← hwq]
                    have k7q : wq.cell? ⟨b, t7, none⟩ = some (.int .u32 (r : Nat)) := by rw [hwq]; exact k7
                    have k16q : wq.cell? ⟨b, t16, none⟩ = some (.int .u32 (s : Nat)) := by rw [hwq]; exact k16
                    have hown1q : Hid (wq.ownsRow w5.heap.size 115 1 (.slice (some ⟨b, 0, none⟩) t c1) t (wordCells Y)) := by rw [hwq]; exact hown1
                    have hbelq : Below w5.heap.size w5 wq := by rw [hwq]; exact Below.dN hbel nq
                    have hbzq := hbelq.size
                    have hbq : b < wq.heap.size := by rw [hwq]; exact hbb
                    clear hwq k2 k15 k7 k16 hown1 hbel hbz
                    go_region_held3 (fun w' => w'.cell? ⟨b, t7, none⟩ = some (.int .u32 (r : Nat)) ∧ w'.cell? ⟨b, t16, none⟩ = some (.int .u32 (s : Nat))) ((first | exact ⟨k7q, k16q⟩ | exact ⟨(World.cell?_alloc_lt wq _ ⟨b, t7, none⟩ hbq).trans k7q, (World.cell?_alloc_lt wq _ ⟨b, t16, none⟩ hbq).trans k16q⟩ | exact ⟨hk7, hk16⟩))
                      (first
                        | (go_at_call 77; refine Calls.mono (rrot_at _ _ (by assumption) (by decide) (by decide) _) ?_; rintro e w' ⟨rfl, rfl⟩)
                        | (go_at_call 78; refine Calls.mono (rshr_at _ _ (by assumption) (by decide) (by decide) _) ?_; rintro e w' ⟨rfl, rfl⟩)
                        | (refine step_append_row (by rfl) _ _ 113 (by rfl) w5.heap.size 115 j0 (.int .u32 0) 1 4 Try.underlying113 hj hj0 hj1 hj2 rfl (by decide) b t c1 (wordCells Y) (by rfl) (World.ownsRow.alloc hown1q.out _) ⟨wq.heap.size, 0, none⟩ 1 1 [Value.int .u32 (y : Int)] (by rfl) (by rfl) (one_new _ _ _) (one_u32 _) (by unfold maxLen; omega) (by omega) (by simp; omega) ?_; intro v7 w7 hown7 hgrow7 hplace7 hkept; have hk7 := hkept _ _ gY7.out; have hk16 := hkept _ _ gY16.out; clear hkept))
                    have hown8 : OwnsW w7 w5.heap.size 115 v7 (Y ++ [y]) := by
                      rw [← Htk.out] at hown7
                      exact OwnsW.more1 rfl hown7
                    have hb8 : Below w5.heap.size w5 w7 := by
                      have h3 := (Below.refl w5.heap.size _).grown hgrow7 (by simp; omega) (fun k e => by injection e with e; omega)
                      refine hbelq.trans (Below.trans ?_ h3)
                      exact ⟨rfl, rfl, rfl, by simp, fun k hk => Below.heap_alloc wq _ k (by omega)⟩
                    clear hown7 hgrow7 hplace7 hk7 hk16 k7q k16q g1 g2 g3 g4 g5 g6 g7 g7' g8 g8' g9 g9' w2e w15e w7e w16e
                    go_wp2_with fail
                    go_roundw
                    case rel => exact ⟨t + 1, by omega, by go_num, by rw [Hsn2.out]; exact hown8, hb8⟩
                    case measure => simp [intOf]; omega
                ·
                  have ht64 : t = 64 := by omega
                  have hd1 : decide ((t : Int) < 64) = false := by simp; omega
                  rw [ht64, List.take_of_length_le (Nat.le_of_eq Hwl.out)] at hown
                  obtain ⟨gw, cw, hvw, hwc, hwcm, hgwB, hgw, hwcell⟩ := OwnsW.at0 hown (by rw [Hwl.out]; omega)
                  rw [Hwl.out] at hvw hwc
                  subst hvw
                  have hWc : Hid (∀ i, i < 64 → w6.cell? ⟨gw, i, none⟩ = some (.int .u32 (((wordsF ch).getD i 0 : Nat) : Int))) := fun i hi => hwcell i (by rw [Hwl.out]; exact hi)
                  have hHr : Hid (Arr w6 gh 115 (wordCells H)) := hAr.below hbel (by omega)
                  have hKr : Hid (Arr w6 gk 115 (wordCells roundL)) := hK5.below hbel (by omega)
                  have hsrc : Hid (∀ j u, (wordCells H)[j]? = some u → (w6.alloc (.cells #[] 115)).cell? ((⟨gh, 0, none⟩ : Addr).add j) = some u) := fun j u hj => by
                    have hadd : (⟨gh, 0, none⟩ : Addr).add j = ⟨gh, j, none⟩ := by unfold Addr.add; split <;> simp_all
                    rw [hadd, (hHr.out.alloc _).cell]; exact hj
                  have hownE : Hid ((w6.alloc (.cells #[] 115)).ownsRow w6.heap.size 115 1 (.slice (some ⟨w6.heap.size, 0, none⟩) 0 0) 0 []) :=
                    ⟨rfl, .inr ⟨w6.heap.size, 0, #[], rfl, Nat.le_refl _, heap_alloc_new w6 _, Nat.le_refl _, by unfold maxLen; omega, rfl, rfl⟩⟩
                  obtain ⟨t0, rfl⟩ : ∃ x, x = t := ⟨_, rfl⟩
                  clear hown hwcell ht64 htl
                  go_wp2_with (at_builtin; (refine wpList_append_own_at _ rfl _ _ 113 rfl w6.heap.size 115 j0 (.int .u32 0) 1 4 Try.underlying113 hj hj0 hj1 hj2 rfl (by decide) (.slice (some ⟨w6.heap.size, 0, none⟩) 0 0) 0 [] rfl hownE.out ⟨gh, 0, none⟩ 8 8 (wordCells H) rfl (by rw [wordCells_length, Hhl.out]) hsrc.out (wordCells_one H) (by unfold maxLen; omega) (by omega) (by simp) ?_; intro v7 w7 hown7 hgrow7 _ hplace7))
                  clear hd1
                  have hbz6 : w6.heap.size ≤ (w6.alloc (.cells #[] 115)).heap.size := by simp
                  have hb7 : Below w6.heap.size w6 w7 :=
                    ((Below.refl _ w6).alloc (Nat.le_refl _) _).trans ((Below.refl w6.heap.size _).grown hgrow7 hbz6 (fun k e => by simp [Value.ownBlock] at e; omega))
                  have hown8 : OwnsW w7 w6.heap.size 115 v7 H := by
                    rw [List.nil_append] at hown7
                    unfold OwnsW
                    rw [Hhl.out]
                    exact hown7
                  obtain ⟨gv, cv, hvv, hvc, hvcm, hgvB, hgv, hvcell⟩ := OwnsW.at0 hown8 (by rw [Hhl.out]; omega)
                  rw [Hhl.out] at hvv hvc
                  subst hvv
                  rw [Hhl.out] at hvcell
                  clear hown7 hgrow7 hplace7 hown8 hownE hsrc hbz6
                  go_loopw [17, 18] (fun v t w8 => ∃ k g c' : Nat, k ≤ 64 ∧ t = .int .i64 k ∧ v = .slice (some ⟨g, 0, none⟩) 8 c' ∧ (8 ≤ c' ∧ g < w8.heap.size ∧ w6.heap.size ≤ g) ∧ Hid (∀ i, i < 8 → w8.cell? ⟨g, i, none⟩ = some (.int .u32 (((roundsF H roundL (wordsF ch) k).getD i 0 : Nat) : Int))) ∧ Below w6.heap.size w6 w8) (fun _ t _ => 64 - (intOf t).toNat)
                  case atStart => exact ⟨0, gv, cv, by omega, rfl, rfl, ⟨hvc, hgv, hgvB⟩, hvcell, hb7⟩
                  case round =>
                    clear hvcell hb7
                    obtain ⟨k, g, c', hk, rfl, rfl, ⟨hc8, hgw8, hgw6⟩, hcell, hbel8⟩ := hrel
                    obtain ⟨w8, rfl⟩ : ∃ wo : World, wo = wr := ⟨_, rfl⟩
                    have hbz8 := hbel8.size
                    by_cases hk64 : k < 64
                    · as_aux_lemma =>
                      have hvl := roundsF_length roundL (wordsF ch) k Hhl.out
                      have hvf := roundsF_fit roundL (wordsF ch) k hhf
                      have hnx : roundsF H roundL (wordsF ch) (k + 1) = roundF (roundsF H roundL (wordsF ch) k) (roundL.getD k 0) ((wordsF ch).getD k 0) := rfl
                      obtain ⟨v, hv⟩ : ∃ v, roundsF H roundL (wordsF ch) k = v := ⟨_, rfl⟩
                      have hcell2 := hcell.out
                      rw [hv] at hvl hvf hnx hcell2
                      have hWr : w8.cell? ⟨gw, k, none⟩ = some (.int .u32 ((wordsF ch).getD k 0 : Nat)) := by
                        rw [World.cell?_of_block (hbel8.block gw hgw)]; exact hWc.out k hk64
                      have hKc : w8.cell? ⟨gk, k, none⟩ = some (.int .u32 (roundL.getD k 0 : Nat)) := by
                        rw [World.cell?_of_block (hbel8.block gk (by omega)), hKr.out.cell]; exact wordCells_get (by rw [lenK]; exact hk64)
                      obtain ⟨kk, ekk⟩ : ∃ x, roundL.getD k 0 = x := ⟨_, rfl⟩
                      obtain ⟨ww, eww⟩ : ∃ x, (wordsF ch).getD k 0 = x := ⟨_, rfl⟩
                      rw [ekk] at hKc hnx
                      rw [eww] at hWr hnx
                      have b0 := hvf.get 0
                      have b1 := hvf.get 1
                      have b2 := hvf.get 2
                      have b3 := hvf.get 3
                      have b4 := hvf.get 4
                      have b5 := hvf.get 5
                      have b6v := hvf.get 6
                      have b7 := hvf.get 7
                      have c0 := hcell2 0 (by omega)
                      have c1v := hcell2 1 (by omega)
                      have c2 := hcell2 2 (by omega)
                      have c3v := hcell2 3 (by omega)
                      have c4 := hcell2 4 (by omega)
                      have c5 := hcell2 5 (by omega)
                      have c6v := hcell2 6 (by omega)
                      have c7 := hcell2 7 (by omega)
                      unfold roundF at hnx
                      obtain ⟨v0, e0⟩ : ∃ x, v.getD 0 0 = x := ⟨_, rfl⟩
                      obtain ⟨v1, e1⟩ : ∃ x, v.getD 1 0 = x := ⟨_, rfl⟩
                      obtain ⟨v2', e2⟩ : ∃ x, v.getD 2 0 = x := ⟨_, rfl⟩
                      obtain ⟨v3', e3⟩ : ∃ x, v.getD 3 0 = x := ⟨_, rfl⟩
                      obtain ⟨v4, e4⟩ : ∃ x, v.getD 4 0 = x := ⟨_, rfl⟩
                      obtain ⟨v5, e5⟩ : ∃ x, v.getD 5 0 = x := ⟨_, rfl⟩
                      obtain ⟨v6, e6⟩ : ∃ x, v.getD 6 0 = x := ⟨_, rfl⟩
                      obtain ⟨v7', e7⟩ : ∃ x, v.getD 7 0 = x := ⟨_, rfl⟩
                      simp only [e0, e1, e2, e3, e4, e5, e6, e7] at hnx b0 b1 b2 b3 b4 b5 b6v b7 c0 c1v c2 c3v c4 c5 c6v c7
                      obtain ⟨a1, a2, a3, a4, a5, a6, x1, x2, x3, h1, h2, h3, h4, h4l, h5, h6, ⟨h7, h7'⟩, ⟨h8, h8'⟩, ⟨h9, h9'⟩, ⟨h10, h10'⟩⟩ := x_steps2 (h := v7') (k := kk) (w := ww) b4 b5 b6v
                      obtain ⟨X, hX⟩ : ∃ X, xN v4 v5 v6 v7' kk ww = X := ⟨_, rfl⟩
                      rw [hX] at h10 h10'
                      have HX := Lib.hid hX
                      have i0 : 0 ≤ (k : Int) := by omega
                      have i1 : (k : Int) < 64 := by omega
                      have hd1 : decide ((k : Int) < 64) = true := by simp; omega
                      have Hnx := Lib.hid hnx
                      clear hnx hv hvl hX e0 e1 e2 e3 e4 e5 e6 e7 ekk eww hcell hcell2
                      go_wp2_with fail
                      clear hd1
                      go_quiet ((go_at_call 77; exact Calls.quiet_of_same (rrot_at _ _ (by assumption) (by decide) (by decide) _)))
                      clear h1 h2 h3 h4 h4l h5 h6 h7 h7' h8 h8' h9 h9' h10 h10'
                      obtain ⟨n1, rfl⟩ : ∃ n1, n1 = nq := ⟨_, rfl⟩
                      obtain ⟨d1, d2, d3, d4, d5, d6, d7, h1, h2, h3, h4, h5, h6, h7, ⟨h8, h8'⟩⟩ := y_steps b0 b1 b2
                      obtain ⟨Yy, hYy⟩ : ∃ Y, yN v0 v1 v2' = Y := ⟨_, rfl⟩
                      rw [hYy] at h8 h8'
                      have HYy := Lib.hid hYy
                      clear hYy
                      go_wp2_with fail
                      go_quiet ((go_at_call 77; exact calls_joined (rrot_at _ _ (by assumption) (by decide) (by decide))))
                      clear h1 h2 h3 h4 h5 h6 h7 h8 h8'
                      obtain ⟨h11, h11'⟩ := SumIs.mk v3' X
                      obtain ⟨h12, h12'⟩ := SumIs.mk X Yy
                      obtain ⟨D, hD⟩ : ∃ D, wadd v3' X = D := ⟨_, rfl⟩
                      obtain ⟨T, hT⟩ : ∃ D, wadd X Yy = D := ⟨_, rfl⟩
                      rw [hD] at h11 h11'
                      rw [hT] at h12 h12'
                      have HD := Lib.hid hD
                      have HT := Lib.hid hT
                      clear hD hT
                      go_wp2_with fail
                      refine wp_region_still_tail 26 (by kernel_rfl) (by kernel_rfl) ?_
                      simp only [List.take_succ_cons, List.take_zero, List.drop_succ_cons, List.drop_zero]
                      change wpStill _ _ ((w8.drewN n1).drewN nq).drew (fun a' => wpList _ _ _ _ a' ((w8.drewN n1).drewN nq).drew) _ _
                      obtain ⟨wq, hwq⟩ : ∃ wq, wq = ((w8.drewN n1).drewN nq).drew := ⟨_, rfl⟩
                      rw [← hwq]
                      have q0 : wq.cell? ⟨g, 0, none⟩ = some (.int .u32 (v0 : Nat)) := by rw [hwq]; exact c0
                      have q1 : wq.cell? ⟨g, 1, none⟩ = some (.int .u32 (v1 : Nat)) := by rw [hwq]; exact c1v
                      have q2 : wq.cell? ⟨g, 2, none⟩ = some (.int .u32 (v2' : Nat)) := by rw [hwq]; exact c2
                      have q3 : wq.cell? ⟨g, 3, none⟩ = some (.int .u32 (v3' : Nat)) := by rw [hwq]; exact c3v
                      have q4 : wq.cell? ⟨g, 4, none⟩ = some (.int .u32 (v4 : Nat)) := by rw [hwq]; exact c4
                      have q5 : wq.cell? ⟨g, 5, none⟩ = some (.int .u32 (v5 : Nat)) := by rw [hwq]; exact c5
                      have q6 : wq.cell? ⟨g, 6, none⟩ = some (.int .u32 (v6 : Nat)) := by rw [hwq]; exact c6v
                      have hbq : Below w6.heap.size w6 wq := by rw [hwq]; exact ⟨hbel8.os, hbel8.tape, hbel8.output, hbel8.size, hbel8.block⟩
                      have hbqz := hbq.size
                      have hnew : Hid (∀ i, i < 8 → (wq.alloc (.cells (wordCells [T, v0, v1, v2', D, v4, v5, v6]).toArray 115)).cell? ⟨wq.heap.size, i, none⟩ = some (.int .u32 (((roundsF H roundL (wordsF ch) (k + 1)).getD i 0 : Nat) : Int))) := fun i hi => by
                        rw [(Arr.new wq 115 (wordCells [T, v0, v1, v2', D, v4, v5, v6])).cell i, Hnx.out, HX.out, HYy.out, HD.out, HT.out]
                        exact wordCells_get hi
                      have hbn : Hid (Below w6.heap.size w6 (wq.alloc (.cells (wordCells [T, v0, v1, v2', D, v4, v5, v6]).toArray 115))) := hbq.alloc (by omega) _
                      clear hwq c0 c1v c2 c3v c4 c5 c6v c7
                      repeat still_step
                      refine wpStill_nil ?_
                      go_wp2_with (refine wpList_build_vals rfl 113 115 8 _ rfl (wordCells [T, v0, v1, v2', D, v4, v5, v6]) Try.underlying113 (by kernel_rfl) (by kernel_rfl) rfl (by decide) (by decide) (by intro v hv; simp [wordCells] at hv; rcases hv with rfl | rfl | rfl | rfl | rfl | rfl | rfl | rfl <;> rfl) rfl ?_)
                      go_roundw
                      case rel => exact ⟨k + 1, wq.heap.size, 8, by omega, by go_num, rfl, ⟨by omega, by simp, by omega⟩, hnew, hbn.out⟩
                      case measure => simp [intOf]; omega
                    ·
                      have hk64' : k = 64 := by omega
                      have hd1 : decide ((k : Int) < 64) = false := by simp; omega
                      rw [hk64'] at hcell
                      have hvl := roundsF_length roundL (wordsF ch) 64 Hhl.out
                      have hmix : mixF roundL H ch = addF H (roundsF H roundL (wordsF ch) 64) := rfl
                      obtain ⟨v, hv⟩ : ∃ v, roundsF H roundL (wordsF ch) 64 = v := ⟨_, rfl⟩
                      have hcell2 := hcell.out
                      rw [hv] at hvl hmix hcell2
                      rw [hmix] at Hsn
                      have hHr8 : Arr w8 gh 115 (wordCells (takeDrop (addF H v) H 0)) := by rw [takeDrop_zero]; exact hHr.out.below hbel8 (by omega)
                      have hadl : (addF H v).length = H.length := by rw [addF_length, Hhl.out]
                      have Hadl := Lib.hid hadl
                      have Hcell := Lib.hid hcell2
                      have Hvl := Lib.hid hvl
                      have Hmix := Lib.hid hmix
                      obtain ⟨k0, rfl⟩ : ∃ x, x = k := ⟨_, rfl⟩
                      clear hv hvl hmix hcell hcell2 hadl hk64' hk64
                      go_wp2_with fail
                      clear hd1
                      go_loopw [21] (fun i w9 => ∃ k : Nat, k ≤ 8 ∧ i = .int .i64 k ∧ Arr w9 gh 115 (wordCells (takeDrop (addF H v) H k)) ∧ Only (fun k => k = gh) w8 w9 ∧ w9.heap.size = w8.heap.size) (fun i _ => 8 - (intOf i).toNat)
                      case atStart => exact ⟨0, by omega, rfl, hHr8, Only.refl _ _, rfl⟩
                      case round =>
                        clear hHr8
                        obtain ⟨i, hi8, rfl, hA9, ho9, hz9⟩ := hrel
                        obtain ⟨w9, rfl⟩ : ∃ wo : World, wo = wr := ⟨_, rfl⟩
                        by_cases hlt8 : i < 8
                        · as_aux_lemma =>
                          have hcv : w9.cell? ⟨g, i, none⟩ = some (.int .u32 (v.getD i 0 : Nat)) := by
                            rw [World.cell?_of_block (ho9.block g hgw8 (show ¬ g = gh by omega))]; exact Hcell.out i hlt8
                          have hch9 : w9.cell? ⟨gh, i, none⟩ = some (.int .u32 (H.getD i 0 : Nat)) := by
                            rw [hA9.cell, wordCells_get (by rw [takeDrop_length Hadl.out (by rw [addF_length]; omega), addF_length]; exact hlt8), takeDrop_get Hadl.out (by rw [addF_length]; exact hlt8)]
                          have hf9 := hA9.frozen i
                          have hset := takeDrop_set (a := addF H v) (b := H) (k := i) Hadl.out (by rw [addF_length]; exact hlt8)
                          rw [addF_get H v hlt8] at hset
                          obtain ⟨hs1, hs1'⟩ := SumIs.mk (H.getD i 0) (v.getD i 0)
                          obtain ⟨x, hx⟩ : ∃ x, wadd (H.getD i 0) (v.getD i 0) = x := ⟨_, rfl⟩
                          rw [hx] at hs1 hs1' hset
                          obtain ⟨av, hav⟩ : ∃ x, v.getD i 0 = x := ⟨_, rfl⟩
                          obtain ⟨bv, hbv⟩ : ∃ x, H.getD i 0 = x := ⟨_, rfl⟩
                          rw [hav] at hcv hs1 hs1'
                          rw [hbv] at hch9 hs1 hs1'
                          have hA10 : Arr (w9.setCell ⟨gh, i, none⟩ (.int .u32 (x : Nat))) gh 115 (wordCells (takeDrop (addF H v) H (i + 1))) := by
                            rw [← hset, ← wordCells_set]; exact hA9.set _ _
                          have ho10 := ho9.setCell (p := ⟨gh, i, none⟩) (.inl rfl) (.int .u32 (x : Nat))
                          have HA10 := Lib.hid hA10
                          have HO10 := Lib.hid ho10
                          have Hsz9 := Lib.hid hz9
                          have i0 : 0 ≤ (i : Int) := by omega
                          have i1 : (i : Int) < 8 := by omega
                          have hd1 : decide ((i : Int) < 8) = true := by simp; omega
                          clear hA10 ho10 hz9 hav hbv hset hx hA9 ho9
                          go_wp2_with fail
                          clear hd1
                          refine wp_region_still_tail 9 (by kernel_rfl) (by kernel_rfl) ?_
                          simp only [List.take_succ_cons, List.take_zero, List.drop_succ_cons, List.drop_zero]
                          change wpStill _ _ w9.drew (fun a' => wpList _ _ _ _ a' w9.drew) _ _
                          repeat still_step
                          refine wpStill_nil ?_
                          go_wp2_with fail
                          go_roundw
                          case rel => exact ⟨i + 1, by omega, by go_num, HA10.out, Only.step HO10.out ⟨rfl, rfl, rfl, Nat.le_refl _, fun _ _ => rfl⟩, by simpa [World.setCell] using Hsz9.out⟩
                          case measure => simp [intOf]; omega
                        · have hd1 : decide ((i : Int) < 8) = false := by simp; omega
                          rw [takeDrop_done Hadl.out (by rw [addF_length]; omega), ← Hsn.out] at hA9
                          have hofin : Only (fun k => k = gh) w4 w9 := ((hor.step hbel).step hbel8).trans ho9
                          have HA9 := Lib.hid hA9
                          obtain ⟨i9, rfl⟩ : ∃ x, x = i := ⟨_, rfl⟩
                          have ha2 := Hma.out
                          have hamax : (a : Int) ≤ 140737488355328 := by omega
                          have ham : 64 * (m + 1) = a + 64 := by omega
                          have Ham := Lib.hid ham
                          clear hA9 ho9 hz9 hlt8 hi8 ha2 ham
                          go_wp2_with fail
                          go_roundw
                          case rel => exact ⟨m + 1, a + 64, by omega, Ham.out, by go_num, HA9.out, hofin⟩
                          case measure => simp [intOf]; omega
            · as_aux_lemma =>
              have hmC' : m = C := by omega
              have hd1 : decide ((a : Int) < (nF : Int)) = false := by simp; omega
              rw [hmC'] at hAr
              have hHfl := hashF_length (ks := roundL) C F lenH
              have hHff := hashF_fit (ks := roundL) C F beginL_fit
              obtain ⟨Hf, hHf⟩ : ∃ H, hashF roundL C beginL F = H := ⟨_, rfl⟩
              have hsha : shaF l = outF Hf := by rw [HshF.out, hHf]
              rw [hHf] at hAr hHfl hHff
              have hR5 : Arr w5 w.heap.size 24 (Lib.byteCells zeros) := hRw.only hor (show ¬ w.heap.size = gh by omega)
              have hb5 : Below w.heap.size w w5 := hbW.trans (hor.below (by omega) (by rintro k rfl; omega))
              have h5z := hor.size
              obtain ⟨Wd, hWd⟩ : ∃ Wd, Wd = (w5.alloc (.cells (Lib.byteCells zeros).toArray 24)).setRow w5.heap.size (Lib.byteCells zeros).toArray := ⟨_, rfl⟩
              have hD0 : (w5.alloc (.cells (Lib.byteCells zeros).toArray 24)).heap[w5.heap.size]? = some (.cells (Lib.byteCells zeros).toArray 24 (0, 0)) := heap_alloc_new w5 _
              have hWd2 : Wd = w5.alloc (.cells (Lib.byteCells zeros).toArray 24) := by rw [hWd]; exact setRow_idle hD0
              have hWds : Wd.heap.size = w5.heap.size + 1 := by rw [hWd2]; simp
              have hAd : Arr Wd w5.heap.size 24 (Lib.byteCells (tdB (outF Hf) zeros 0)) := by rw [tdB_zero, hWd2]; exact Arr.new w5 _ _
              have hHd : Arr Wd gh 115 (wordCells Hf) := by rw [hWd2]; exact hAr.alloc _
              have hRd : Arr Wd w.heap.size 24 (Lib.byteCells zeros) := by rw [hWd2]; exact hR5.alloc _
              have hbd : Below w.heap.size w Wd := by rw [hWd2]; exact hb5.alloc (by omega) _
              have Hz1 := Lib.hid (show (Lib.byteCells zeros).toArray.all (·.oneCell') = true by simpa using byteCells_one zeros)
              have Hzi := Lib.hid (show (Try.prog.info? 24).map (·.size) = some (Lib.byteCells zeros).toArray.size by rw [show (Lib.byteCells zeros).toArray.size = 32 from by simp [Lib.byteCells, zeros]]; exact digInfo)
              have HD0 := Lib.hid hD0
              have HWd := Lib.hid hWd
              have Hsha := Lib.hid hsha
              have Hout := Lib.hid (outF_length hHfl)
              have HHfl := Lib.hid hHfl
              clear hD0 hWd hWd2 hHf hsha hHfl hR5 hb5 hAr hmC' hor hmC
              go_wp2_with (refine wpList_store_row rfl _ _ _ rfl w5.heap.size (Lib.byteCells zeros).toArray rfl rfl 24 (Lib.byteCells zeros).toArray HD0.out Hzi.out rfl Hz1.out ?_
                           change wpList _ _ _ _ _ ((w5.alloc (.cells (Lib.byteCells zeros).toArray 24)).setRow w5.heap.size (Lib.byteCells zeros).toArray)
                           rw [← HWd.out])
              clear hd1
              go_loopw [23] (fun i w6 => ∃ k : Nat, k ≤ 32 ∧ i = .int .i64 k ∧ Arr w6 w5.heap.size 24 (Lib.byteCells (tdB (outF Hf) zeros k)) ∧ Only (fun k => k = w5.heap.size) Wd w6 ∧ w6.heap.size = Wd.heap.size) (fun i _ => 32 - (intOf i).toNat)
              case atStart => exact ⟨0, by omega, rfl, hAd, Only.refl _ _, rfl⟩
              case round =>
                clear hAd
                obtain ⟨i, hi32, rfl, hA6, ho6, hz6⟩ := hrel
                obtain ⟨w6, rfl⟩ : ∃ wo : World, wo = wr := ⟨_, rfl⟩
                by_cases hlt32 : i < 32
                · have hc4 : w6.cell? ⟨gh, i / 4, none⟩ = some (.int .u32 (Hf.getD (i / 4) 0 : Nat)) := by
                    rw [(hHd.only ho6 (show ¬ gh = w5.heap.size by omega)).cell]; exact wordCells_get (by rw [HHfl.out]; omega)
                  have hxl := hHff.get (i / 4)
                  have hog := outF_get HHfl.out (i := i / 4) (j := i % 4) (by omega) (by omega)
                  rw [show 4 * (i / 4) + i % 4 = i from by omega] at hog
                  obtain ⟨X, hX⟩ : ∃ x, Hf.getD (i / 4) 0 = x := ⟨_, rfl⟩
                  rw [hX] at hc4 hxl hog
                  have hi4 : (i : Int) / 4 < 8 := by omega
                  have hi40 : 0 ≤ (i : Int) / 4 := by omega
                  have hi4n : ((i : Int) / 4).toNat = i / 4 := by omega
                  have hd1 : decide ((i : Int) < 32) = true := by simp; omega
                  have Hog := Lib.hid hog
                  have Hsz6 := Lib.hid hz6
                  clear hog hX hz6
                  go_wp2_with fail
                  clear hd1
                  go_loopw [24, 25] (fun x j w7 => ∃ k y : Nat, k + i % 4 ≤ 3 ∧ j = .int .i64 ((k + i % 4 : Nat) : Int) ∧ x = .int .u32 y ∧ Hid (X / 256 ^ k = y) ∧ y < 4294967296 ∧ w7 = w6) (fun _ j _ => 3 - (intOf j).toNat)
                  case atStart => exact ⟨0, X, by omega, by go_num, rfl, Lib.hid (by simp), hxl, rfl⟩
                  case round =>
                    obtain ⟨k, y, hk3, rfl, rfl, hy, hyl, rfl⟩ := hrel
                    obtain ⟨jj, hjj⟩ : ∃ jj, k + i % 4 = jj := ⟨_, rfl⟩
                    rw [hjj] at hk3 ⊢
                    by_cases hj3 : jj < 3
                    · have hd1 : decide ((jj : Int) < 3) = true := by simp; omega
                      have Hjj := Lib.hid hjj
                      clear hjj
                      go_wp2_with fail
                      go_roundw
                      case rel => exact ⟨k + 1, y / 256, by have := Hjj.out; omega, by have := Hjj.out; rw [show k + 1 + i % 4 = jj + 1 from by omega]; go_num, by go_num, Lib.hid (by rw [← div_pow256, hy.out]), by omega, (by first | rfl | trivial)⟩
                      case measure => simp [intOf]; omega
                    · obtain rfl : jj = 3 := by omega
                      have hd1 : decide (((3 : Nat) : Int) < 3) = false := by simp
                      have hyx : X / 2 ^ (24 - 8 * (i % 4)) = y := by rw [← hy.out, pow256, show 8 * k = 24 - 8 * (i % 4) from by omega]
                      rw [hyx] at Hog
                      have h0' : ((outF Hf).getD i 0).toNat = y % 256 := by rw [Hog.out]; simp
                      have hset := tdB_set (a := outF Hf) (b := zeros) (k := i) (by rw [Hout.out]; rfl) (by rw [Hout.out]; exact hlt32) h0'
                      have hcd : wr.cell? ⟨w5.heap.size, i, none⟩ = some (.int .u8 ((tdB (outF Hf) zeros i).getD i 0).toNat) := by
                        rw [hA6.cell]; exact byteCells_get (by rw [tdB_length (by rw [Hout.out]; rfl) (by rw [Hout.out]; omega), Hout.out]; exact hlt32)
                      obtain ⟨z, hz⟩ : ∃ z, ((tdB (outF Hf) zeros i).getD i 0).toNat = z := ⟨_, rfl⟩
                      rw [hz] at hcd
                      have hfd := hA6.frozen i
                      have hAn : Arr (wr.setCell ⟨w5.heap.size, i, none⟩ (.int .u8 ((y % 256 : Nat) : Int))) w5.heap.size 24 (Lib.byteCells (tdB (outF Hf) zeros (i + 1))) := by
                        rw [← hset]; exact hA6.set i _
                      have hon := ho6.setCell (p := ⟨w5.heap.size, i, none⟩) (.inl rfl) (.int .u8 ((y % 256 : Nat) : Int))
                      have hii : (i : Int) < 32 := by omega
                      have HAn := Lib.hid hAn
                      have Hon := Lib.hid hon
                      clear hAn hon hz hset h0' hyx hA6 ho6 hjj
                      go_wp2_with fail
                      go_roundw
                      case rel => exact ⟨i + 1, by omega, by go_num, by simpa using HAn.out, by simpa using Hon.out, by simpa [World.setCell] using Hsz6.out⟩
                      case measure => simp [intOf]; omega
                · obtain rfl : i = 32 := by omega
                  have hd1 : decide (((32 : Nat) : Int) < 32) = false := by simp
                  rw [tdB_done (by rw [Hout.out]; rfl) (by rw [Hout.out]; omega)] at hA6
                  have hRf : Arr w6 w.heap.size 24 (Lib.byteCells zeros) := hRd.only ho6 (show ¬ w.heap.size = w5.heap.size by omega)
                  obtain ⟨DV, hDV⟩ : ∃ DV, DV = (Lib.byteCells (outF Hf)).toArray := ⟨_, rfl⟩
                  have hDs : DV.size = 32 := by rw [hDV]; simp [Lib.byteCells, Hout.out]
                  have HDi := Lib.hid (show (Try.prog.info? 24).map (·.size) = some DV.size by rw [hDs]; exact digInfo)
                  have HD1 := Lib.hid (show DV.all (·.oneCell') = true by rw [hDV]; simpa using byteCells_one (outF Hf))
                  have hD2 : Hid (w6.heap[w5.heap.size]? = some (.cells DV 24 (0, 0))) := by
                    show _ = _
                    rw [hDV]; exact hA6
                  have hR2' : Hid (w6.heap[w.heap.size]? = some (.cells (Lib.byteCells zeros).toArray 24 (0, 0))) := hRf
                  have Hzs := Lib.hid (show (Lib.byteCells zeros).toArray.size = DV.size by rw [hDs]; simp [Lib.byteCells, zeros])
                  have hset : Hid ((w6.setRow w.heap.size DV).heap[w.heap.size]? = some (.cells DV 24 (0, 0))) := setRow_heap w6 w.heap.size _ DV _ _ hR2'.out
                  have hbel : Below w.heap.size w (w6.setRow w.heap.size DV) :=
                    hbd.trans ((ho6.below (by omega) (by rintro k rfl; omega)).trans (((Only.refl (fun k => k = w.heap.size) w6).setRow (.inl rfl) DV).below (by omega) (by rintro k rfl; omega)))
                  have HDV := Lib.hid hDV
                  clear hDV hDs hA6 hRf ho6 hz6 hlt32 hi32
                  go_wp2_with (first
                    | (refine wpList_load_row rfl _ _ rfl w5.heap.size rfl 24 DV (0, 0) _ hD2.out Try.underlying24 rfl HDi.out ?_)
                    | (refine wpList_store_row rfl _ _ _ rfl w.heap.size DV rfl rfl 24 _ hR2'.out HDi.out Hzs.out HD1.out ?_))
                  exact bodyPost_ret (v := .agg DV) (results_cell_row (by rfl) _ _ w.heap.size 24 DV (0, 0) _ (by rfl) hset.out Try.underlying24 rfl HDi.out) rfl ⟨by unfold digV; rw [Hsha.out, HDV.out], hbel⟩

end Go.Proofs.Ytlfddijmanlneaa

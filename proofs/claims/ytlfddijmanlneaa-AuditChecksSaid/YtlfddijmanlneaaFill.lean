/-
  filledUp: what is digested behind the whole chunks.
-/
import Derived.Test.YtlfddijmanlneaaShaMath
import Derived.Test.YtlfddijmanlneaaCut
import Derived.Test.YtlfddijmanlneaaNum
import Derived.IntWalk
namespace Go.Proofs.Ytlfddijmanlneaa
open Go.RowKit
set_option linter.unusedVariables false

def FillPost (l : List UInt8) (w : World) (e : Ending) (w' : World) : Prop :=
  ∃ A c, e = .returned (.slice A (lastF l).length c) ∧ (lastF l).length ≤ c ∧ c ≤ maxLen ∧ Bs w' w'.heap.size A (lastF l) ∧ (∀ a, A = some a → w.heap.size ≤ a.block) ∧ Below w.heap.size w w'

theorem elemB : Try.prog.elem 33 = 5 := by kernel_rfl
theorem underB : Try.prog.underlying 33 = some (.slice (Try.prog.elem 33)) := by rw [elemB]; exact Try.underlying33
theorem sizeB : (Try.prog.info? (Try.prog.elem 33)).map (·.size) = some 1 := by kernel_rfl

theorem fill_n (l : List UInt8) {t : List UInt8} {j : Nat} (ht : t = l.drop (l.length - l.length % 64)) : (t ++ (128 :: List.replicate j 0)).length = l.length % 64 + 1 + j := by
  subst ht
  simp only [List.length_append, List.length_drop, List.length_cons, List.length_replicate]
  omega

set_option maxHeartbeats 8000000 in
set_option maxRecDepth 100000 in
theorem fill_any (l : List UInt8) (A : Option Addr) (c : Nat) (w : World) (hb : Bs w w.heap.size A l) (hc : l.length ≤ c) (hm : l.length ≤ 140737488355000) :
    Calls Try.prog 81 #[.slice A l.length c] w (FillPost l w) := by
  obtain ⟨i0, hi, hz0, hz1, hz2⟩ := info_parts byteInfo
  obtain ⟨n, hn⟩ : ∃ n, l.length = n := ⟨_, rfl⟩
  have hq : ∀ w, (Instr.sliceAt 33 (.slice A n c) (some (.int .i64 ((n : Int) - (n : Int) % 64))) none none).run Try.prog w = .ok (.slice (cutA A c (n - n % 64)) (n % 64) (c - (n - n % 64))) w := fun w => by
    rw [run_from 33 underB sizeB A n c (n - n % 64) .i64 _ (by omega) (by omega) w]
    congr 2
    omega
  have hcut : Bs w w.heap.size (cutA A c (n - n % 64)) (l.drop (n - n % 64)) := hb.cutA (by omega) (by omega)
  have htl : (l.drop (n - n % 64)).length = n % 64 := by rw [List.length_drop]; omega
  rw [hn] at hc hm ⊢
  obtain ⟨T, hT⟩ : ∃ T, T = l.drop (n - n % 64) := ⟨_, rfl⟩
  rw [← hT] at hcut htl
  have hT2 : T = l.drop (l.length - l.length % 64) := by rw [hn]; exact hT
  have Hn := Lib.hid hn
  have HT := Lib.hid hT2
  have Htl := Lib.hid htl
  clear hn hT hT2 htl
  go_enter Try.func81, Try.ntmps81
  go_wp2_with (first
    | (at_make; refine wpList_make_own _ rfl _ _ 33 rfl w.heap.size 5 i0 (.int .u8 0) 1 Try.underlying33 hi hz0 hz1 _ _ _ 128 rfl rfl rfl (by rw [hz2]; decide) (by unfold maxLen; omega) (Nat.le_refl _) ?_; intro w1 hmk hg1; have hown0 : Owns w1 w.heap.size 5 _ [] := hmk; have hs1 := hg1.size; have hb1 : Below w.heap.size w w1 := (Below.refl _ w).grown hg1 (Nat.le_refl _) (by simp); have hcut1 := hcut.below hb1 (Nat.le_refl _))
    | (at_builtin; (refine wpList_append_bs rfl _ _ 33 rfl w.heap.size 5 i0 (.int .u8 0) Try.underlying33 hi hz0 hz1 hz2 rfl (.slice (some ⟨w.heap.size, 0, none⟩) 0 128) [] rfl hown0 w.heap.size (cutA A c (n - n % 64)) (n % 64) (c - (n - n % 64)) T rfl Htl.out hcut1 (by simp; omega) (by omega) ?_; intro v2 w2 hown2 hgr2; clear hown0; rw [List.nil_append] at hown2; have hs2 := hgr2.1.size))
    | (at_builtin; (refine wpList_append_own_at _ rfl _ _ 33 rfl w.heap.size 5 i0 (.int .u8 0) 1 1 Try.underlying33 hi hz0 hz1 hz2 rfl (by decide) v2 _ _ rfl (World.ownsRow.alloc hown2 _) ⟨w2.heap.size, 0, none⟩ 1 1 [Value.int .u8 128] rfl rfl (one_new _ _ _) (one_u8 _) (by rw [Htl.out]; unfold maxLen; omega) (by rw [Htl.out]; omega) (by simp; omega) ?_; intro v3 w3 hown3' hgrow3 _ hplace3)))
  have hown3 : Owns w3 w.heap.size 5 v3 (T ++ (128 :: List.replicate 0 0)) := by
    have h1 := Owns.more1 (x := 128) rfl hown3'
    simpa using h1
  have hb3 : Below w.heap.size w w3 := by
    have h2 := hb1.trans (hgr2.below hs1 (by simp [Value.ownBlock]))
    have h3 : Grew w2 w3 v2 v3 := ((Grew.refl w2 v2).alloc _).step hgrow3 (by simpa using hplace3)
    exact h2.trans (h3.below (Nat.le_trans hs1 hs2) (fun k hk => (hown2.lt k hk).1))
  clear hown3' hgrow3 hplace3 hown2 hgr2 hmk hcut hcut1 hq hb hb1 hg1
  have hpl := padF_lt n
  go_loopw [4] (fun v wr => ∃ j : Nat, j ≤ padF n ∧ Owns wr w.heap.size 5 v (T ++ (128 :: List.replicate j 0)) ∧ Below w.heap.size w wr) (fun v _ => 200 - sliceLen v)
  case atStart => exact ⟨0, by omega, hown3, hb3⟩
  case round =>
    clear hown3 hb3
    obtain ⟨j, hj, hown, hbel⟩ := hrel
    have hlen : (T ++ (128 :: List.replicate j (0 : UInt8))).length = n % 64 + 1 + j := by
      simp only [List.length_append, List.length_cons, List.length_replicate, Htl.out]; omega
    obtain ⟨L, hL⟩ : ∃ L, T ++ (128 :: List.replicate j (0 : UInt8)) = L := ⟨_, rfl⟩
    have hsn : T ++ (128 :: List.replicate (j + 1) (0 : UInt8)) = L ++ [0] := by rw [← hL, List.replicate_succ']; simp
    have hdone : j = padF n → T ++ (128 :: List.replicate (padF n) (0 : UInt8)) = L := fun e => by rw [← hL, e]
    rw [hL] at hown hlen
    have hownL := hown
    obtain ⟨A1, c1, rfl, hlc, hcm, hbs⟩ := hown.slice
    have Hsn := Lib.hid hsn
    have Hdone := Lib.hid hdone
    clear hL hsn hdone hown
    obtain ⟨m, hm'⟩ : ∃ m, L.length = m := ⟨_, rfl⟩
    rw [hm'] at hlen hlc ⊢
    have hbz := hbel.size
    by_cases hlt : j < padF n
    · have ht : ((m : Int) % 64 != 56) = true := by
        have := padF_step n j hlt
        rw [bne_iff_ne]; omega
      have hown1 : wr.ownsRow w.heap.size 5 1 (.slice A1 m c1) m (Lib.byteCells L) := by rw [← hm']; exact hownL
      have Hm := Lib.hid hm'
      have Hl := Lib.hid hlen
      have hm200 : m < 200 := by omega
      clear hm' hlen hownL
      go_wp2_with (at_builtin; (refine wpList_append_own_at _ rfl _ _ 33 rfl w.heap.size 5 i0 (.int .u8 0) 1 1 Try.underlying33 hi hz0 hz1 hz2 rfl (by decide) (.slice A1 m c1) _ _ rfl (World.ownsRow.alloc hown1 _) ⟨wr.heap.size, 0, none⟩ 1 1 [Value.int .u8 0] rfl rfl (one_new _ _ _) (one_u8 _) (by unfold maxLen; omega) (by omega) (by simp; omega) ?_; intro v5 w5 hown5 hgrow5 _ hplace5))
      have hown6 : Owns w5 w.heap.size 5 v5 (L ++ [0]) := by
        rw [← Hm.out] at hown5
        exact Owns.more1 rfl hown5
      have hb5 : Below w.heap.size w w5 := by
        have h3 : Grew wr w5 (.slice A1 m c1) v5 := ((Grew.refl wr _).alloc _).step hgrow5 (by simpa using hplace5)
        exact hbel.trans (h3.below hbz (fun k hk => (World.ownsRow.lt hown1 k hk).1))
      have hlen6 : (L ++ [(0 : UInt8)]).length = m + 1 := by rw [List.length_append, Hm.out]; rfl
      obtain ⟨A2, c2, hv5, _, _, _⟩ := hown6.slice
      rw [hlen6] at hv5
      subst hv5
      go_roundw
      case rel => exact ⟨j + 1, by omega, by rw [Hsn.out]; exact hown6, hb5⟩
      case measure => show 200 - (m + 1) < 200 - m; omega
    · have hje : j = padF n := by omega
      have ht : ((m : Int) % 64 != 56) = false := by
        have := padF_mod n
        rw [bne_eq_false_iff_eq]; omega
      have hX := Hdone.out hje
      have hown0 : Owns wr w.heap.size 5 (.slice A1 m c1) (L ++ (bytes8 (n * 8)).take 0) := by rw [List.take_zero, List.append_nil, ← hm']; exact hownL
      have hfin : lastF l = L ++ bytes8 (n * 8) := by unfold lastF; rw [← HT.out, Hn.out, hX]
      have Hfin := Lib.hid hfin
      have Hm := Lib.hid hm'
      have hm200 : m < 200 := by omega
      have hn8 : n * 8 < 18446744073709551616 := by omega
      obtain ⟨wo, rfl⟩ : ∃ wo : World, wo = wr := ⟨_, rfl⟩
      clear hm' hlen hownL hX hfin hje hlt
      go_wp2_with fail
      go_loopw [4, 5] (fun v sh wr => ∃ (i : Nat) (z : Int), i ≤ 8 ∧ z + 8 * (i : Int) = 56 ∧ sh = .int .i64 z ∧ Owns wr w.heap.size 5 v (L ++ (bytes8 (n * 8)).take i) ∧ Below w.heap.size w wr) (fun _ sh _ => (intOf sh + 8).toNat)
      case atStart => exact ⟨0, 56, by omega, by omega, rfl, hown0, hbel⟩
      case round =>
        clear hown0 hbel
        obtain ⟨i, z, hi8, hz, rfl, hown, hbel⟩ := hrel
        have hlen : (L ++ (bytes8 (n * 8)).take i).length = m + i := by
          rw [List.length_append, List.length_take, bytes8_length, Hm.out]; omega
        have hbz := hbel.size
        by_cases hlt : i < 8
        · obtain ⟨sh, rfl⟩ := Int.eq_ofNat_of_zero_le (show 0 ≤ z by omega)
          have hsn := bytes8_snoc (n * 8) hlt (show sh + 8 * i = 56 by omega)
          obtain ⟨Y, hY⟩ : ∃ Y, L ++ (bytes8 (n * 8)).take i = Y := ⟨_, rfl⟩
          have hsn2 : L ++ (bytes8 (n * 8)).take (i + 1) = Y ++ [(n * 8 / 2 ^ sh).toUInt8] := by rw [hsn, ← hY]; simp
          rw [hY] at hown hlen
          have hYl := hlen
          obtain ⟨q, hq⟩ : ∃ q, Y.length = q := ⟨_, rfl⟩
          rw [hq] at hlen
          have hown1 := hown
          unfold Owns at hown1
          rw [hq] at hown1
          obtain ⟨b, hb⟩ : ∃ b, n * 8 / 2 ^ sh = b := ⟨_, rfl⟩
          have hbI : (n : Int) * 8 / 2 ^ sh = (b : Int) := by rw [← hb, Int.natCast_ediv, Int.natCast_pow]; rfl
          rw [hb] at hsn2
          have Hsn2 := Lib.hid hsn2
          have Hq := Lib.hid hq
          have Hlen := Lib.hid hlen
          have hsh1 : (sh : Int) ≤ 64 := by omega
          have hq300 : q < 300 := by omega
          have Hz := Lib.hid hz
          clear hsn hsn2 hq hlen hYl hown hY hz hb
          go_wp2_with (at_builtin; (refine wpList_append_own_at _ rfl _ _ 33 rfl w.heap.size 5 i0 (.int .u8 0) 1 1 Try.underlying33 hi hz0 hz1 hz2 rfl (by decide) u4 _ _ rfl (World.ownsRow.alloc hown1 _) ⟨wr.heap.size, 0, none⟩ 1 1 [Value.int .u8 ((b : Int) % 256)] rfl rfl (one_new _ _ _) (one_u8 _) (by unfold maxLen; omega) (by omega) (by simp; omega) ?_; intro v5 w5 hown5 hgrow5 _ hplace5))
          have hown6 : Owns w5 w.heap.size 5 v5 (Y ++ [b.toUInt8]) := by
            rw [← Hq.out] at hown5
            exact Owns.more1 (by simp) hown5
          have hb5 : Below w.heap.size w w5 := by
            have h3 : Grew wr w5 u4 v5 := ((Grew.refl wr _).alloc _).step hgrow5 (by simpa using hplace5)
            exact hbel.trans (h3.below hbz (fun k hk => (World.ownsRow.lt hown1 k hk).1))
          go_roundw
          case rel => exact ⟨i + 1, (sh : Int) - 8, by omega, by have := Hz.out; omega, by go_num, by rw [Hsn2.out]; exact hown6, hb5⟩
          case measure => simp [intOf]; omega
        · obtain rfl : i = 8 := by omega
          obtain rfl : z = -8 := by omega
          rw [List.take_of_length_le (Nat.le_of_eq (bytes8_length _)), ← Hfin.out] at hown
          have hbase := hown.lt
          obtain ⟨A6, c6, rfl, h61, h62, h63⟩ := hown.slice
          have h64 : ∀ a, A6 = some a → w.heap.size ≤ a.block := fun a e => by subst e; exact (hbase a.block (by rcases hown.2 with ⟨hv, _⟩ | ⟨g', cap', cur', hv, _⟩ <;> injection hv with e1 <;> first | (cases e1; done) | (injection e1 with e1; subst e1; rfl))).1
          clear hz hbase
          go_wp2_with fail
          go_ret
          exact ⟨A6, c6, rfl, h61, h62, h63, h64, hbel⟩

end Go.Proofs.Ytlfddijmanlneaa

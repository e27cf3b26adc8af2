/-
  proof's follow. Written by gen_pfollow.py.
-/
import Derived.Test.YtlailhjpfadpcaaProofTakes
import Derived.Test.YtlailhjpfadpcaaShaAt
namespace Go.Proofs.Ytlailhjpfadpcaa
open Go.RowKit
set_option linter.unusedVariables false
set_option linter.unusedSimpArgs false

theorem rows_oneP {w : World} {B : Nat} {A : Option Addr} {l : List UInt8} {n c : Nat} (T : TypeId) (hn : l.length = n) (hc : n ≤ c) (hm : c ≤ maxLen) (h : Bs w B A l) (hB : B ≤ w.heap.size) :
    RowsAt (w.alloc (.cells #[.slice A n c] T)) (w.heap.size + 1) (some ⟨w.heap.size, 0, none⟩) [l] := fun _ => by
  subst hn
  have ha := Arr.new w T [.slice A l.length c]
  have hb : Below w.heap.size w (w.alloc (.cells #[.slice A l.length c] T)) := (Below.refl _ w).alloc (Nat.le_refl _) _
  refine ⟨w.heap.size, 0, rfl, by omega, fun i hi => ?_⟩
  have hi2 : i = 0 := by simp at hi; omega
  subst hi2
  exact ⟨A, c, ha.cell 0, hc, hm, (h.below hb hB).more (by omega)⟩
theorem tag_one_bound (b : List UInt8) (hb : b.length ≤ 3000) : (tagF 4 [b]).length ≤ 1000000 := by
  unfold tagF
  have := Lib.uvarint_length64 (x := b.length) (by omega)
  simp only [List.flatMap_cons, List.flatMap_nil, List.length_append, List.length_cons, List.length_nil]
  omega
/-- A digest held against another one. -/
theorem digCmpP (a b : List UInt8) (ha : a.length = 32) (hb : b.length = 32) (AL BL : List Value) (hA : AL = Lib.byteCells a) (hB : BL = Lib.byteCells b) (r : Bool) (hr : decide (a = b) = r) (w : World) : (Op.equalIn 10000 24 (.agg AL.toArray) (.agg BL.toArray)).run Try.prog w = .ok r w := by
  rw [← hr]; exact eqv_at Try.underlying24 a b ha hb AL BL hA hB w

/-- What follow gives, for what is left of a row of nodes. -/
def FollowsP (key : List UInt8) (rs : List (List UInt8)) : Prop :=
  ∀ (t : Nat) (root : List UInt8) (WL : List Value) (A3 : Option Addr) (n3 c3 : Nat) (A : Option Addr) (n c : Nat) (w : World), root.length = 32 → WL = Lib.byteCells root → t ≤ 64 → n3 = 64 - t → n3 ≤ c3 → c3 ≤ maxLen → Bs w w.heap.size A3 (restF key t 64) →
    rs.length = n → n ≤ c → c ≤ maxLen → RowsAt w w.heap.size A rs → (0 < t ∨ rs ≠ []) →
    Calls Try.prog 32 #[.agg WL.toArray, .slice A3 n3 c3, .slice A n c] w fun e w' => ∃ V, e = .returned V ∧ ShownP w' (chkF root key rs t) V ∧ Below w.heap.size w w'

set_option maxHeartbeats 8000000 in
set_option maxRecDepth 100000 in
theorem follow_nil (key : List UInt8) : FollowsP key [] := by
  intro t root WL A3 n3 c3 A n c w hr hWL ht hn3 hc3 hm3 hb3 hn hc hm hrows h0
  obtain rfl : n = 0 := by rw [← hn]; rfl
  have hres : chkF root key [] t = none := by
    unfold chkF
    rw [if_neg (by rintro ⟨h, _⟩; simp at h0; omega)]
  rw [hres]
  obtain ⟨W1, hW1⟩ : ∃ W1, W1 = w.alloc (.cells WL.toArray 24) := ⟨_, rfl⟩
  have hb1 : Below w.heap.size w W1 := by rw [hW1]; exact (Below.refl _ w).alloc (Nat.le_refl _) _
  have hR1 : Arr W1 w.heap.size 24 WL := by rw [hW1]; exact Arr.new w _ _
  have HW1 := Lib.hid hW1
  clear hW1 hWL hres hrows hb3
  go_enter Try.func32, Try.ntmps32
  go_upto_region 1 with fail
  change Code.wp _ _ _ _ (w.alloc (.cells WL.toArray 24))
  rw [← HW1.out]
  clear HW1
  refine wp_region_held_drew (S := fun w' => Arr w' w.heap.size 24 WL) (by kernel_rfl) (hR1.drewN 1) (fun hHeld => ?_)
  refine anyH_take (i := 0) (v := .slice A 0 c) (some 13) rfl rfl (by kernel_rfl) (by kernel_rfl) (by kernel_rfl) (fun _ _ _ h => h) (Or.inl ⟨by rfl, fun w' hw => by go_simp⟩) (by assumption) ?_
  simp only [Act.put, List.setIfInBounds_toArray, List.set_cons_zero, List.set_cons_succ]
  refine anyH_take (i := 1) (v := .int .i64 0) (some 14) rfl rfl (by kernel_rfl) (by kernel_rfl) (by kernel_rfl) (fun _ _ _ h => h) (Or.inl ⟨by rfl, fun w' hw => by go_simp⟩) (by assumption) ?_
  simp only [Act.put, List.setIfInBounds_toArray, List.set_cons_zero, List.set_cons_succ]
  refine anyH_take (i := 2) (v := .bool true) (some 15) rfl rfl (by kernel_rfl) (by kernel_rfl) (by kernel_rfl) (fun _ _ _ h => h) (Or.inl ⟨by rfl, fun w' hw => by go_simp⟩) (by assumption) ?_
  simp only [Act.put, List.setIfInBounds_toArray, List.set_cons_zero, List.set_cons_succ]
  refine anyH_take (i := 3) (v := .bool true) (some 16) rfl rfl (by kernel_rfl) (by kernel_rfl) (by kernel_rfl) (fun _ _ _ h => h) (Or.inl ⟨by rfl, fun w' hw => by go_simp⟩) (by assumption) ?_
  simp only [Act.put, List.setIfInBounds_toArray, List.set_cons_zero, List.set_cons_succ]
  refine anyH_take (i := 4) (v := undef) (some 17) rfl rfl (by kernel_rfl) (by kernel_rfl) (by kernel_rfl) (fun _ _ _ h => h) (Or.inr ⟨by rfl, rfl⟩) (by assumption) ?_
  simp only [Act.put, List.setIfInBounds_toArray, List.set_cons_zero, List.set_cons_succ]
  refine anyH_take (i := 5) (v := undef) (some 18) rfl rfl (by kernel_rfl) (by kernel_rfl) (by kernel_rfl) (fun _ _ _ h => h) (Or.inr ⟨by rfl, rfl⟩) (by assumption) ?_
  simp only [Act.put, List.setIfInBounds_toArray, List.set_cons_zero, List.set_cons_succ]
  refine anyH_take (i := 6) (v := undef) (some 19) rfl rfl (by kernel_rfl) (by kernel_rfl) (by kernel_rfl) (fun _ _ _ h => h) (Or.inr ⟨by rfl, rfl⟩) (by assumption) ?_
  simp only [Act.put, List.setIfInBounds_toArray, List.set_cons_zero, List.set_cons_succ]
  refine anyH_take (i := 7) (v := undef) (some 20) rfl rfl (by kernel_rfl) (by kernel_rfl) (by kernel_rfl) (fun _ _ _ h => h) (Or.inr ⟨by rfl, rfl⟩) (by assumption) ?_
  simp only [Act.put, List.setIfInBounds_toArray, List.set_cons_zero, List.set_cons_succ]
  refine anyH_take (i := 8) (v := undef) (some 21) rfl rfl (by kernel_rfl) (by kernel_rfl) (by kernel_rfl) (fun _ _ _ h => h) (Or.inr ⟨by rfl, rfl⟩) (by assumption) ?_
  simp only [Act.put, List.setIfInBounds_toArray, List.set_cons_zero, List.set_cons_succ]
  refine anyH_take (i := 9) (v := undef) (some 22) rfl rfl (by kernel_rfl) (by kernel_rfl) (by kernel_rfl) (fun _ _ _ h => h) (Or.inr ⟨by rfl, rfl⟩) (by assumption) ?_
  simp only [Act.put, List.setIfInBounds_toArray, List.set_cons_zero, List.set_cons_succ]
  refine anyH_take (i := 10) (v := undef) (some 23) rfl rfl (by kernel_rfl) (by kernel_rfl) (by kernel_rfl) (fun _ _ _ h => h) (Or.inr ⟨by rfl, rfl⟩) (by assumption) ?_
  simp only [Act.put, List.setIfInBounds_toArray, List.set_cons_zero, List.set_cons_succ]
  refine anyH_take (i := 11) (v := .bool true) (some 24) rfl rfl (by kernel_rfl) (by kernel_rfl) (by kernel_rfl) (fun _ _ _ h => h) (Or.inl ⟨by rfl, fun w' hw => by go_simp⟩) (by assumption) ?_
  simp only [Act.put, List.setIfInBounds_toArray, List.set_cons_zero, List.set_cons_succ]
  refine wpAnyH_done (by kernel_rfl) ?_ _
  clear hHeld
  go_wp2_with fail
  go_ret3
  exact ⟨_, rfl, rfl, Below.dN hb1 1⟩

set_option maxHeartbeats 16000000 in
set_option maxRecDepth 100000 in
theorem follow_cons (key b : List UInt8) (rs : List (List UInt8)) (hb2000 : b.length ≤ 3000) (hrs70 : rs.length ≤ 70) (hIH : FollowsP key rs) : FollowsP key (b :: rs) := by
  intro t root WL A3 n3 c3 A n c w hr hWL ht hn3 hc3 hm3 hb3 hn hc hm hrows h0
  obtain ⟨blk, off, rfl, hblk, hrow⟩ := hrows (by simp)
  obtain ⟨Ab, cb, hcb, hcb1, hcb2, hbb⟩ := hrow 0 (by simp)
  have hbg : (b :: rs).getD 0 [] = b := rfl
  rw [hbg] at hcb hcb1 hbb
  rw [Nat.add_zero] at hcb
  obtain ⟨nb, hnb⟩ : ∃ nb, b.length = nb := ⟨_, rfl⟩
  rw [hnb] at hcb hcb1
  have Hnb := Lib.hid hnb
  have hn1 : n = rs.length + 1 := by rw [← hn]; rfl
  have hd0 : ((n : Int) == 0) = false := by rw [beq_eq_false_iff_ne]; omega
  have hnp : 1 ≤ n := by omega
  have Hn3 := Lib.hid hn3
  clear hn3
  have Hn1 := Lib.hid hn1
  obtain ⟨SL, hSL⟩ : ∃ SL, SL = Lib.byteCells (shaF (tagF 4 [b])) := ⟨_, rfl⟩
  have hDl : (shaF (tagF 4 [b])).length = 32 := shaF_length _
  obtain ⟨r0, hr0⟩ : ∃ r0, decide (shaF (tagF 4 [b]) = root) = r0 := ⟨_, rfl⟩
  have Hcmp := Lib.hid (fun w => digCmpP _ root hDl hr SL WL hSL hWL r0 hr0 w)
  have Hwi := Lib.hid (show (Try.prog.info? 24).map (·.size) = some WL.length by rw [hWL, Lib.byteCells_length, hr]; kernel_rfl)
  have HY := Lib.hid (tag_one_bound b hb2000)
  have Hrows := Lib.hid hrows
  have HSL := Lib.hid hSL
  obtain ⟨W1, hW1⟩ : ∃ W1, W1 = w.alloc (.cells WL.toArray 24) := ⟨_, rfl⟩
  have hb1 : Below w.heap.size w W1 := by rw [hW1]; exact (Below.refl _ w).alloc (Nat.le_refl _) _
  have hR1 : Arr W1 w.heap.size 24 WL := by rw [hW1]; exact Arr.new w _ _
  have hcb' : W1.cell? ⟨blk, off, none⟩ = some (.slice Ab nb cb) := by rw [← hcb]; exact World.cell?_of_block (hb1.block blk hblk)
  have hbb1 : Bs W1 w.heap.size Ab b := hbb.below hb1 (Nat.le_refl _)
  have hz1 : w.heap.size < W1.heap.size := hR1.lt
  obtain ⟨W2, hW2⟩ : ∃ W2, W2 = (W1.drewN 1).alloc (.cells #[.slice Ab nb cb] 40) := ⟨_, rfl⟩
  have hrow2 : RowsAt W2 W2.heap.size (some ⟨W1.heap.size, 0, none⟩) [b] := by
    rw [hW2]
    exact (rows_oneP (w := W1.drewN 1) (B := w.heap.size) 40 hnb hcb1 hcb2 hbb1 (Nat.le_of_lt hz1)).more (Nat.le_of_eq (by simp))
  have hb12 : Below W1.heap.size W1 W2 := by rw [hW2]; exact (Below.dN (Below.refl _ W1) 1).alloc (Nat.le_refl _) _
  have hR2 : Arr W2 w.heap.size 24 WL := hR1.below hb12 hz1
  have hc2 : W2.cell? ⟨blk, off, none⟩ = some (.slice Ab nb cb) := by rw [← hcb']; exact World.cell?_of_block (hb12.block blk (Nat.lt_of_lt_of_le hblk hb1.size))
  have hbw2 : Below w.heap.size w W2 := hb1.trans (hb12.mono hb1.size)
  have HW1 := Lib.hid hW1
  have HW2 := Lib.hid hW2
  have HWL := Lib.hid hWL
  have hbb0 := hbb
  have Hb3 := Lib.hid hb3
  have Hn := Lib.hid hn
  have Hr0 := Lib.hid hr0
  clear hbb hn1 hW1 hW2 hWL hb3 hn hr0 hnb hSL hrow hbg hcb hrows hbb1 hb1 hb12
  go_enter Try.func32, Try.ntmps32
  go_upto_region 1 with fail
  change Code.wp _ _ _ _ (w.alloc (.cells WL.toArray 24))
  rw [← HW1.out]
  clear HW1
  refine wp_region_held_drew (S := fun w' => Arr w' w.heap.size 24 WL ∧ w'.cell? ⟨blk, off, none⟩ = some (.slice Ab nb cb)) (by kernel_rfl) ⟨hR1.drewN 1, hcb'⟩ (fun hHeld => ?_)
  refine anyH_take (i := 0) (v := .slice (some ⟨blk, off, none⟩) n c) (some 13) rfl rfl (by kernel_rfl) (by kernel_rfl) (by kernel_rfl) (fun _ _ _ h => h) (Or.inl ⟨by rfl, fun w' hw => by go_simp⟩) (by assumption) ?_
  simp only [Act.put, List.setIfInBounds_toArray, List.set_cons_zero, List.set_cons_succ]
  refine anyH_take (i := 1) (v := .int .i64 (n : Nat)) (some 14) rfl rfl (by kernel_rfl) (by kernel_rfl) (by kernel_rfl) (fun _ _ _ h => h) (Or.inl ⟨by rfl, fun w' hw => by go_simp⟩) (by assumption) ?_
  simp only [Act.put, List.setIfInBounds_toArray, List.set_cons_zero, List.set_cons_succ]
  refine anyH_take (i := 2) (v := .bool false) (some 15) rfl rfl (by kernel_rfl) (by kernel_rfl) (by kernel_rfl) (fun _ _ _ h => h) (Or.inl ⟨by rfl, fun w' hw => by go_simp⟩) (by assumption) ?_
  simp only [Act.put, List.setIfInBounds_toArray, List.set_cons_zero, List.set_cons_succ]
  refine anyH_take (i := 3) (v := .bool false) (some 16) rfl rfl (by kernel_rfl) (by kernel_rfl) (by kernel_rfl) (fun _ _ _ h => h) (Or.inl ⟨by rfl, fun w' hw => by go_simp⟩) (by assumption) ?_
  simp only [Act.put, List.setIfInBounds_toArray, List.set_cons_zero, List.set_cons_succ]
  refine anyH_take (i := 4) (v := .slice (some ⟨blk, off, none⟩) n c) (some 17) rfl rfl (by kernel_rfl) (by kernel_rfl) (by kernel_rfl) (fun _ _ _ h => h) (Or.inl ⟨by rfl, fun w' hw => by go_simp⟩) (by assumption) ?_
  simp only [Act.put, List.setIfInBounds_toArray, List.set_cons_zero, List.set_cons_succ]
  refine anyH_take (i := 5) (v := .pointer (some ⟨blk, off, none⟩)) (some 18) rfl rfl (by kernel_rfl) (by kernel_rfl) (by kernel_rfl) (fun _ _ _ h => h) (Or.inl ⟨by rfl, fun w' hw => by (go_simp; intro h; omega)⟩) (by assumption) ?_
  simp only [Act.put, List.setIfInBounds_toArray, List.set_cons_zero, List.set_cons_succ]
  refine anyH_take (i := 6) (v := .slice Ab nb cb) (some 19) rfl rfl (by kernel_rfl) (by kernel_rfl) (by kernel_rfl) (fun _ _ _ h => h) (Or.inl ⟨by rfl, fun w' hw => by (have hc := hw.2; go_simp)⟩) (by assumption) ?_
  simp only [Act.put, List.setIfInBounds_toArray, List.set_cons_zero, List.set_cons_succ]
  refine anyH_take (i := 9) (some 22) rfl rfl (by kernel_rfl) (by kernel_rfl) (by kernel_rfl) (fun _ _ _ h => h) (yieldsIf_load_mid (by rfl) 24 (.tmp 3) rfl w.heap.size 0 rfl WL _ (fun w' h => h.1.range) Try.underlying24 rfl Hwi.out) (by assumption) ?_
  simp only [Act.put, List.setIfInBounds_toArray, List.set_cons_zero, List.set_cons_succ]
  refine wpAnyH_ready (rs := [7]) (by kernel_rfl) (by simp) ?_
  refine AllReadyH.cons rfl (fun K hK => ?_) AllReadyH.nil
  go_simp
  change K _ ((W1.drewN 1).alloc (.cells #[.slice Ab nb cb] 40))
  rw [← HW2.out]
  clear HW2 hcb' hR1
  refine hK.out _ _ ⟨hR2, hc2⟩ (fun hHeldx => ?_)
  clear hK K
  try simp only [Act.put, List.setIfInBounds_toArray, List.set_cons_zero, List.set_cons_succ]
  refine wpAnyH_ready (rs := [8]) (by kernel_rfl) (by simp) ?_
  refine AllReadyH.cons rfl (fun K hK => ?_) AllReadyH.nil
  go_simp
  go_at_call 34
  refine Calls.mono (tag_at 4 4 [b] SL _ 1 1 W2 rfl HSL.out rfl (by omega) hrow2 HY.out) ?_
  rintro e w3 ⟨rfl, hb23⟩
  have hR3 := hR2.below hb23 hR2.lt
  have hc3' : w3.cell? ⟨blk, off, none⟩ = some (.slice Ab nb cb) := by rw [← hc2]; exact World.cell?_of_block (hb23.block blk (World.block_lt_of_cell? W2 _ hc2))
  have hbw3 : Below w.heap.size w w3 := hbw2.trans (hb23.mono hbw2.size)
  clear hb23 hR2 hc2 hbw2 hrow2
  dsimp only
  go_wp2_with fail
  refine hK.out _ _ ⟨hR3, hc3'⟩ (fun hHeldx => ?_)
  clear hK K
  try simp only [Act.put, List.setIfInBounds_toArray, List.set_cons_zero, List.set_cons_succ]
  have Hbb := Lib.hid hbb0
  clear hbb0
  cases r0 with
  | false =>
    refine anyH_take (i := 10) (v := .bool true) (some 23) rfl rfl (by kernel_rfl) (by kernel_rfl) (by kernel_rfl) (fun _ _ _ h => h) (Or.inl ⟨by rfl, fun w' hw => by (have hc := Hcmp.out; have hg := gt32; go_simp)⟩) (by assumption) ?_
    simp only [Act.put, List.setIfInBounds_toArray, List.set_cons_zero, List.set_cons_succ]
    refine anyH_take (i := 11) (v := .bool true) (some 24) rfl rfl (by kernel_rfl) (by kernel_rfl) (by kernel_rfl) (fun _ _ _ h => h) (Or.inl ⟨by rfl, fun w' hw => by go_simp⟩) (by assumption) ?_
    simp only [Act.put, List.setIfInBounds_toArray, List.set_cons_zero, List.set_cons_succ]
    refine wpAnyH_done (by kernel_rfl) ?_ _
    clear hHeld hHeldx
    go_wp2_with fail
    go_ret3
    refine ⟨_, rfl, ?_, hbw3⟩
    rw [show chkF root key (b :: rs) t = none by unfold chkF; rw [if_pos (.inr (by simpa using Hr0.out))]]
    rfl
  | true =>
    have hroot : shaF (tagF 4 [b]) = root := by simpa using Hr0.out
    have Hroot := Lib.hid hroot
    clear hroot
    refine anyH_take (i := 10) (v := .bool false) (some 23) rfl rfl (by kernel_rfl) (by kernel_rfl) (by kernel_rfl) (fun _ _ _ h => h) (Or.inl ⟨by rfl, fun w' hw => by (have hc := Hcmp.out; have hg := gt32; go_simp)⟩) (by assumption) ?_
    simp only [Act.put, List.setIfInBounds_toArray, List.set_cons_zero, List.set_cons_succ]
    refine anyH_take (i := 11) (v := .bool false) (some 24) rfl rfl (by kernel_rfl) (by kernel_rfl) (by kernel_rfl) (fun _ _ _ h => h) (Or.inl ⟨by rfl, fun w' hw => by go_simp⟩) (by assumption) ?_
    simp only [Act.put, List.setIfInBounds_toArray, List.set_cons_zero, List.set_cons_succ]
    refine wpAnyH_done (by kernel_rfl) ?_ _
    clear hHeld hHeldx
    obtain ⟨d, hd⟩ : ∃ d, ndR n3 9223372036854775807 b = d := ⟨_, rfl⟩
    obtain ⟨ok, hok⟩ : ∃ ok, d.ok n3 = ok := ⟨_, rfl⟩
    have Hchk : Hid (chkF root key (b :: rs) t = if ok = false then none
        else if d.told = restF key t (t + d.told.length) then
          if d.leaf then (if rs = [] then some (some d.value) else none)
          else if bitM d.mask (nibF key (t + d.told.length)) then chkF (kidD d.mask d.st (nibF key (t + d.told.length))) key rs (t + d.told.length + 1)
          else if rs = [] then some none else none
        else if rs = [] then some none else none) := by
      show _ = _
      rw [← hok, ← hd, Hn3.out]
      conv => lhs; unfold chkF
      by_cases hx : (ndR (64 - t : Nat) 9223372036854775807 b).ok (64 - t) = false
      · rw [if_pos (.inl hx), if_pos hx]
      · rw [if_neg (by rintro (h | h); exact hx h; exact h Hroot.out), if_neg hx]
    have Hok := Lib.hid hok
    have Hd := Lib.hid hd
    clear hok hd
    have hbb3 : Bs w3 w3.heap.size Ab b := (Hbb.out.below hbw3 (Nat.le_refl _)).more hbw3.size
    go_wp2_with fail
    go_at_call 58
    refine Calls.mono (take_run b Ab nb cb n3 Hnb.out (by have := Hnb.out; omega) (by have := Hn3.out; omega) w3 hbb3 d Hd.out ok Hok.out) ?_
    rintro e w4 ⟨V, rfl, ⟨A1, c1, A2, c2, M, rfl, h11, h12, h21, h22, hT4, hV4, hML, hMB⟩, hb34⟩
    have hc4 : w4.cell? ⟨blk, off, none⟩ = some (.slice Ab nb cb) := by rw [← hc3']; exact World.cell?_of_block (hb34.block blk (World.block_lt_of_cell? w3 _ hc3'))
    have hbw4 : Below w.heap.size w w4 := hbw3.trans (hb34.mono hbw3.size)
    clear hb34 hR3 hc3' hbw3 hbb3
    dsimp only
    obtain ⟨n1, hn1⟩ : ∃ n1, d.told.length = n1 := ⟨_, rfl⟩
    obtain ⟨n2, hn2⟩ : ∃ n2, d.value.length = n2 := ⟨_, rfl⟩
    rw [hn1] at h11 ⊢
    rw [hn2] at h21 ⊢
    have H1 := Lib.hid hn1
    have H2 := Lib.hid hn2
    clear hn1 hn2
    obtain ⟨W5, hW5⟩ : ∃ W, W = w4.alloc (.cells (ndC (.slice A1 n1 c1) (.slice A2 n2 c2) (.map M)).toArray 109) := ⟨_, rfl⟩
    have hN5 : Arr W5 w4.heap.size 109 (ndC (.slice A1 n1 c1) (.slice A2 n2 c2) (.map M)) := by rw [hW5]; exact Arr.new w4 _ _
    have hb45 : Below w4.heap.size w4 W5 := by rw [hW5]; exact (Below.refl _ w4).alloc (Nat.le_refl _) _
    have hc5 : W5.cell? ⟨blk, off, none⟩ = some (.slice Ab nb cb) := by rw [← hc4]; exact World.cell?_of_block (hb45.block blk (World.block_lt_of_cell? w4 _ hc4))
    have hbw5 : Below w.heap.size w W5 := hbw4.trans (hb45.mono hbw4.size)
    have hT5 : Bs W5 W5.heap.size A1 d.told := (hT4.below hb45 (Nat.le_refl _)).more hb45.size
    have hV5 : Bs W5 W5.heap.size A2 d.value := (hV4.below hb45 (Nat.le_refl _)).more hb45.size
    obtain ⟨g9, hg9⟩ : ∃ g, g = w4.heap.size := ⟨_, rfl⟩
    rw [← hg9] at hN5
    have h50 : W5.cell? ⟨g9, 0, none⟩ = some (.slice A1 n1 c1) := hN5.cell 0
    have h51 : W5.cell? ⟨g9, 1, none⟩ = some (.slice A2 n2 c2) := hN5.cell 1
    have h52 : W5.cell? ⟨g9, 2, none⟩ = some (.map M) := hN5.cell 2
    have hML5 := hML
    have hMB5 : d.leaf = false → ∃ m, M = some m ∧ KidMap W5 m d.mask d.st 16 := fun hl => by
      obtain ⟨m, e, hk⟩ := hMB hl
      exact ⟨m, e, hk.kept (row := some w4.heap.size) ⟨hb45.os, hb45.tape, hb45.output, hb45.size, fun k hk _ => hb45.block k hk⟩ (fun e => by have := hk.lt; injection e with e; omega)⟩
    have HW5 := Lib.hid hW5
    have Hg9 := Lib.hid hg9
    have HML := Lib.hid hML5
    have HMB := Lib.hid hMB5
    clear hW5 hg9 hML hMB hML5 hMB5 hT4 hV4 hc4 hbw4 hb45
    go_upto_region 4 with fail
    rw [← Hg9.out]
    change Code.wp _ _ _ _ (w4.alloc (.cells (ndC (.slice A1 n1 c1) (.slice A2 n2 c2) (.map M)).toArray 109))
    rw [← HW5.out]
    clear HW5 Hg9
    have Hc5 := Lib.hid hc5
    have Hrs : Hid (rs = [] ∧ decide ((1 : Int) < (n : Int)) = false ∨ rs ≠ [] ∧ decide ((1 : Int) < (n : Int)) = true) := by
      have := Hn1.out
      cases rs with
      | nil => left; exact ⟨rfl, by simp at this; simp; omega⟩
      | cons y ys => right; exact ⟨by simp, by simp at this; simp; omega⟩
    cases ok with
    | false =>
      go_wp2_with fail
      go_ret3
      refine ⟨_, rfl, ?_, hbw5⟩
      rw [show chkF root key (b :: rs) t = none by rw [Hchk.out]; simp]
      rfl
    | true =>
      have hchk := Hchk.out
      rw [if_neg (by simp)] at hchk
      have Hot := Lib.hid (ok_told Hok.out)
      have Hchk2 := Lib.hid hchk
      have hLl := Lib.hid (restF_length key t 64)
      have hbl5 : Bs W5 W5.heap.size A3 (restF key t 64) := (Hb3.out.below hbw5 (Nat.le_refl _)).more hbw5.size
      clear hchk Hchk
      cases hleaf : d.leaf with
      | true =>
        obtain rfl : M = none := HML.out hleaf
        have hlt : n1 = n3 := by have := Hot.out.1 hleaf; rw [H1.out] at this; exact this
        have Hleaf := Lib.hid hleaf
        have Hl3 : Hid ((restF key t 64).length = n3) := by show _ = _; rw [hLl.out, Hn3.out]
        have Hlt := Lib.hid hlt
        clear hleaf HMB HML hlt
        obtain ⟨ZL, hZL⟩ : ∃ ZL, ZL = Lib.byteCells zeros := ⟨_, rfl⟩
        obtain ⟨XL, hXL⟩ : ∃ XL, XL = Lib.byteCells zeros := ⟨_, rfl⟩
        have hxl : XL.length = 32 := by
          rw [hXL, Lib.byteCells_length]
          first | rfl | exact kidD_length _ _ _
        have HXi := Lib.hid (show (Try.prog.info? 24).map (·.size) = some XL.toArray.size by rw [List.size_toArray, hxl]; kernel_rfl)
        have HXj := Lib.hid (show (Try.prog.info? 24).map (·.size) = some XL.length by rw [hxl]; kernel_rfl)
        have HX1 := Lib.hid (show XL.toArray.all (·.oneCell') = true by rw [hXL]; simpa using byteCells_one _)
        have HXs := Lib.hid (show (Lib.byteCells zeros).toArray.size = XL.toArray.size by rw [List.size_toArray, List.size_toArray, hxl, Lib.byteCells_length]; simp [zeros])
        have HXL := Lib.hid hXL
        have HZL := Lib.hid hZL
        clear hXL hZL hxl
        go_wp2_with fail
        go_at_call 59
        refine Calls.mono (pnext_leaf A1 A2 A3 n1 n2 n3 c1 c2 c3 W5 XL HXL.out) ?_
        rintro e w6 ⟨rfl, hb56⟩
        dsimp only
        obtain ⟨W7, hW7⟩ : ∃ W, W = (w6.alloc (.cells (Lib.byteCells zeros).toArray 24)).setRow w6.heap.size XL.toArray := ⟨_, rfl⟩
        obtain ⟨hX7, hb67⟩ := alloc_row w6 24 (Lib.byteCells zeros).toArray XL
        rw [← hW7] at hX7 hb67
        have hb57 : Below W5.heap.size W5 W7 := hb56.trans (hb67.mono hb56.size)
        have hN7 : Arr W7 g9 109 (ndC (.slice A1 n1 c1) (.slice A2 n2 c2) (.map none)) := hN5.below hb57 hN5.lt
        have h70 : W7.cell? ⟨g9, 0, none⟩ = some (.slice A1 n1 c1) := hN7.cell 0
        have h71 : W7.cell? ⟨g9, 1, none⟩ = some (.slice A2 n2 c2) := hN7.cell 1
        have h72 : W7.cell? ⟨g9, 2, none⟩ = some (.map none) := hN7.cell 2
        have hbw7 : Below w.heap.size w W7 := hbw5.trans (hb57.mono hbw5.size)
        have hT7 : Bs W7 W7.heap.size A1 d.told := (hT5.below hb57 (Nat.le_refl _)).more hb57.size
        have hV7 : Bs W7 W7.heap.size A2 d.value := (hV5.below hb57 (Nat.le_refl _)).more hb57.size
        have hbl7 : Bs W7 W7.heap.size A3 (restF key t 64) := (hbl5.below hb57 (Nat.le_refl _)).more hb57.size
        have HW7 := Lib.hid hW7
        clear hW7 hb56 hb67 hb57 hN5 h50 h51 h52 hbw5 hT5 hV5 hbl5 hc5
        go_upto_region 7 with (change wpList _ _ _ _ _ (w6.alloc (.cells (Lib.byteCells zeros).toArray 24)); refine wpList_store_row rfl _ _ _ rfl w6.heap.size XL.toArray rfl rfl 24 (Lib.byteCells zeros).toArray (heap_alloc_new w6 _) HXi.out HXs.out HX1.out ?_; rw [← HW7.out])
        rcases Hrs.out with ⟨hrs, hd2⟩ | ⟨hrs, hd2⟩
        · have Hrs2 := Lib.hid hrs
          clear hrs
          go_wp2_with fail
          go_at_call 60
          obtain ⟨r3, hr3⟩ : ∃ r3, decide (d.told = restF key t 64) = r3 := ⟨_, rfl⟩
          refine Calls.mono (shown_leaf d.told (restF key t 64) A1 A2 A3 n1 n2 n3 c1 c2 c3 H1.out Hl3.out W7 hT7 hbl7 r3 hr3) ?_
          rintro e w8 ⟨rfl, hb78⟩
          dsimp only
          have hV8 : Bs w8 w8.heap.size A2 d.value := (hV7.below hb78 (Nat.le_refl _)).more hb78.size
          have hb8 := hbw7.trans (hb78.mono hbw7.size)
          have h64 : t + n1 = 64 := by have := Hn3.out; have := Hlt.out; omega
          have Hr3 := Lib.hid hr3
          clear hr3
          cases r3 with
          | true =>
            go_wp2_with fail
            go_ret3
            refine ⟨_, rfl, ?_, hb8⟩
            have hq : d.told = restF key t 64 := by simpa using Hr3.out
            rw [Hchk2.out, if_pos (by rw [H1.out, h64]; exact hq), Hleaf.out, if_pos rfl, if_pos Hrs2.out]
            exact ⟨A2, c2, by rw [H2.out]; rfl, by rw [H2.out]; exact h21, h22, hV8⟩
          | false =>
            go_wp2_with fail
            go_ret3
            refine ⟨_, rfl, ?_, hb8⟩
            have hq : d.told ≠ restF key t 64 := by simpa using Hr3.out
            rw [Hchk2.out, if_neg (by rw [H1.out, h64]; exact hq), if_pos Hrs2.out]
            rfl
        · have Hrs2 := Lib.hid hrs
          clear hrs
          go_wp2_with fail
          go_ret3
          refine ⟨_, rfl, ?_, hbw7⟩
          rw [Hchk2.out, Hleaf.out]
          split
          · rw [if_pos rfl, if_neg Hrs2.out]; rfl
          · rw [if_neg Hrs2.out]; rfl
      | false =>
        obtain ⟨m, hM, hKm5⟩ := HMB.out hleaf
        subst hM
        have hlt : n1 < n3 := by have := Hot.out.2 hleaf; rw [H1.out] at this; exact this
        have Hleaf := Lib.hid hleaf
        have Hl3 : Hid ((restF key t 64).length = n3) := by show _ = _; rw [hLl.out, Hn3.out]
        have Htk : Hid ((restF key t 64).take n1 = restF key t (t + n1)) := by
          show _ = _
          have h := restF_take key (t := t) (u := t + n1) (v := 64) (by omega) (by have := Hn3.out; omega)
          rw [show t + n1 - t = n1 by omega] at h
          exact h
        clear hleaf HMB HML
        by_cases hpre : d.told = restF key t (t + n1)
        · have Hpre := Lib.hid hpre
          have hpre2 : (restF key t 64).take n1 = d.told := by rw [Htk.out, hpre]
          obtain ⟨x, hx⟩ : ∃ x, nibF key (t + n1) = x := ⟨_, rfl⟩
          have hx16 : x < 16 := by rw [← hx]; exact nibF_lt _ _
          have hgx : ((restF key t 64).getD n1 0).toNat = x := by
            have h := restF_get key (t := t) (u := t + n1) (v := 64) (by omega) (by have := Hn3.out; omega)
            rw [show t + n1 - t = n1 by omega] at h
            rw [h, hx]
          have Hx := Lib.hid hx
          have Hgx := Lib.hid hgx
          have Hpre2 := Lib.hid hpre2
          obtain ⟨bt, hbt⟩ : ∃ bt, bitM d.mask x = bt := ⟨_, rfl⟩
          have Hbt := Lib.hid hbt
          clear hx hgx hpre hpre2 hbt
          cases bt with
          | false =>
            obtain ⟨ZL, hZL⟩ : ∃ ZL, ZL = Lib.byteCells zeros := ⟨_, rfl⟩
            obtain ⟨XL, hXL⟩ : ∃ XL, XL = Lib.byteCells (if false = true then kidD d.mask d.st x else zeros) := ⟨_, rfl⟩
            have hxl : XL.length = 32 := by
              rw [hXL, Lib.byteCells_length]
              first | rfl | exact kidD_length _ _ _
            have HXi := Lib.hid (show (Try.prog.info? 24).map (·.size) = some XL.toArray.size by rw [List.size_toArray, hxl]; kernel_rfl)
            have HXj := Lib.hid (show (Try.prog.info? 24).map (·.size) = some XL.length by rw [hxl]; kernel_rfl)
            have HX1 := Lib.hid (show XL.toArray.all (·.oneCell') = true by rw [hXL]; simpa using byteCells_one _)
            have HXs := Lib.hid (show (Lib.byteCells zeros).toArray.size = XL.toArray.size by rw [List.size_toArray, List.size_toArray, hxl, Lib.byteCells_length]; simp [zeros])
            have HXL := Lib.hid hXL
            have HZL := Lib.hid hZL
            clear hXL hZL hxl
            go_wp2_with fail
            go_at_call 59
            refine Calls.mono (pnext_on d.told (restF key t 64) A1 A2 A3 n1 n2 n3 c1 c2 c3 H1.out Hl3.out hlt hc3 hm3 m d.mask d.st W5 hT5 hbl5 hKm5 Hpre2.out x Hgx.out hx16 false Hbt.out XL HXL.out ZL HZL.out) ?_
            rintro e w6 ⟨rfl, hb56⟩
            dsimp only
            obtain ⟨W7, hW7⟩ : ∃ W, W = (w6.alloc (.cells (Lib.byteCells zeros).toArray 24)).setRow w6.heap.size XL.toArray := ⟨_, rfl⟩
            obtain ⟨hX7, hb67⟩ := alloc_row w6 24 (Lib.byteCells zeros).toArray XL
            rw [← hW7] at hX7 hb67
            have hb57 : Below W5.heap.size W5 W7 := hb56.trans (hb67.mono hb56.size)
            have hN7 : Arr W7 g9 109 (ndC (.slice A1 n1 c1) (.slice A2 n2 c2) (.map (some m))) := hN5.below hb57 hN5.lt
            have h70 : W7.cell? ⟨g9, 0, none⟩ = some (.slice A1 n1 c1) := hN7.cell 0
            have h71 : W7.cell? ⟨g9, 1, none⟩ = some (.slice A2 n2 c2) := hN7.cell 1
            have h72 : W7.cell? ⟨g9, 2, none⟩ = some (.map (some m)) := hN7.cell 2
            have hbw7 : Below w.heap.size w W7 := hbw5.trans (hb57.mono hbw5.size)
            have hT7 : Bs W7 W7.heap.size A1 d.told := (hT5.below hb57 (Nat.le_refl _)).more hb57.size
            have hV7 : Bs W7 W7.heap.size A2 d.value := (hV5.below hb57 (Nat.le_refl _)).more hb57.size
            have hbl7 : Bs W7 W7.heap.size A3 (restF key t 64) := (hbl5.below hb57 (Nat.le_refl _)).more hb57.size
            have HW7 := Lib.hid hW7
            clear hW7 hb56 hb67 hb57 hN5 h50 h51 h52 hbw5 hT5 hV5 hbl5 hKm5 hc5
            go_upto_region 7 with (change wpList _ _ _ _ _ (w6.alloc (.cells (Lib.byteCells zeros).toArray 24)); refine wpList_store_row rfl _ _ _ rfl w6.heap.size XL.toArray rfl rfl 24 (Lib.byteCells zeros).toArray (heap_alloc_new w6 _) HXi.out HXs.out HX1.out ?_; rw [← HW7.out])
            rcases Hrs.out with ⟨hrs, hd2⟩ | ⟨hrs, hd2⟩
            · have Hrs2 := Lib.hid hrs
              clear hrs
              go_wp2_with fail
              go_at_call 60
              refine Calls.mono (shown_branch A1 A2 A3 n1 n2 n3 c1 c2 c3 m W7) ?_
              rintro e w8 ⟨rfl, hb78⟩
              dsimp only
              have hb8 := hbw7.trans (hb78.mono hbw7.size)
              go_wp2_with fail
              go_ret3
              refine ⟨_, rfl, ?_, hb8⟩
              rw [Hchk2.out, if_pos (by rw [H1.out]; exact Hpre.out), Hleaf.out, if_neg (by simp), H1.out, Hx.out, Hbt.out, if_neg (by simp), if_pos Hrs2.out]
              rfl
            · have Hrs2 := Lib.hid hrs
              clear hrs
              go_wp2_with fail
              go_ret3
              refine ⟨_, rfl, ?_, hbw7⟩
              rw [Hchk2.out, if_pos (by rw [H1.out]; exact Hpre.out), Hleaf.out, if_neg (by simp), H1.out, Hx.out, Hbt.out, if_neg (by simp), if_neg Hrs2.out]
              rfl
          | true =>
            obtain ⟨ZL, hZL⟩ : ∃ ZL, ZL = Lib.byteCells zeros := ⟨_, rfl⟩
            obtain ⟨XL, hXL⟩ : ∃ XL, XL = Lib.byteCells (if true = true then kidD d.mask d.st x else zeros) := ⟨_, rfl⟩
            have hxl : XL.length = 32 := by
              rw [hXL, Lib.byteCells_length]
              first | rfl | exact kidD_length _ _ _
            have HXi := Lib.hid (show (Try.prog.info? 24).map (·.size) = some XL.toArray.size by rw [List.size_toArray, hxl]; kernel_rfl)
            have HXj := Lib.hid (show (Try.prog.info? 24).map (·.size) = some XL.length by rw [hxl]; kernel_rfl)
            have HX1 := Lib.hid (show XL.toArray.all (·.oneCell') = true by rw [hXL]; simpa using byteCells_one _)
            have HXs := Lib.hid (show (Lib.byteCells zeros).toArray.size = XL.toArray.size by rw [List.size_toArray, List.size_toArray, hxl, Lib.byteCells_length]; simp [zeros])
            have HXL := Lib.hid hXL
            have HZL := Lib.hid hZL
            clear hXL hZL hxl
            go_wp2_with fail
            go_at_call 59
            refine Calls.mono (pnext_on d.told (restF key t 64) A1 A2 A3 n1 n2 n3 c1 c2 c3 H1.out Hl3.out hlt hc3 hm3 m d.mask d.st W5 hT5 hbl5 hKm5 Hpre2.out x Hgx.out hx16 true Hbt.out XL HXL.out ZL HZL.out) ?_
            rintro e w6 ⟨rfl, hb56⟩
            dsimp only
            obtain ⟨W7, hW7⟩ : ∃ W, W = (w6.alloc (.cells (Lib.byteCells zeros).toArray 24)).setRow w6.heap.size XL.toArray := ⟨_, rfl⟩
            obtain ⟨hX7, hb67⟩ := alloc_row w6 24 (Lib.byteCells zeros).toArray XL
            rw [← hW7] at hX7 hb67
            have hb57 : Below W5.heap.size W5 W7 := hb56.trans (hb67.mono hb56.size)
            have hN7 : Arr W7 g9 109 (ndC (.slice A1 n1 c1) (.slice A2 n2 c2) (.map (some m))) := hN5.below hb57 hN5.lt
            have h70 : W7.cell? ⟨g9, 0, none⟩ = some (.slice A1 n1 c1) := hN7.cell 0
            have h71 : W7.cell? ⟨g9, 1, none⟩ = some (.slice A2 n2 c2) := hN7.cell 1
            have h72 : W7.cell? ⟨g9, 2, none⟩ = some (.map (some m)) := hN7.cell 2
            have hbw7 : Below w.heap.size w W7 := hbw5.trans (hb57.mono hbw5.size)
            have hT7 : Bs W7 W7.heap.size A1 d.told := (hT5.below hb57 (Nat.le_refl _)).more hb57.size
            have hV7 : Bs W7 W7.heap.size A2 d.value := (hV5.below hb57 (Nat.le_refl _)).more hb57.size
            have hbl7 : Bs W7 W7.heap.size A3 (restF key t 64) := (hbl5.below hb57 (Nat.le_refl _)).more hb57.size
            have HW7 := Lib.hid hW7
            clear hW7 hb56 hb67 hb57 hN5 h50 h51 h52 hbw5 hT5 hV5 hbl5 hKm5 hc5
            go_upto_region 7 with (change wpList _ _ _ _ _ (w6.alloc (.cells (Lib.byteCells zeros).toArray 24)); refine wpList_store_row rfl _ _ _ rfl w6.heap.size XL.toArray rfl rfl 24 (Lib.byteCells zeros).toArray (heap_alloc_new w6 _) HXi.out HXs.out HX1.out ?_; rw [← HW7.out])
            clear hd0
            obtain ⟨g11, hg11⟩ : ∃ g, g = w6.heap.size := ⟨_, rfl⟩
            rw [← hg11] at hX7 ⊢
            obtain ⟨k1, hk1⟩ : ∃ k1, n1 + 1 = k1 := ⟨_, rfl⟩
            have hk1I : IntKind.i64.wrap ((n1 : Int) + 1) = (k1 : Int) := by
              rw [IntWalk.i64_in _ (by have := Hn3.out; omega)]; omega
            have hk13 : k1 ≤ n3 := by omega
            obtain ⟨A4, hA4⟩ : ∃ A4, cutA A3 c3 k1 = A4 := ⟨_, rfl⟩
            obtain ⟨n4, hn4⟩ : ∃ n4, n3 - k1 = n4 := ⟨_, rfl⟩
            obtain ⟨c4, hc4⟩ : ∃ c4, c3 - k1 = c4 := ⟨_, rfl⟩
            obtain ⟨A5, hA5⟩ : ∃ A5, cutA (some ⟨blk, off, none⟩) c 1 = A5 := ⟨_, rfl⟩
            obtain ⟨n5, hn5⟩ : ∃ n5, n - 1 = n5 := ⟨_, rfl⟩
            obtain ⟨c5, hc5⟩ : ∃ c5, c - 1 = c5 := ⟨_, rfl⟩
            have Hs4 : Hid (∀ w', (Instr.sliceAt 40 (.slice A3 n3 c3) (some (.int .i64 (k1 : Nat))) none none).run Try.prog w' = .ok (.slice A4 n4 c4) w') := fun w' => by
              rw [← hA4, ← hn4, ← hc4]
              exact run_from 40 (by kernel_rfl) (by kernel_rfl) A3 n3 c3 k1 .i64 _ rfl hk13 w'
            have Hs5 : Hid (∀ w', (Instr.sliceAt 25 (.slice (some ⟨blk, off, none⟩) n c) (some (.int .i64 1)) none none).run Try.prog w' = .ok (.slice A5 n5 c5) w') := fun w' => by
              rw [← hA5, ← hn5, ← hc5]
              exact run_from 25 (by kernel_rfl) (by kernel_rfl) _ n c 1 .i64 1 rfl hnp w'
            have hbl8 : Bs (W7.drewN 1) (W7.drewN 1).heap.size A4 (restF key (t + n1 + 1) 64) := by
              have h := hbl7.cutA (c := c3) (k := k1) (by rw [Hl3.out]; exact hk13) (by rw [Hl3.out]; exact hc3)
              rw [hA4, show k1 = (t + n1 + 1) - t by omega, restF_drop key (by omega) (by have := Hn3.out; omega)] at h
              exact h
            have hrw8 : RowsAt (W7.drewN 1) (W7.drewN 1).heap.size A5 rs := by
              have h := ((Hrows.out.below hbw7 (Nat.le_refl _)).more hbw7.size).cutA1 (c := c) (by have := Hn1.out; omega)
              rw [hA5] at h
              exact h
            have hih := hIH (t + n1 + 1) (kidD d.mask d.st x) XL A4 n4 c4 A5 n5 c5 (W7.drewN 1) (kidD_length _ _ _) (by rw [HXL.out]; simp) (by have := Hn3.out; omega) (by have := Hn3.out; omega) (by omega) (by omega) hbl8 (by have := Hn1.out; omega) (by omega) (by omega) hrw8 (.inl (by omega))
            have Hih := Lib.hid hih
            clear hih hbl8 hrw8 hA4 hA5 hn4 hn5 hc4 hc5 hk1 hk13 hg11
            obtain ⟨NL, hNL⟩ : ∃ NL, NL = ndC (.slice A1 n1 c1) (.slice A2 n2 c2) (.map (some m)) := ⟨_, rfl⟩
            rw [← hNL] at hN7
            have Hc0 : Hid (∀ w' : World, Arr w' g9 109 NL → w'.cell? ⟨g9, 0, none⟩ = some (.slice A1 n1 c1)) := fun w' h => by rw [h.cell, hNL]; rfl
            clear hNL
            go_upto_region 8 with fail
            refine wp_region_held_drew (S := fun w' => Arr w' g11 24 XL ∧ Arr w' g9 109 NL) (by kernel_rfl) ⟨hX7.drewN 1, hN7.drewN 1⟩ (fun hHeld => ?_)
            refine anyH_take (i := 0) (some 43) rfl rfl (by kernel_rfl) (by kernel_rfl) (by kernel_rfl) (fun _ _ _ h => h) (yieldsIf_load_mid (by rfl) 24 (.tmp 11) rfl g11 0 rfl XL _ (fun w' h => h.1.range) Try.underlying24 rfl HXj.out) (by assumption) ?_
            simp only [Act.put, List.setIfInBounds_toArray, List.set_cons_zero, List.set_cons_succ]
            refine anyH_take (i := 1) (v := .slice A3 n3 c3) (some 44) rfl rfl (by kernel_rfl) (by kernel_rfl) (by kernel_rfl) (fun _ _ _ h => h) (Or.inl ⟨by rfl, fun w' hw => by go_simp⟩) (by assumption) ?_
            simp only [Act.put, List.setIfInBounds_toArray, List.set_cons_zero, List.set_cons_succ]
            refine anyH_take (i := 2) (v := .pointer (some ⟨g9, 0, none⟩)) (some 45) rfl rfl (by kernel_rfl) (by kernel_rfl) (by kernel_rfl) (fun _ _ _ h => h) (Or.inl ⟨by rfl, fun w' hw => by go_simp⟩) (by assumption) ?_
            simp only [Act.put, List.setIfInBounds_toArray, List.set_cons_zero, List.set_cons_succ]
            refine anyH_take (i := 3) (v := .slice A1 n1 c1) (some 46) rfl rfl (by kernel_rfl) (by kernel_rfl) (by kernel_rfl) (fun _ _ _ h => h) (Or.inl ⟨by rfl, fun w' hw => by (have hc := Hc0.out w' hw.2; go_simp)⟩) (by assumption) ?_
            simp only [Act.put, List.setIfInBounds_toArray, List.set_cons_zero, List.set_cons_succ]
            refine anyH_take (i := 4) (v := .int .i64 (n1 : Nat)) (some 47) rfl rfl (by kernel_rfl) (by kernel_rfl) (by kernel_rfl) (fun _ _ _ h => h) (Or.inl ⟨by rfl, fun w' hw => by go_simp⟩) (by assumption) ?_
            simp only [Act.put, List.setIfInBounds_toArray, List.set_cons_zero, List.set_cons_succ]
            refine anyH_take (i := 5) (v := .int .i64 (k1 : Nat)) (some 48) rfl rfl (by kernel_rfl) (by kernel_rfl) (by kernel_rfl) (fun _ _ _ h => h) (Or.inl ⟨by rfl, fun w' hw => by go_simp⟩) (by assumption) ?_
            simp only [Act.put, List.setIfInBounds_toArray, List.set_cons_zero, List.set_cons_succ]
            refine anyH_take (i := 6) (v := .slice A4 n4 c4) (some 49) rfl rfl (by kernel_rfl) (by kernel_rfl) (by kernel_rfl) (fun _ _ _ h => h) (Or.inl ⟨by rfl, fun w' hw => by (have hs := Hs4.out; go_simp)⟩) (by assumption) ?_
            simp only [Act.put, List.setIfInBounds_toArray, List.set_cons_zero, List.set_cons_succ]
            refine anyH_take (i := 7) (v := .slice (some ⟨blk, off, none⟩) n c) (some 50) rfl rfl (by kernel_rfl) (by kernel_rfl) (by kernel_rfl) (fun _ _ _ h => h) (Or.inl ⟨by rfl, fun w' hw => by go_simp⟩) (by assumption) ?_
            simp only [Act.put, List.setIfInBounds_toArray, List.set_cons_zero, List.set_cons_succ]
            refine anyH_take (i := 8) (v := .slice A5 n5 c5) (some 51) rfl rfl (by kernel_rfl) (by kernel_rfl) (by kernel_rfl) (fun _ _ _ h => h) (Or.inl ⟨by rfl, fun w' hw => by (have hs := Hs5.out; go_simp)⟩) (by assumption) ?_
            simp only [Act.put, List.setIfInBounds_toArray, List.set_cons_zero, List.set_cons_succ]
            refine wpAnyH_ready (rs := [9]) (by kernel_rfl) (by simp) ?_
            refine AllReadyH.cons rfl (fun K hK => ?_) AllReadyH.nil
            go_simp
            go_at_call 32
            refine Calls.mono Hih.out ?_
            rintro e w8 ⟨V, rfl, hsh, hb78⟩
            obtain ⟨va, vb, vc, hV⟩ := hsh.tuple
            subst hV
            have hbx : Below W7.heap.size W7 w8 := ⟨hb78.os, hb78.tape, hb78.output, hb78.size, hb78.block⟩
            have hX8 := hX7.below hbx hX7.lt
            have hN8 := hN7.below hbx hN7.lt
            have hb8 : Below w.heap.size w w8 := hbw7.trans (hbx.mono hbw7.size)
            clear hbx hb78 hX7 hN7 hbw7 hT7 hV7 hbl7 h70 h71 h72
            dsimp only
            go_wp2_with fail
            refine hK.out _ _ ⟨hX8, hN8⟩ (fun hHeldx => ?_)
            clear hK K
            try simp only [Act.put, List.setIfInBounds_toArray, List.set_cons_zero, List.set_cons_succ]
            refine anyH_take (i := 10) (v := va) (some 53) rfl rfl (by kernel_rfl) (by kernel_rfl) (by kernel_rfl) (fun _ _ _ h => h) (Or.inl ⟨by rfl, fun w' hw => by go_simp⟩) (by assumption) ?_
            simp only [Act.put, List.setIfInBounds_toArray, List.set_cons_zero, List.set_cons_succ]
            refine anyH_take (i := 11) (v := vb) (some 54) rfl rfl (by kernel_rfl) (by kernel_rfl) (by kernel_rfl) (fun _ _ _ h => h) (Or.inl ⟨by rfl, fun w' hw => by go_simp⟩) (by assumption) ?_
            simp only [Act.put, List.setIfInBounds_toArray, List.set_cons_zero, List.set_cons_succ]
            refine anyH_take (i := 12) (v := vc) (some 55) rfl rfl (by kernel_rfl) (by kernel_rfl) (by kernel_rfl) (fun _ _ _ h => h) (Or.inl ⟨by rfl, fun w' hw => by go_simp⟩) (by assumption) ?_
            simp only [Act.put, List.setIfInBounds_toArray, List.set_cons_zero, List.set_cons_succ]
            refine anyH_take (i := 13) (v := va) (some 6) rfl rfl (by kernel_rfl) (by kernel_rfl) (by kernel_rfl) (fun _ _ _ h => h) (Or.inl ⟨by rfl, fun w' hw => by go_simp⟩) (by assumption) ?_
            simp only [Act.put, List.setIfInBounds_toArray, List.set_cons_zero, List.set_cons_succ]
            refine anyH_take (i := 14) (v := vb) (some 7) rfl rfl (by kernel_rfl) (by kernel_rfl) (by kernel_rfl) (fun _ _ _ h => h) (Or.inl ⟨by rfl, fun w' hw => by go_simp⟩) (by assumption) ?_
            simp only [Act.put, List.setIfInBounds_toArray, List.set_cons_zero, List.set_cons_succ]
            refine anyH_take (i := 15) (v := vc) (some 8) rfl rfl (by kernel_rfl) (by kernel_rfl) (by kernel_rfl) (fun _ _ _ h => h) (Or.inl ⟨by rfl, fun w' hw => by go_simp⟩) (by assumption) ?_
            simp only [Act.put, List.setIfInBounds_toArray, List.set_cons_zero, List.set_cons_succ]
            refine wpAnyH_done (by kernel_rfl) ?_ _
            clear hHeld hHeldx
            go_wp2_with fail
            go_ret3
            refine ⟨_, rfl, ?_, hb8⟩
            rw [Hchk2.out, if_pos (by rw [H1.out]; exact Hpre.out), Hleaf.out, if_neg (by simp), H1.out, Hx.out, Hbt.out, if_pos rfl]
            exact hsh
        · have Hpre := Lib.hid hpre
          have Hpre2 : Hid ((restF key t 64).take n1 ≠ d.told) := fun h => hpre (by rw [← h, Htk.out])
          clear hpre
          obtain ⟨ZL, hZL⟩ : ∃ ZL, ZL = Lib.byteCells zeros := ⟨_, rfl⟩
          obtain ⟨XL, hXL⟩ : ∃ XL, XL = Lib.byteCells zeros := ⟨_, rfl⟩
          have hxl : XL.length = 32 := by
            rw [hXL, Lib.byteCells_length]
            first | rfl | exact kidD_length _ _ _
          have HXi := Lib.hid (show (Try.prog.info? 24).map (·.size) = some XL.toArray.size by rw [List.size_toArray, hxl]; kernel_rfl)
          have HXj := Lib.hid (show (Try.prog.info? 24).map (·.size) = some XL.length by rw [hxl]; kernel_rfl)
          have HX1 := Lib.hid (show XL.toArray.all (·.oneCell') = true by rw [hXL]; simpa using byteCells_one _)
          have HXs := Lib.hid (show (Lib.byteCells zeros).toArray.size = XL.toArray.size by rw [List.size_toArray, List.size_toArray, hxl, Lib.byteCells_length]; simp [zeros])
          have HXL := Lib.hid hXL
          have HZL := Lib.hid hZL
          clear hXL hZL hxl
          go_wp2_with fail
          go_at_call 59
          refine Calls.mono (pnext_off d.told (restF key t 64) A1 A2 A3 n1 n2 n3 c1 c2 c3 H1.out Hl3.out hlt hc3 hm3 m d.mask d.st W5 hT5 hbl5 hKm5 Hpre2.out XL HXL.out) ?_
          rintro e w6 ⟨rfl, hb56⟩
          dsimp only
          obtain ⟨W7, hW7⟩ : ∃ W, W = (w6.alloc (.cells (Lib.byteCells zeros).toArray 24)).setRow w6.heap.size XL.toArray := ⟨_, rfl⟩
          obtain ⟨hX7, hb67⟩ := alloc_row w6 24 (Lib.byteCells zeros).toArray XL
          rw [← hW7] at hX7 hb67
          have hb57 : Below W5.heap.size W5 W7 := hb56.trans (hb67.mono hb56.size)
          have hN7 : Arr W7 g9 109 (ndC (.slice A1 n1 c1) (.slice A2 n2 c2) (.map (some m))) := hN5.below hb57 hN5.lt
          have h70 : W7.cell? ⟨g9, 0, none⟩ = some (.slice A1 n1 c1) := hN7.cell 0
          have h71 : W7.cell? ⟨g9, 1, none⟩ = some (.slice A2 n2 c2) := hN7.cell 1
          have h72 : W7.cell? ⟨g9, 2, none⟩ = some (.map (some m)) := hN7.cell 2
          have hbw7 : Below w.heap.size w W7 := hbw5.trans (hb57.mono hbw5.size)
          have hT7 : Bs W7 W7.heap.size A1 d.told := (hT5.below hb57 (Nat.le_refl _)).more hb57.size
          have hV7 : Bs W7 W7.heap.size A2 d.value := (hV5.below hb57 (Nat.le_refl _)).more hb57.size
          have hbl7 : Bs W7 W7.heap.size A3 (restF key t 64) := (hbl5.below hb57 (Nat.le_refl _)).more hb57.size
          have HW7 := Lib.hid hW7
          clear hW7 hb56 hb67 hb57 hN5 h50 h51 h52 hbw5 hT5 hV5 hbl5 hKm5 hc5
          go_upto_region 7 with (change wpList _ _ _ _ _ (w6.alloc (.cells (Lib.byteCells zeros).toArray 24)); refine wpList_store_row rfl _ _ _ rfl w6.heap.size XL.toArray rfl rfl 24 (Lib.byteCells zeros).toArray (heap_alloc_new w6 _) HXi.out HXs.out HX1.out ?_; rw [← HW7.out])
          rcases Hrs.out with ⟨hrs, hd2⟩ | ⟨hrs, hd2⟩
          · have Hrs2 := Lib.hid hrs
            clear hrs
            go_wp2_with fail
            go_at_call 60
            refine Calls.mono (shown_branch A1 A2 A3 n1 n2 n3 c1 c2 c3 m W7) ?_
            rintro e w8 ⟨rfl, hb78⟩
            dsimp only
            have hb8 := hbw7.trans (hb78.mono hbw7.size)
            go_wp2_with fail
            go_ret3
            refine ⟨_, rfl, ?_, hb8⟩
            rw [Hchk2.out, if_neg (by rw [H1.out]; exact Hpre.out), if_pos Hrs2.out]
            rfl
          · have Hrs2 := Lib.hid hrs
            clear hrs
            go_wp2_with fail
            go_ret3
            refine ⟨_, rfl, ?_, hbw7⟩
            rw [Hchk2.out, if_neg (by rw [H1.out]; exact Hpre.out), if_neg Hrs2.out]
            rfl

end Go.Proofs.Ytlailhjpfadpcaa

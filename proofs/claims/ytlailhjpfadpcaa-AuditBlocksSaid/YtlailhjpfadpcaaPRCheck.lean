/-
  The document's own Check. Written by gen_prcheck.py.
-/
import Derived.Test.YtlailhjpfadpcaaPRead
import Derived.Test.YtlailhjpfadpcaaRNib
namespace Go.Proofs.Ytlailhjpfadpcaa
open Go.RowKit
set_option linter.unusedVariables false
set_option linter.unusedSimpArgs false

theorem rnib_at (key : List UInt8) (hk : key.length = 32) (KL : List Value) (hKL : KL = Lib.byteCells key) (i : Nat) (hi : i < 64) (r : Nat) (hr : nibF key i = r) (w : World) :
    Calls Try.prog 25 #[.agg KL.toArray, .int .i64 (i : Nat)] w fun e w' => e = .returned (.int .u8 (r : Nat)) ∧ Below w.heap.size w w' :=
  rnibble_run key hk KL hKL i hi _ rfl r (by rw [← hr]; rfl) w
theorem Below.dP {w w' : World} (h : Below (w.drewN 1).heap.size (w.drewN 1) w') : Below w.heap.size w w' := ⟨h.os, h.tape, h.output, h.size, h.block⟩
theorem restF_snocP (key : List UInt8) (t i : Nat) : restF key t (t + (i + 1)) = restF key t (t + i) ++ [(nibF key (t + i)).toUInt8] := by
  rw [show t + (i + 1) = (t + i) + 1 by omega]; exact restF_snoc key (by omega)
/-- One nibble more is the same. -/
theorem same_step {told key : List UInt8} {t i x y : Nat} (hi : i < told.length) (hx : (told.getD i 0).toNat = x) (hy : nibF key (t + i) = y) :
    decide (told.take (i + 1) = restF key t (t + (i + 1))) = (decide (told.take i = restF key t (t + i)) && ((x : Int) == (y : Int))) := by
  have hy16 := nibF_lt key (t + i)
  have hg : told.getD i 0 = told[i] := by simp [List.getD, hi]
  rw [restF_snocP, List.take_succ_eq_append_getElem hi, Bool.eq_iff_iff, decide_eq_true_eq, Bool.and_eq_true, decide_eq_true_eq, beq_iff_eq]
  have hl : (told.take i).length = (restF key t (t + i)).length := by rw [List.length_take, restF_length]; omega
  constructor
  · intro h
    obtain ⟨h1, h2⟩ := List.append_inj h hl
    refine ⟨h1, ?_⟩
    have h3 : told[i] = (nibF key (t + i)).toUInt8 := by injection h2
    rw [hg] at hx
    rw [← hx, h3, ← hy]
    simp [Nat.toUInt8, UInt8.toNat_ofNat']
    omega
  · rintro ⟨h1, h2⟩
    rw [h1]
    congr 2
    apply UInt8.toNat_inj.1
    rw [← hg, hx, hy]
    simp [Nat.toUInt8, UInt8.toNat_ofNat']
    omega

/-- What the document's Check gives, for what is left of a row of nodes. -/
def RFollowsP (key : List UInt8) (rs : List (List UInt8)) : Prop :=
  ∀ (t : Nat) (root : List UInt8) (WL KL : List Value) (A : Option Addr) (n c : Nat) (w : World), root.length = 32 → WL = Lib.byteCells root → KL = Lib.byteCells key → t ≤ 64 → rs.length = n → n ≤ c → c ≤ maxLen → RowsAt w w.heap.size A rs →
    Calls Try.prog 12 #[.agg WL.toArray, .agg KL.toArray, .slice A n c, .int .i64 (t : Nat)] w fun e w' => ∃ V, e = .returned V ∧ ShownP w' (chkF root key rs t) V ∧ Below w.heap.size w w'

set_option maxHeartbeats 8000000 in
set_option maxRecDepth 100000 in
theorem rcheck_nil (key : List UInt8) (hk : key.length = 32) : RFollowsP key [] := by
  intro t root WL KL A n c w hr hWL hKL ht hn hc hm hrows
  obtain rfl : n = 0 := by rw [← hn]; rfl
  obtain ⟨SL, hSL⟩ : ∃ SL, SL = Lib.byteCells (shaF (tagF 5 [])) := ⟨_, rfl⟩
  obtain ⟨r0, hr0⟩ : ∃ r0, decide (root = shaF (tagF 5 [])) = r0 := ⟨_, rfl⟩
  have Hcmp := Lib.hid (fun w => digCmpP root _ hr (shaF_length (tagF 5 [])) WL SL hWL hSL r0 hr0 w)
  have HWi := Lib.hid (show (Try.prog.info? 24).map (·.size) = some WL.length by rw [hWL, Lib.byteCells_length, hr]; kernel_rfl)
  obtain ⟨z, hz⟩ : ∃ z, decide (t = 0) = z := ⟨_, rfl⟩
  have hz2 : ((t : Int) == 0) = z := by rw [← hz, Bool.eq_iff_iff, beq_iff_eq, decide_eq_true_eq]; omega
  have Hres : Hid (chkF root key [] t = if (z && r0) = true then some none else none) := by
    show _ = _
    unfold chkF
    rw [← hr0, ← hz]
    by_cases h : t = 0 ∧ root = shaF (tagF 5 [])
    · rw [if_pos h, if_pos (by simp [h.1, ← h.2])]
    · rw [if_neg h, if_neg (by simpa using h)]
  obtain ⟨W1, hW1⟩ : ∃ W1, W1 = w.alloc (.cells WL.toArray 24) := ⟨_, rfl⟩
  obtain ⟨W2, hW2⟩ : ∃ W2, W2 = W1.alloc (.cells KL.toArray 24) := ⟨_, rfl⟩
  have hR1 : Arr W1 w.heap.size 24 WL := by rw [hW1]; exact Arr.new w _ _
  have hb1 : Below w.heap.size w W1 := by rw [hW1]; exact (Below.refl _ w).alloc (Nat.le_refl _) _
  have hz1 : W1.heap.size = w.heap.size + 1 := by rw [hW1]; simp
  have hR2 : Arr W2 w.heap.size 24 WL := by rw [hW2]; exact hR1.alloc _
  obtain ⟨g5, hg5⟩ : ∃ g, g = w.heap.size + 1 := ⟨_, rfl⟩
  have hK2 : Arr W2 g5 24 KL := by rw [hW2, hg5, ← hz1]; exact Arr.new W1 _ _
  have hb2 : Below w.heap.size w W2 := by rw [hW2]; exact hb1.alloc hb1.size _
  have HW1 := Lib.hid hW1
  have HW2 := Lib.hid hW2
  have Hg5 := Lib.hid hg5
  have HSL := Lib.hid hSL
  clear hW1 hW2 hg5 hR1 hb1 hz1 hWL hKL hSL hr0 hz hrows
  go_enter Try.func12, Try.ntmps12
  go_upto_region 1 with fail
  change Code.wp _ _ _ _ ((w.alloc (.cells WL.toArray 24)).alloc (.cells KL.toArray 24))
  rw [← HW1.out, ← HW2.out, ← Hg5.out]
  clear HW1 HW2 Hg5
  go_upto_region 2 with fail
  cases z with
  | false =>
    refine wp_region_held_drew (S := fun w' => Arr w' w.heap.size 24 WL) (by kernel_rfl) (hR2.drewN 1) (fun hHeld => ?_)
    refine anyH_take (i := 0) (v := .int .i64 (t : Nat)) (some 20) rfl rfl (by kernel_rfl) (by kernel_rfl) (by kernel_rfl) (fun _ _ _ h => h) (Or.inl ⟨by rfl, fun w' hw => by go_simp⟩) (by assumption) ?_
    simp only [Act.put, List.setIfInBounds_toArray, List.set_cons_zero, List.set_cons_succ]
    refine anyH_take (i := 1) (v := .bool false) (some 21) rfl rfl (by kernel_rfl) (by kernel_rfl) (by kernel_rfl) (fun _ _ _ h => h) (Or.inl ⟨by rfl, fun w' hw => by (have h := hz2; go_simp)⟩) (by assumption) ?_
    simp only [Act.put, List.setIfInBounds_toArray, List.set_cons_zero, List.set_cons_succ]
    refine anyH_take (i := 2) (v := .bool false) (some 22) rfl rfl (by kernel_rfl) (by kernel_rfl) (by kernel_rfl) (fun _ _ _ h => h) (Or.inl ⟨by rfl, fun w' hw => by go_simp⟩) (by assumption) ?_
    simp only [Act.put, List.setIfInBounds_toArray, List.set_cons_zero, List.set_cons_succ]
    refine anyH_take (i := 3) (v := undef) (some 23) rfl rfl (by kernel_rfl) (by kernel_rfl) (by kernel_rfl) (fun _ _ _ h => h) (Or.inr ⟨by rfl, rfl⟩) (by assumption) ?_
    simp only [Act.put, List.setIfInBounds_toArray, List.set_cons_zero, List.set_cons_succ]
    refine anyH_take (i := 4) (v := undef) (some 24) rfl rfl (by kernel_rfl) (by kernel_rfl) (by kernel_rfl) (fun _ _ _ h => h) (Or.inr ⟨by rfl, rfl⟩) (by assumption) ?_
    simp only [Act.put, List.setIfInBounds_toArray, List.set_cons_zero, List.set_cons_succ]
    refine anyH_take (i := 5) (v := undef) (some 25) rfl rfl (by kernel_rfl) (by kernel_rfl) (by kernel_rfl) (fun _ _ _ h => h) (Or.inr ⟨by rfl, rfl⟩) (by assumption) ?_
    simp only [Act.put, List.setIfInBounds_toArray, List.set_cons_zero, List.set_cons_succ]
    refine anyH_take (i := 6) (v := .bool false) (some 26) rfl rfl (by kernel_rfl) (by kernel_rfl) (by kernel_rfl) (fun _ _ _ h => h) (Or.inl ⟨by rfl, fun w' hw => by go_simp⟩) (by assumption) ?_
    simp only [Act.put, List.setIfInBounds_toArray, List.set_cons_zero, List.set_cons_succ]
    refine wpAnyH_done (by kernel_rfl) ?_ _
    clear hHeld
    go_wp2_with fail
    go_ret3
    refine ⟨_, rfl, ?_, Below.dN hb2 1⟩
    rw [show chkF root key [] t = none by rw [Hres.out]; simp]
    rfl
  | true =>
    refine wp_region_held_drew (S := fun w' => Arr w' w.heap.size 24 WL) (by kernel_rfl) (hR2.drewN 1) (fun hHeld => ?_)
    refine anyH_take (i := 0) (v := .int .i64 (t : Nat)) (some 20) rfl rfl (by kernel_rfl) (by kernel_rfl) (by kernel_rfl) (fun _ _ _ h => h) (Or.inl ⟨by rfl, fun w' hw => by go_simp⟩) (by assumption) ?_
    simp only [Act.put, List.setIfInBounds_toArray, List.set_cons_zero, List.set_cons_succ]
    refine anyH_take (i := 1) (v := .bool true) (some 21) rfl rfl (by kernel_rfl) (by kernel_rfl) (by kernel_rfl) (fun _ _ _ h => h) (Or.inl ⟨by rfl, fun w' hw => by (have h := hz2; go_simp)⟩) (by assumption) ?_
    simp only [Act.put, List.setIfInBounds_toArray, List.set_cons_zero, List.set_cons_succ]
    refine anyH_take (i := 2) (v := .bool true) (some 22) rfl rfl (by kernel_rfl) (by kernel_rfl) (by kernel_rfl) (fun _ _ _ h => h) (Or.inl ⟨by rfl, fun w' hw => by go_simp⟩) (by assumption) ?_
    simp only [Act.put, List.setIfInBounds_toArray, List.set_cons_zero, List.set_cons_succ]
    refine anyH_take (i := 3) (some 23) rfl rfl (by kernel_rfl) (by kernel_rfl) (by kernel_rfl) (fun _ _ _ h => h) (yieldsIf_load_mid (by rfl) 24 (.tmp 4) rfl w.heap.size 0 rfl WL _ (fun w' h => h.range) Try.underlying24 rfl HWi.out) (by assumption) ?_
    simp only [Act.put, List.setIfInBounds_toArray, List.set_cons_zero, List.set_cons_succ]
    refine wpAnyH_ready (rs := [4]) (by kernel_rfl) (by simp) ?_
    refine AllReadyH.cons rfl (fun K hK => ?_) AllReadyH.nil
    go_simp
    go_at_call 23
    refine Calls.mono (rtag_at 5 5 [] SL none 0 0 (W2.drewN 1) rfl HSL.out rfl (by omega) (fun h => absurd h (by simp)) (by decide)) ?_
    rintro e w3 ⟨rfl, hb23⟩
    have hbx : Below W2.heap.size W2 w3 := ⟨hb23.os, hb23.tape, hb23.output, hb23.size, hb23.block⟩
    have hR3 := hR2.below hbx hR2.lt
    have hb3 : Below w.heap.size w w3 := hb2.trans (hbx.mono hb2.size)
    clear hbx hb23 hR2 hb2
    dsimp only
    go_wp2_with fail
    refine hK.out _ _ hR3 (fun hHeldx => ?_)
    clear hK K
    try simp only [Act.put, List.setIfInBounds_toArray, List.set_cons_zero, List.set_cons_succ]
    cases r0 with
    | true =>
      refine anyH_take (i := 5) (v := .bool true) (some 25) rfl rfl (by kernel_rfl) (by kernel_rfl) (by kernel_rfl) (fun _ _ _ h => h) (Or.inl ⟨by rfl, fun w' hw => by (have hc := Hcmp.out; have hg := gt32; go_simp)⟩) (by assumption) ?_
      simp only [Act.put, List.setIfInBounds_toArray, List.set_cons_zero, List.set_cons_succ]
      refine anyH_take (i := 6) (v := .bool true) (some 26) rfl rfl (by kernel_rfl) (by kernel_rfl) (by kernel_rfl) (fun _ _ _ h => h) (Or.inl ⟨by rfl, fun w' hw => by go_simp⟩) (by assumption) ?_
      simp only [Act.put, List.setIfInBounds_toArray, List.set_cons_zero, List.set_cons_succ]
      refine wpAnyH_done (by kernel_rfl) ?_ _
      clear hHeld hHeldx
      go_wp2_with fail
      go_ret3
      refine ⟨_, rfl, ?_, hb3⟩
      rw [show chkF root key [] t = some none by rw [Hres.out]; simp]
      rfl
    | false =>
      refine anyH_take (i := 5) (v := .bool false) (some 25) rfl rfl (by kernel_rfl) (by kernel_rfl) (by kernel_rfl) (fun _ _ _ h => h) (Or.inl ⟨by rfl, fun w' hw => by (have hc := Hcmp.out; have hg := gt32; go_simp)⟩) (by assumption) ?_
      simp only [Act.put, List.setIfInBounds_toArray, List.set_cons_zero, List.set_cons_succ]
      refine anyH_take (i := 6) (v := .bool false) (some 26) rfl rfl (by kernel_rfl) (by kernel_rfl) (by kernel_rfl) (fun _ _ _ h => h) (Or.inl ⟨by rfl, fun w' hw => by go_simp⟩) (by assumption) ?_
      simp only [Act.put, List.setIfInBounds_toArray, List.set_cons_zero, List.set_cons_succ]
      refine wpAnyH_done (by kernel_rfl) ?_ _
      clear hHeld hHeldx
      go_wp2_with fail
      go_ret3
      refine ⟨_, rfl, ?_, hb3⟩
      rw [show chkF root key [] t = none by rw [Hres.out]; simp]
      rfl

set_option maxHeartbeats 16000000 in
set_option maxRecDepth 100000 in
theorem rcheck_cons (key b : List UInt8) (hk : key.length = 32) (rs : List (List UInt8)) (hb2000 : b.length ≤ 3000) (hrs70 : rs.length ≤ 70) (hIH : RFollowsP key rs) : RFollowsP key (b :: rs) := by
  intro t root WL KL A n c w hr hWL hKL ht hn hc hm hrows
  obtain ⟨blk, off, rfl, hblk, hrow⟩ := hrows (by simp)
  obtain ⟨Ab, cb, hcb, hcb1, hcb2, hbb⟩ := hrow 0 (by simp)
  have hbg : (b :: rs).getD 0 [] = b := rfl
  rw [hbg] at hcb hcb1 hbb
  rw [Nat.add_zero] at hcb
  obtain ⟨nb, hnb⟩ : ∃ nb, b.length = nb := ⟨_, rfl⟩
  rw [hnb] at hcb hcb1
  have hn1 : n = rs.length + 1 := by rw [← hn]; rfl
  have hd0 : ((n : Int) == 0) = false := by rw [beq_eq_false_iff_ne]; omega
  have hnp : 1 ≤ n := by omega
  obtain ⟨SL, hSL⟩ : ∃ SL, SL = Lib.byteCells (shaF (tagF 4 [b])) := ⟨_, rfl⟩
  have hDl : (shaF (tagF 4 [b])).length = 32 := shaF_length _
  obtain ⟨r0, hr0⟩ : ∃ r0, decide (shaF (tagF 4 [b]) = root) = r0 := ⟨_, rfl⟩
  have Hcmp := Lib.hid (fun w => digCmpP _ root hDl hr SL WL hSL hWL r0 hr0 w)
  have Hwi := Lib.hid (show (Try.prog.info? 24).map (·.size) = some WL.length by rw [hWL, Lib.byteCells_length, hr]; kernel_rfl)
  have HwA := Lib.hid (show (Try.prog.info? 24).map (·.size) = some WL.toArray.size by rw [List.size_toArray, hWL, Lib.byteCells_length, hr]; kernel_rfl)
  have Hki := Lib.hid (show (Try.prog.info? 24).map (·.size) = some KL.length by rw [hKL, Lib.byteCells_length, hk]; kernel_rfl)
  have HkA := Lib.hid (show (Try.prog.info? 24).map (·.size) = some KL.toArray.size by rw [List.size_toArray, hKL, Lib.byteCells_length, hk]; kernel_rfl)
  have HY := Lib.hid (tag_one_bound b hb2000)
  have Hrows := Lib.hid hrows
  have HSL := Lib.hid hSL
  have HKL := Lib.hid hKL
  obtain ⟨RZ, hRZ⟩ : ∃ RZ, RZ = rnZ := ⟨_, rfl⟩
  have Hzero := Lib.hid (fun w : World => show (zeroValue 68).run Try.prog w = .ok (.agg RZ.toArray) w by rw [hRZ]; exact rnZero w)
  have HRZl := Lib.hid (show RZ.length = 531 by rw [hRZ]; exact rnC_length rnZ_ok)
  obtain ⟨lt, hlt⟩ : ∃ l, l = 64 - t := ⟨_, rfl⟩
  have hlI : IntKind.i64.wrap ((64 : Int) - (t : Int)) = (lt : Int) := by rw [IntWalk.i64_in _ (by omega)]; omega
  obtain ⟨d, hd⟩ : ∃ d, ndR 64 b.length b = d := ⟨_, rfl⟩
  obtain ⟨ok, hok⟩ : ∃ ok, d.ok lt = ok := ⟨_, rfl⟩
  have Hlt := Lib.hid hlt
  have Hd := Lib.hid hd
  have Hok := Lib.hid hok
  have Hchk : Hid (chkF root key (b :: rs) t = if ok = false ∨ r0 = false then none
      else if d.told = restF key t (t + d.told.length) then
        if d.leaf then (if rs = [] then some (some d.value) else none)
        else if bitM d.mask (nibF key (t + d.told.length)) then chkF (kidD d.mask d.st (nibF key (t + d.told.length))) key rs (t + d.told.length + 1)
        else if rs = [] then some none else none
      else if rs = [] then some none else none) := by
    show _ = _
    have hboth := ndR_both b (64 - t) (by omega) (by omega)
    have e : ndR ((64 : Nat) : Int).toNat (b.length : Int) b = d := hd
    rw [show ((64 : Nat) : Int).toNat = 64 from rfl] at e
    have hok' : (ndR (64 - t) 9223372036854775807 b).ok (64 - t) = ok := by rw [hboth.1, ← hok, hlt]; rw [e]
    conv => lhs; unfold chkF
    cases ok with
    | false => rw [if_pos (.inl hok'), if_pos (.inl rfl)]
    | true =>
      have hE := hboth.2 (by rw [hd, ← hlt]; exact hok)
      rw [hd] at hE
      cases r0 with
      | false =>
        rw [if_pos (.inr (by simpa using hr0)), if_pos (.inr rfl)]
      | true =>
        have hrt : shaF (tagF 4 [b]) = root := by simpa using hr0
        have hok2 : d.ok (64 - t) = true := by rw [← hE]; exact hok'
        rw [hE, if_neg (by rintro (h | h); rw [hok2] at h; cases h; exact h hrt)]
        conv => rhs; rw [if_neg (by simp)]
  obtain ⟨W1, hW1⟩ : ∃ W1, W1 = w.alloc (.cells WL.toArray 24) := ⟨_, rfl⟩
  obtain ⟨W2, hW2⟩ : ∃ W2, W2 = W1.alloc (.cells KL.toArray 24) := ⟨_, rfl⟩
  have hR1 : Arr W1 w.heap.size 24 WL := by rw [hW1]; exact Arr.new w _ _
  have hb1 : Below w.heap.size w W1 := by rw [hW1]; exact (Below.refl _ w).alloc (Nat.le_refl _) _
  have hz1 : W1.heap.size = w.heap.size + 1 := by rw [hW1]; simp
  have hR2 : Arr W2 w.heap.size 24 WL := by rw [hW2]; exact hR1.alloc _
  obtain ⟨g5, hg5⟩ : ∃ g, g = w.heap.size + 1 := ⟨_, rfl⟩
  have hK2 : Arr W2 g5 24 KL := by rw [hW2, hg5, ← hz1]; exact Arr.new W1 _ _
  have hb2 : Below w.heap.size w W2 := by rw [hW2]; exact hb1.alloc hb1.size _
  have HW1 := Lib.hid hW1
  have HW2 := Lib.hid hW2
  have Hg5 := Lib.hid hg5
  have hcb' : W2.cell? ⟨blk, off, none⟩ = some (.slice Ab nb cb) := by rw [← hcb]; exact World.cell?_of_block (hb2.block blk hblk)
  have hbb2 : Bs W2 W2.heap.size Ab b := (hbb.below hb2 (Nat.le_refl _)).more hb2.size
  have hwg5 : w.heap.size < g5 := by omega
  have hg5z : g5 < W2.heap.size := hK2.lt
  have Hnb := Lib.hid hnb
  have Hn1 := Lib.hid hn1
  have Hn := Lib.hid hn
  have Hr0 := Lib.hid hr0
  have Hrs : Hid (rs = [] ∧ decide ((1 : Int) < (n : Int)) = false ∨ rs ≠ [] ∧ decide ((1 : Int) < (n : Int)) = true) := by
    cases rs with
    | nil => left; exact ⟨rfl, by simp at hn1; simp; omega⟩
    | cons y ys => right; exact ⟨by simp, by simp at hn1; simp; omega⟩
  clear hn1 hW1 hW2 hg5 hz1 hR1 hb1 hWL hKL hn hr0 hnb hSL hrow hbg hcb hrows hbb hRZ hlt hd hok
  go_enter Try.func12, Try.ntmps12
  go_upto_region 1 with fail
  change Code.wp _ _ _ _ ((w.alloc (.cells WL.toArray 24)).alloc (.cells KL.toArray 24))
  rw [← HW1.out, ← HW2.out, ← Hg5.out]
  clear HW1 HW2 Hg5
  go_wp2_with fail
  go_at_call 24
  refine Calls.mono (read_run b Ab nb cb lt Hnb.out hcb1 hcb2 (by have := Hnb.out; omega) (by have := Hlt.out; omega) W2 hbb2 d Hd.out ok Hok.out) ?_
  rintro e w3 ⟨V, rfl, ⟨NL, lf, A1, n1, c1, A2, n2, c2, hs, ks, rfl, hNL, hrok, hdat⟩, hb23⟩
  have hR3 := hR2.below hb23 hR2.lt
  have hK3 := hK2.below hb23 hK2.lt
  have hc3 : w3.cell? ⟨blk, off, none⟩ = some (.slice Ab nb cb) := by rw [← hcb']; exact World.cell?_of_block (hb23.block blk (World.block_lt_of_cell? W2 _ hcb'))
  have hb3 : Below w.heap.size w w3 := hb2.trans (hb23.mono hb2.size)
  have hbb3 : Bs w3 w3.heap.size Ab b := (hbb2.below hb23 (Nat.le_refl _)).more hb23.size
  clear hb23 hR2 hK2 hcb' hb2 hbb2
  dsimp only
  have HNi := Lib.hid (show (Try.prog.info? 68).map (·.size) = some NL.toArray.size by rw [List.size_toArray, hNL, rnC_length hrok]; exact rnSize)
  have HN1 := Lib.hid (show NL.toArray.all (·.oneCell') = true by rw [hNL]; exact all_oneCell_toArray (rnC_one rfl rfl))
  have HNz := Lib.hid (show RZ.toArray.size = NL.toArray.size by rw [List.size_toArray, List.size_toArray, HRZl.out, hNL, rnC_length hrok])
  obtain ⟨w4, hw4⟩ : ∃ W, W = (w3.alloc (.cells RZ.toArray 68)).setRow w3.heap.size NL.toArray := ⟨_, rfl⟩
  obtain ⟨hN4, hb34⟩ := alloc_row w3 68 RZ.toArray NL
  rw [← hw4] at hN4 hb34
  have hR4 := hR3.below hb34 hR3.lt
  have hK4 := hK3.below hb34 hK3.lt
  have hc4 : w4.cell? ⟨blk, off, none⟩ = some (.slice Ab nb cb) := by rw [← hc3]; exact World.cell?_of_block (hb34.block blk (World.block_lt_of_cell? w3 _ hc3))
  have hb4 : Below w.heap.size w w4 := hb3.trans (hb34.mono hb3.size)
  have hbb4 : Bs w4 w4.heap.size Ab b := (hbb3.below hb34 (Nat.le_refl _)).more hb34.size
  have hdat4 : Hid (ok = true → lf = d.leaf ∧ n1 = d.told.length ∧ n1 ≤ c1 ∧ c1 ≤ maxLen ∧ Bs w4 w4.heap.size A1 d.told ∧ (d.leaf = true → n2 = d.value.length ∧ n2 ≤ c2 ∧ c2 ≤ maxLen ∧ Bs w4 w4.heap.size A2 d.value) ∧ (d.leaf = false → hs = hasF d.mask 16 ∧ ks = ksF d.mask d.st 16)) := fun h => by
    obtain ⟨e1, e2, e3, e4, e5, e6, e7⟩ := hdat h
    exact ⟨e1, e2, e3, e4, (e5.below hb34 (Nat.le_refl _)).more hb34.size, fun hl => ⟨(e6 hl).1, (e6 hl).2.1, (e6 hl).2.2.1, ((e6 hl).2.2.2.below hb34 (Nat.le_refl _)).more hb34.size⟩, e7⟩
  have Hw4 := Lib.hid hw4
  have HNL := Lib.hid hNL
  have Hrok := Lib.hid hrok
  obtain ⟨g, hg⟩ : ∃ g, g = w3.heap.size := ⟨_, rfl⟩
  rw [← hg] at hN4
  have hg5g : g5 < g := by rw [hg]; exact hK3.lt
  have Hg := Lib.hid hg
  clear hw4 hNL hrok hdat hR3 hK3 hc3 hb3 hbb3 hb34 hg
  go_upto_region 6 with (first
    | (refine wpList_allocZ rfl 68 rfl RZ.toArray (Hzero.out _) ?_)
    | (refine wpList_store_row rfl _ _ _ rfl w3.heap.size NL.toArray rfl rfl 68 RZ.toArray (heap_alloc_new w3 _) HNi.out HNz.out HN1.out ?_; rw [← Hw4.out]))
  rw [← Hg.out]
  clear Hw4 Hg Hzero
  cases ok with
  | false =>
    refine wp_region_held_drew (S := fun w' => Arr w' w.heap.size 24 WL) (by kernel_rfl) (hR4.drewN 1) (fun hHeld => ?_)
    refine anyH_take (i := 0) (v := .bool false) (some 36) rfl rfl (by kernel_rfl) (by kernel_rfl) (by kernel_rfl) (fun _ _ _ h => h) (Or.inl ⟨by rfl, fun w' hw => by go_simp⟩) (by assumption) ?_
    simp only [Act.put, List.setIfInBounds_toArray, List.set_cons_zero, List.set_cons_succ]
    refine anyH_take (i := 1) (v := .bool true) (some 37) rfl rfl (by kernel_rfl) (by kernel_rfl) (by kernel_rfl) (fun _ _ _ h => h) (Or.inl ⟨by rfl, fun w' hw => by go_simp⟩) (by assumption) ?_
    simp only [Act.put, List.setIfInBounds_toArray, List.set_cons_zero, List.set_cons_succ]
    refine anyH_take (i := 2) (v := .bool true) (some 38) rfl rfl (by kernel_rfl) (by kernel_rfl) (by kernel_rfl) (fun _ _ _ h => h) (Or.inl ⟨by rfl, fun w' hw => by go_simp⟩) (by assumption) ?_
    simp only [Act.put, List.setIfInBounds_toArray, List.set_cons_zero, List.set_cons_succ]
    refine anyH_take (i := 3) (v := undef) (some 39) rfl rfl (by kernel_rfl) (by kernel_rfl) (by kernel_rfl) (fun _ _ _ h => h) (Or.inr ⟨by rfl, rfl⟩) (by assumption) ?_
    simp only [Act.put, List.setIfInBounds_toArray, List.set_cons_zero, List.set_cons_succ]
    refine anyH_take (i := 4) (v := undef) (some 40) rfl rfl (by kernel_rfl) (by kernel_rfl) (by kernel_rfl) (fun _ _ _ h => h) (Or.inr ⟨by rfl, rfl⟩) (by assumption) ?_
    simp only [Act.put, List.setIfInBounds_toArray, List.set_cons_zero, List.set_cons_succ]
    refine anyH_take (i := 5) (v := undef) (some 41) rfl rfl (by kernel_rfl) (by kernel_rfl) (by kernel_rfl) (fun _ _ _ h => h) (Or.inr ⟨by rfl, rfl⟩) (by assumption) ?_
    simp only [Act.put, List.setIfInBounds_toArray, List.set_cons_zero, List.set_cons_succ]
    refine anyH_take (i := 6) (v := undef) (some 42) rfl rfl (by kernel_rfl) (by kernel_rfl) (by kernel_rfl) (fun _ _ _ h => h) (Or.inr ⟨by rfl, rfl⟩) (by assumption) ?_
    simp only [Act.put, List.setIfInBounds_toArray, List.set_cons_zero, List.set_cons_succ]
    refine anyH_take (i := 7) (v := undef) (some 43) rfl rfl (by kernel_rfl) (by kernel_rfl) (by kernel_rfl) (fun _ _ _ h => h) (Or.inr ⟨by rfl, rfl⟩) (by assumption) ?_
    simp only [Act.put, List.setIfInBounds_toArray, List.set_cons_zero, List.set_cons_succ]
    refine anyH_take (i := 8) (v := undef) (some 44) rfl rfl (by kernel_rfl) (by kernel_rfl) (by kernel_rfl) (fun _ _ _ h => h) (Or.inr ⟨by rfl, rfl⟩) (by assumption) ?_
    simp only [Act.put, List.setIfInBounds_toArray, List.set_cons_zero, List.set_cons_succ]
    refine anyH_take (i := 9) (v := undef) (some 45) rfl rfl (by kernel_rfl) (by kernel_rfl) (by kernel_rfl) (fun _ _ _ h => h) (Or.inr ⟨by rfl, rfl⟩) (by assumption) ?_
    simp only [Act.put, List.setIfInBounds_toArray, List.set_cons_zero, List.set_cons_succ]
    refine anyH_take (i := 10) (v := .bool true) (some 46) rfl rfl (by kernel_rfl) (by kernel_rfl) (by kernel_rfl) (fun _ _ _ h => h) (Or.inl ⟨by rfl, fun w' hw => by go_simp⟩) (by assumption) ?_
    simp only [Act.put, List.setIfInBounds_toArray, List.set_cons_zero, List.set_cons_succ]
    refine wpAnyH_done (by kernel_rfl) ?_ _
    clear hHeld
    go_wp2_with fail
    go_ret3
    refine ⟨_, rfl, ?_, Below.dN hb4 1⟩
    rw [show chkF root key (b :: rs) t = none by rw [Hchk.out]; simp]
    rfl
  | true =>
    obtain ⟨e1, e2, e3, e4, e5, e6, e7⟩ := hdat4.out rfl
    have hot := ok_told Hok.out
    obtain ⟨w5, hw5⟩ : ∃ W, W = (w4.drewN 1).alloc (.cells #[.slice Ab nb cb] 40) := ⟨_, rfl⟩
    have hrow5 : RowsAt w5 w5.heap.size (some ⟨w4.heap.size, 0, none⟩) [b] := by
      rw [hw5]
      exact (rows_oneP (w := w4.drewN 1) (B := w4.heap.size) 40 Hnb.out hcb1 hcb2 hbb4 (Nat.le_refl _)).more (Nat.le_of_eq (by simp))
    have hb45 : Below w4.heap.size w4 w5 := by rw [hw5]; exact (Below.dN (Below.refl w4.heap.size w4) 1).alloc (Nat.le_refl _) _
    have Hw5 := Lib.hid hw5
    have E2 := Lib.hid e2
    have E1 := Lib.hid e1
    have E6 := Lib.hid e6
    have E7 := Lib.hid e7
    have Hot := Lib.hid hot
    clear hw5 hdat4 hot e1 e2 e6 e7 hbb4
    refine wp_region_held_drew (S := fun w' => Arr w' w.heap.size 24 WL ∧ w'.cell? ⟨blk, off, none⟩ = some (.slice Ab nb cb)) (by kernel_rfl) ⟨hR4.drewN 1, hc4⟩ (fun hHeld => ?_)
    refine anyH_take (i := 0) (v := .bool true) (some 36) rfl rfl (by kernel_rfl) (by kernel_rfl) (by kernel_rfl) (fun _ _ _ h => h) (Or.inl ⟨by rfl, fun w' hw => by go_simp⟩) (by assumption) ?_
    simp only [Act.put, List.setIfInBounds_toArray, List.set_cons_zero, List.set_cons_succ]
    refine anyH_take (i := 1) (v := .bool false) (some 37) rfl rfl (by kernel_rfl) (by kernel_rfl) (by kernel_rfl) (fun _ _ _ h => h) (Or.inl ⟨by rfl, fun w' hw => by go_simp⟩) (by assumption) ?_
    simp only [Act.put, List.setIfInBounds_toArray, List.set_cons_zero, List.set_cons_succ]
    refine anyH_take (i := 2) (v := .bool false) (some 38) rfl rfl (by kernel_rfl) (by kernel_rfl) (by kernel_rfl) (fun _ _ _ h => h) (Or.inl ⟨by rfl, fun w' hw => by go_simp⟩) (by assumption) ?_
    simp only [Act.put, List.setIfInBounds_toArray, List.set_cons_zero, List.set_cons_succ]
    refine anyH_take (i := 3) (v := .slice (some ⟨blk, off, none⟩) n c) (some 39) rfl rfl (by kernel_rfl) (by kernel_rfl) (by kernel_rfl) (fun _ _ _ h => h) (Or.inl ⟨by rfl, fun w' hw => by go_simp⟩) (by assumption) ?_
    simp only [Act.put, List.setIfInBounds_toArray, List.set_cons_zero, List.set_cons_succ]
    refine anyH_take (i := 4) (v := .pointer (some ⟨blk, off, none⟩)) (some 40) rfl rfl (by kernel_rfl) (by kernel_rfl) (by kernel_rfl) (fun _ _ _ h => h) (Or.inl ⟨by rfl, fun w' hw => by (go_simp; intro h; omega)⟩) (by assumption) ?_
    simp only [Act.put, List.setIfInBounds_toArray, List.set_cons_zero, List.set_cons_succ]
    refine anyH_take (i := 5) (v := .slice Ab nb cb) (some 41) rfl rfl (by kernel_rfl) (by kernel_rfl) (by kernel_rfl) (fun _ _ _ h => h) (Or.inl ⟨by rfl, fun w' hw => by (have hc := hw.2; go_simp)⟩) (by assumption) ?_
    simp only [Act.put, List.setIfInBounds_toArray, List.set_cons_zero, List.set_cons_succ]
    refine anyH_take (i := 8) (some 44) rfl rfl (by kernel_rfl) (by kernel_rfl) (by kernel_rfl) (fun _ _ _ h => h) (yieldsIf_load_mid (by rfl) 24 (.tmp 4) rfl w.heap.size 0 rfl WL _ (fun w' h => h.1.range) Try.underlying24 rfl Hwi.out) (by assumption) ?_
    simp only [Act.put, List.setIfInBounds_toArray, List.set_cons_zero, List.set_cons_succ]
    have hR5 := hR4.below hb45 hR4.lt
    have hc5 : w5.cell? ⟨blk, off, none⟩ = some (.slice Ab nb cb) := by rw [← hc4]; exact World.cell?_of_block (hb45.block blk (World.block_lt_of_cell? w4 _ hc4))
    refine wpAnyH_ready (rs := [6]) (by kernel_rfl) (by simp) ?_
    refine AllReadyH.cons rfl (fun K hK => ?_) AllReadyH.nil
    go_simp
    change K _ ((w4.drewN 1).alloc (.cells #[.slice Ab nb cb] 40))
    rw [← Hw5.out]
    clear Hw5
    refine hK.out _ _ ⟨hR5, hc5⟩ (fun hHeldx => ?_)
    clear hK K
    try simp only [Act.put, List.setIfInBounds_toArray, List.set_cons_zero, List.set_cons_succ]
    refine wpAnyH_ready (rs := [7]) (by kernel_rfl) (by simp) ?_
    refine AllReadyH.cons rfl (fun K hK => ?_) AllReadyH.nil
    go_simp
    go_at_call 23
    refine Calls.mono (rtag_at 4 4 [b] SL _ 1 1 w5 rfl HSL.out rfl (by omega) hrow5 HY.out) ?_
    rintro e w6 ⟨rfl, hb56⟩
    have hb46 : Below w4.heap.size w4 w6 := hb45.trans (hb56.mono hb45.size)
    have hR6 := hR4.below hb46 hR4.lt
    have hK6 := hK4.below hb46 hK4.lt
    have hN6 := hN4.below hb46 hN4.lt
    have hc6 : w6.cell? ⟨blk, off, none⟩ = some (.slice Ab nb cb) := by rw [← hc4]; exact World.cell?_of_block (hb46.block blk (World.block_lt_of_cell? w4 _ hc4))
    have hb6 : Below w.heap.size w w6 := hb4.trans (hb46.mono hb4.size)
    have hT6 : Bs w6 w6.heap.size A1 d.told := (e5.below hb46 (Nat.le_refl _)).more hb46.size
    have E6b : Hid (d.leaf = true → n2 = d.value.length ∧ n2 ≤ c2 ∧ c2 ≤ maxLen ∧ Bs w6 w6.heap.size A2 d.value) := fun hl => ⟨(E6.out hl).1, (E6.out hl).2.1, (E6.out hl).2.2.1, ((E6.out hl).2.2.2.below hb46 (Nat.le_refl _)).more hb46.size⟩
    clear hb45 hb46 hb56 hR4 hK4 hN4 hc4 hb4 hR5 hc5 hrow5 e5 E6
    dsimp only
    go_wp2_with fail
    refine hK.out _ _ ⟨hR6, hc6⟩ (fun hHeldx => ?_)
    clear hK K
    try simp only [Act.put, List.setIfInBounds_toArray, List.set_cons_zero, List.set_cons_succ]
    cases r0 with
    | false =>
      refine anyH_take (i := 9) (v := .bool true) (some 45) rfl rfl (by kernel_rfl) (by kernel_rfl) (by kernel_rfl) (fun _ _ _ h => h) (Or.inl ⟨by rfl, fun w' hw => by (have hc := Hcmp.out; have hg := gt32; go_simp)⟩) (by assumption) ?_
      simp only [Act.put, List.setIfInBounds_toArray, List.set_cons_zero, List.set_cons_succ]
      refine anyH_take (i := 10) (v := .bool true) (some 46) rfl rfl (by kernel_rfl) (by kernel_rfl) (by kernel_rfl) (fun _ _ _ h => h) (Or.inl ⟨by rfl, fun w' hw => by go_simp⟩) (by assumption) ?_
      simp only [Act.put, List.setIfInBounds_toArray, List.set_cons_zero, List.set_cons_succ]
      refine wpAnyH_done (by kernel_rfl) ?_ _
      clear hHeld hHeldx
      go_wp2_with fail
      go_ret3
      refine ⟨_, rfl, ?_, hb6⟩
      rw [show chkF root key (b :: rs) t = none by rw [Hchk.out]; simp]
      rfl
    | true =>
      have hchk := Hchk.out
      rw [if_neg (by simp)] at hchk
      have Hchk2 := Lib.hid hchk
      clear hchk Hchk
      refine anyH_take (i := 9) (v := .bool false) (some 45) rfl rfl (by kernel_rfl) (by kernel_rfl) (by kernel_rfl) (fun _ _ _ h => h) (Or.inl ⟨by rfl, fun w' hw => by (have hc := Hcmp.out; have hg := gt32; go_simp)⟩) (by assumption) ?_
      simp only [Act.put, List.setIfInBounds_toArray, List.set_cons_zero, List.set_cons_succ]
      refine anyH_take (i := 10) (v := .bool false) (some 46) rfl rfl (by kernel_rfl) (by kernel_rfl) (by kernel_rfl) (fun _ _ _ h => h) (Or.inl ⟨by rfl, fun w' hw => by go_simp⟩) (by assumption) ?_
      simp only [Act.put, List.setIfInBounds_toArray, List.set_cons_zero, List.set_cons_succ]
      refine wpAnyH_done (by kernel_rfl) ?_ _
      clear hHeld hHeldx
      go_upto_region 10 with fail
      have Hn1 : Hid (d.told.length = n1) := E2.out.symm
      have hn64 : n1 ≤ lt := by
        have h := Hot.out
        cases hle : d.leaf with
        | true => have := h.1 hle; have := Hn1.out; omega
        | false => have := h.2 hle; have := Hn1.out; omega
      have hlt64 : lt + t = 64 := by have := Hlt.out; omega
      have hblk6 : blk < w6.heap.size := World.block_lt_of_cell? w6 _ hc6
      have Hc6 := Lib.hid hc6
      clear hc6
      go_loopw [13, 14] (fun s i wr => ∃ j : Nat, j ≤ n1 ∧ i = .int .i64 j ∧ s = .bool (decide (d.told.take j = restF key t (t + j))) ∧ Below w6.heap.size w6 wr) (fun _ i _ => n1 - (intOf i).toNat)
      case atStart => exact ⟨0, by omega, rfl, by simp [restF], Below.refl _ _⟩
      case round =>
        obtain ⟨j, hjn, rfl, rfl, hb6r⟩ := hrel
        have hNr : Arr wr g 68 NL := hN6.below hb6r hN6.lt
        have hKr : Arr wr g5 24 KL := hK6.below hb6r hK6.lt
        have hTr : Bs wr w6.heap.size A1 d.told := hT6.below hb6r (Nat.le_refl _)
        have hr1 : wr.cell? ⟨g, 1, none⟩ = some (.slice A1 n1 c1) := by rw [hNr.cell, HNL.out]; rfl
        have Hc1 : Hid (∀ w' : World, Arr w' g 68 NL → w'.cell? ⟨g, 1, none⟩ = some (.slice A1 n1 c1)) := fun w' h => by rw [h.cell, HNL.out]; rfl
        by_cases hlt : j < n1
        · have hd1 : decide (j < n1) = true := by simpa using hlt
          obtain ⟨bb, off2, x, hA1, hbB, hcx, hx, Hx⟩ := hTr.at_ (show j < d.told.length by rw [Hn1.out]; exact hlt)
          obtain ⟨y, hy⟩ : ∃ y, nibF key (t + j) = y := ⟨_, rfl⟩
          have hstep := same_step (t := t) (show j < d.told.length by rw [Hn1.out]; exact hlt) Hx.out hy
          have Hstep := Lib.hid hstep
          have Hy := Lib.hid hy
          have HA1 := Lib.hid hA1
          obtain ⟨tj, htj⟩ : ∃ tj, t + j = tj := ⟨_, rfl⟩
          have htjI : IntKind.i64.wrap ((t : Int) + (j : Int)) = (tj : Int) := by rw [IntWalk.i64_in _ (by omega)]; omega
          have Htj := Lib.hid htj
          have htj64 : tj < 64 := by omega
          obtain ⟨sj, hsj⟩ : ∃ sj, decide (d.told.take j = restF key t (t + j)) = sj := ⟨_, rfl⟩
          rw [hsj] at hstep ⊢
          obtain ⟨r1, hr1'⟩ : ∃ r1, ((x : Int) == (y : Int)) = r1 := ⟨_, rfl⟩
          have Hnext : Hid (decide (d.told.take (j + 1) = restF key t (t + (j + 1))) = (sj && r1)) := by show _ = _; rw [hstep, hr1']
          clear hstep hsj hy htj Hstep
          cases sj with
          | false =>
            go_upto_region 12 with fail
            refine wp_region_held_drew (S := fun w' => True) (by kernel_rfl) trivial (fun hHeld => ?_)
            refine anyH_take (i := 0) (v := .bool false) (some 54) rfl rfl (by kernel_rfl) (by kernel_rfl) (by kernel_rfl) (fun _ _ _ h => h) (Or.inl ⟨by rfl, fun w' hw => by go_simp⟩) (by assumption) ?_
            simp only [Act.put, List.setIfInBounds_toArray, List.set_cons_zero, List.set_cons_succ]
            refine anyH_take (i := 1) (v := .bool false) (some 55) rfl rfl (by kernel_rfl) (by kernel_rfl) (by kernel_rfl) (fun _ _ _ h => h) (Or.inl ⟨by rfl, fun w' hw => by go_simp⟩) (by assumption) ?_
            simp only [Act.put, List.setIfInBounds_toArray, List.set_cons_zero, List.set_cons_succ]
            refine anyH_take (i := 2) (v := undef) (some 56) rfl rfl (by kernel_rfl) (by kernel_rfl) (by kernel_rfl) (fun _ _ _ h => h) (Or.inr ⟨by rfl, rfl⟩) (by assumption) ?_
            simp only [Act.put, List.setIfInBounds_toArray, List.set_cons_zero, List.set_cons_succ]
            refine anyH_take (i := 3) (v := undef) (some 57) rfl rfl (by kernel_rfl) (by kernel_rfl) (by kernel_rfl) (fun _ _ _ h => h) (Or.inr ⟨by rfl, rfl⟩) (by assumption) ?_
            simp only [Act.put, List.setIfInBounds_toArray, List.set_cons_zero, List.set_cons_succ]
            refine anyH_take (i := 4) (v := undef) (some 58) rfl rfl (by kernel_rfl) (by kernel_rfl) (by kernel_rfl) (fun _ _ _ h => h) (Or.inr ⟨by rfl, rfl⟩) (by assumption) ?_
            simp only [Act.put, List.setIfInBounds_toArray, List.set_cons_zero, List.set_cons_succ]
            refine anyH_take (i := 5) (v := undef) (some 59) rfl rfl (by kernel_rfl) (by kernel_rfl) (by kernel_rfl) (fun _ _ _ h => h) (Or.inr ⟨by rfl, rfl⟩) (by assumption) ?_
            simp only [Act.put, List.setIfInBounds_toArray, List.set_cons_zero, List.set_cons_succ]
            refine anyH_take (i := 6) (v := undef) (some 60) rfl rfl (by kernel_rfl) (by kernel_rfl) (by kernel_rfl) (fun _ _ _ h => h) (Or.inr ⟨by rfl, rfl⟩) (by assumption) ?_
            simp only [Act.put, List.setIfInBounds_toArray, List.set_cons_zero, List.set_cons_succ]
            refine anyH_take (i := 7) (v := undef) (some 61) rfl rfl (by kernel_rfl) (by kernel_rfl) (by kernel_rfl) (fun _ _ _ h => h) (Or.inr ⟨by rfl, rfl⟩) (by assumption) ?_
            simp only [Act.put, List.setIfInBounds_toArray, List.set_cons_zero, List.set_cons_succ]
            refine anyH_take (i := 8) (v := undef) (some 62) rfl rfl (by kernel_rfl) (by kernel_rfl) (by kernel_rfl) (fun _ _ _ h => h) (Or.inr ⟨by rfl, rfl⟩) (by assumption) ?_
            simp only [Act.put, List.setIfInBounds_toArray, List.set_cons_zero, List.set_cons_succ]
            refine anyH_take (i := 9) (v := undef) (some 63) rfl rfl (by kernel_rfl) (by kernel_rfl) (by kernel_rfl) (fun _ _ _ h => h) (Or.inr ⟨by rfl, rfl⟩) (by assumption) ?_
            simp only [Act.put, List.setIfInBounds_toArray, List.set_cons_zero, List.set_cons_succ]
            refine anyH_take (i := 10) (v := undef) (some 64) rfl rfl (by kernel_rfl) (by kernel_rfl) (by kernel_rfl) (fun _ _ _ h => h) (Or.inr ⟨by rfl, rfl⟩) (by assumption) ?_
            simp only [Act.put, List.setIfInBounds_toArray, List.set_cons_zero, List.set_cons_succ]
            refine anyH_take (i := 11) (v := undef) (some 65) rfl rfl (by kernel_rfl) (by kernel_rfl) (by kernel_rfl) (fun _ _ _ h => h) (Or.inr ⟨by rfl, rfl⟩) (by assumption) ?_
            simp only [Act.put, List.setIfInBounds_toArray, List.set_cons_zero, List.set_cons_succ]
            refine anyH_take (i := 12) (v := undef) (some 66) rfl rfl (by kernel_rfl) (by kernel_rfl) (by kernel_rfl) (fun _ _ _ h => h) (Or.inr ⟨by rfl, rfl⟩) (by assumption) ?_
            simp only [Act.put, List.setIfInBounds_toArray, List.set_cons_zero, List.set_cons_succ]
            refine anyH_take (i := 13) (v := .bool false) (some 67) rfl rfl (by kernel_rfl) (by kernel_rfl) (by kernel_rfl) (fun _ _ _ h => h) (Or.inl ⟨by rfl, fun w' hw => by go_simp⟩) (by assumption) ?_
            simp only [Act.put, List.setIfInBounds_toArray, List.set_cons_zero, List.set_cons_succ]
            refine anyH_take (i := 14) (v := .bool false) (some 13) rfl rfl (by kernel_rfl) (by kernel_rfl) (by kernel_rfl) (fun _ _ _ h => h) (Or.inl ⟨by rfl, fun w' hw => by go_simp⟩) (by assumption) ?_
            simp only [Act.put, List.setIfInBounds_toArray, List.set_cons_zero, List.set_cons_succ]
            refine wpAnyH_done (by kernel_rfl) ?_ _
            clear hHeld
            have hnx : decide (d.told.take (j + 1) = restF key t (t + (j + 1))) = false := by rw [Hnext.out]; rfl
            have hbr : Below w6.heap.size w6 (wr.drewN 1) := Below.dN hb6r 1
            go_wp2_with fail
            go_roundw
            case rel => exact ⟨j + 1, by omega, by go_num, by rw [hnx], hbr⟩
            case measure => simp [intOf]; omega
          | true =>
            go_upto_region 12 with fail
            refine wp_region_held_drew (S := fun w' => Arr w' g 68 NL ∧ Arr w' g5 24 KL ∧ w'.cell? ⟨bb, off2 + j, none⟩ = some (.int .u8 (x : Nat))) (by kernel_rfl) ⟨hNr.drewN 1, hKr.drewN 1, hcx⟩ (fun hHeld => ?_)
            refine anyH_take (i := 0) (v := .bool true) (some 54) rfl rfl (by kernel_rfl) (by kernel_rfl) (by kernel_rfl) (fun _ _ _ h => h) (Or.inl ⟨by rfl, fun w' hw => by go_simp⟩) (by assumption) ?_
            simp only [Act.put, List.setIfInBounds_toArray, List.set_cons_zero, List.set_cons_succ]
            refine anyH_take (i := 1) (v := .bool true) (some 55) rfl rfl (by kernel_rfl) (by kernel_rfl) (by kernel_rfl) (fun _ _ _ h => h) (Or.inl ⟨by rfl, fun w' hw => by go_simp⟩) (by assumption) ?_
            simp only [Act.put, List.setIfInBounds_toArray, List.set_cons_zero, List.set_cons_succ]
            refine anyH_take (i := 2) (v := .pointer (some ⟨g, 1, none⟩)) (some 56) rfl rfl (by kernel_rfl) (by kernel_rfl) (by kernel_rfl) (fun _ _ _ h => h) (Or.inl ⟨by rfl, fun w' hw => by go_simp⟩) (by assumption) ?_
            simp only [Act.put, List.setIfInBounds_toArray, List.set_cons_zero, List.set_cons_succ]
            refine anyH_take (i := 3) (v := .slice (some ⟨bb, off2, none⟩) n1 c1) (some 57) rfl rfl (by kernel_rfl) (by kernel_rfl) (by kernel_rfl) (fun _ _ _ h => h) (Or.inl ⟨by rfl, fun w' hw => by (have hc := Hc1.out w' hw.1; rw [HA1.out] at hc; go_simp)⟩) (by assumption) ?_
            simp only [Act.put, List.setIfInBounds_toArray, List.set_cons_zero, List.set_cons_succ]
            refine anyH_take (i := 4) (v := .int .i64 (j : Nat)) (some 58) rfl rfl (by kernel_rfl) (by kernel_rfl) (by kernel_rfl) (fun _ _ _ h => h) (Or.inl ⟨by rfl, fun w' hw => by go_simp⟩) (by assumption) ?_
            simp only [Act.put, List.setIfInBounds_toArray, List.set_cons_zero, List.set_cons_succ]
            refine anyH_take (i := 5) (v := .pointer (some ⟨bb, off2 + j, none⟩)) (some 59) rfl rfl (by kernel_rfl) (by kernel_rfl) (by kernel_rfl) (fun _ _ _ h => h) (Or.inl ⟨by rfl, fun w' hw => by go_simp⟩) (by assumption) ?_
            simp only [Act.put, List.setIfInBounds_toArray, List.set_cons_zero, List.set_cons_succ]
            refine anyH_take (i := 6) (v := .int .u8 (x : Nat)) (some 60) rfl rfl (by kernel_rfl) (by kernel_rfl) (by kernel_rfl) (fun _ _ _ h => h) (Or.inl ⟨by rfl, fun w' hw => by (have hc := hw.2.2; go_simp)⟩) (by assumption) ?_
            simp only [Act.put, List.setIfInBounds_toArray, List.set_cons_zero, List.set_cons_succ]
            refine anyH_take (i := 7) (some 61) rfl rfl (by kernel_rfl) (by kernel_rfl) (by kernel_rfl) (fun _ _ _ h => h) (yieldsIf_load_mid (by rfl) 24 (.tmp 5) rfl g5 0 rfl KL _ (fun w' h => h.2.1.range) Try.underlying24 rfl Hki.out) (by assumption) ?_
            simp only [Act.put, List.setIfInBounds_toArray, List.set_cons_zero, List.set_cons_succ]
            refine anyH_take (i := 8) (v := .int .i64 (t : Nat)) (some 62) rfl rfl (by kernel_rfl) (by kernel_rfl) (by kernel_rfl) (fun _ _ _ h => h) (Or.inl ⟨by rfl, fun w' hw => by go_simp⟩) (by assumption) ?_
            simp only [Act.put, List.setIfInBounds_toArray, List.set_cons_zero, List.set_cons_succ]
            refine anyH_take (i := 9) (v := .int .i64 (j : Nat)) (some 63) rfl rfl (by kernel_rfl) (by kernel_rfl) (by kernel_rfl) (fun _ _ _ h => h) (Or.inl ⟨by rfl, fun w' hw => by go_simp⟩) (by assumption) ?_
            simp only [Act.put, List.setIfInBounds_toArray, List.set_cons_zero, List.set_cons_succ]
            refine anyH_take (i := 10) (v := .int .i64 (tj : Nat)) (some 64) rfl rfl (by kernel_rfl) (by kernel_rfl) (by kernel_rfl) (fun _ _ _ h => h) (Or.inl ⟨by rfl, fun w' hw => by go_simp⟩) (by assumption) ?_
            simp only [Act.put, List.setIfInBounds_toArray, List.set_cons_zero, List.set_cons_succ]
            refine wpAnyH_ready (rs := [11]) (by kernel_rfl) (by simp) ?_
            refine AllReadyH.cons rfl (fun K hK => ?_) AllReadyH.nil
            go_simp
            go_at_call 25
            refine Calls.mono (rnib_at key hk KL HKL.out tj htj64 y (by rw [← Htj.out]; exact Hy.out) (wr.drewN 1)) ?_
            rintro e wx ⟨rfl, hbrx'⟩
            have hbrx : Below wr.heap.size wr wx := Below.dP hbrx'
            have hNx := hNr.below hbrx hNr.lt
            have hKx := hKr.below hbrx hKr.lt
            have hcx2 : wx.cell? ⟨bb, off2 + j, none⟩ = some (.int .u8 (x : Nat)) := by rw [← hcx]; exact World.cell?_of_block (hbrx.block bb (World.block_lt_of_cell? wr _ hcx))
            have hb6x : Below w6.heap.size w6 wx := hb6r.trans (hbrx.mono hb6r.size)
            clear hbrx hbrx' hNr hKr hTr hr1 hcx hb6r
            dsimp only
            go_wp2_with fail
            refine hK.out _ _ ⟨hNx, hKx, hcx2⟩ (fun hHeldx => ?_)
            clear hK K
            try simp only [Act.put, List.setIfInBounds_toArray, List.set_cons_zero, List.set_cons_succ]
            refine anyH_take (i := 12) (v := .bool r1) (some 66) rfl rfl (by kernel_rfl) (by kernel_rfl) (by kernel_rfl) (fun _ _ _ h => h) (Or.inl ⟨by rfl, fun w' hw => by (have h := hr1'; go_simp)⟩) (by assumption) ?_
            simp only [Act.put, List.setIfInBounds_toArray, List.set_cons_zero, List.set_cons_succ]
            refine anyH_take (i := 13) (v := .bool r1) (some 67) rfl rfl (by kernel_rfl) (by kernel_rfl) (by kernel_rfl) (fun _ _ _ h => h) (Or.inl ⟨by rfl, fun w' hw => by go_simp⟩) (by assumption) ?_
            simp only [Act.put, List.setIfInBounds_toArray, List.set_cons_zero, List.set_cons_succ]
            refine anyH_take (i := 14) (v := .bool r1) (some 13) rfl rfl (by kernel_rfl) (by kernel_rfl) (by kernel_rfl) (fun _ _ _ h => h) (Or.inl ⟨by rfl, fun w' hw => by go_simp⟩) (by assumption) ?_
            simp only [Act.put, List.setIfInBounds_toArray, List.set_cons_zero, List.set_cons_succ]
            refine wpAnyH_done (by kernel_rfl) ?_ _
            clear hHeld hHeldx
            have hnx : decide (d.told.take (j + 1) = restF key t (t + (j + 1))) = r1 := by rw [Hnext.out]; rfl
            go_wp2_with fail
            go_roundw
            case rel => exact ⟨j + 1, by omega, by go_num, by rw [hnx], hb6x⟩
            case measure => simp [intOf]; omega
        · obtain rfl : j = n1 := by omega
          have hd1 : decide (j < j) = false := by simp
          obtain ⟨sm, hsm⟩ : ∃ sm, decide (d.told = restF key t (t + j)) = sm := ⟨_, rfl⟩
          rw [List.take_of_length_le (by rw [Hn1.out]; exact Nat.le_refl _), hsm]
          have Hsm := Lib.hid hsm
          have hbr : Below w.heap.size w wr := hb6.trans (hb6r.mono hb6.size)
          have hcr : wr.cell? ⟨blk, off, none⟩ = some (.slice Ab nb cb) := by rw [← Hc6.out]; exact World.cell?_of_block (hb6r.block blk hblk6)
          have hr0 : wr.cell? ⟨g, 0, none⟩ = some (.bool lf) := by rw [hNr.cell, HNL.out]; rfl
          have hr2 : wr.cell? ⟨g, 2, none⟩ = some (.slice A2 n2 c2) := by rw [hNr.cell, HNL.out]; rfl
          have Er : Hid (d.leaf = true → n2 = d.value.length ∧ n2 ≤ c2 ∧ c2 ≤ maxLen ∧ Bs wr wr.heap.size A2 d.value) := fun hl => ⟨(E6b.out hl).1, (E6b.out hl).2.1, (E6b.out hl).2.2.1, ((E6b.out hl).2.2.2.below hb6r (Nat.le_refl _)).more hb6r.size⟩
          have Hleaf := Lib.hid E1.out.symm
          clear hsm hb6r hb6 hR6 hK6 hN6 hT6 E6b hjn hlt
          cases lf with
          | true =>
            have hK := Hchk2.out
            rw [Hn1.out, Hleaf.out, if_pos rfl] at hK
            have HK := Lib.hid hK
            clear hK
            rcases Hrs.out with ⟨hrs, hd2⟩ | ⟨hrs, hd2⟩
            · have Hrs2 := Lib.hid hrs
              clear hrs
              cases sm with
              | true =>
                go_wp2_with fail
                go_ret3
                refine ⟨_, rfl, ?_, hbr⟩
                rw [HK.out, if_pos (by simpa using Hsm.out), if_pos Hrs2.out]
                obtain ⟨k1, k2, k3, k4⟩ := Er.out Hleaf.out
                exact ⟨A2, c2, by rw [← k1]; rfl, by rw [← k1]; exact k2, k3, k4⟩
              | false =>
                go_wp2_with fail
                go_ret3
                refine ⟨_, rfl, ?_, hbr⟩
                rw [HK.out, if_neg (by simpa using Hsm.out), if_pos Hrs2.out]
                rfl
            · have Hrs2 := Lib.hid hrs
              clear hrs
              go_wp2_with fail
              all_goals
                go_ret3
                refine ⟨_, rfl, ?_, hbr⟩
                rw [HK.out]
                split
                · rw [if_neg Hrs2.out]; rfl
                · rw [if_neg Hrs2.out]; rfl
          | false =>
            have hK := Hchk2.out
            rw [Hn1.out, Hleaf.out, if_neg (show ¬ (false = true) by simp)] at hK
            have HK := Lib.hid hK
            clear hK
            cases sm with
            | false =>
              rcases Hrs.out with ⟨hrs, hd2⟩ | ⟨hrs, hd2⟩
              · have Hrs2 := Lib.hid hrs
                clear hrs
                go_wp2_with fail
                go_ret3
                refine ⟨_, rfl, ?_, hbr⟩
                rw [HK.out, if_neg (by simpa using Hsm.out), if_pos Hrs2.out]
                rfl
              · have Hrs2 := Lib.hid hrs
                clear hrs
                go_wp2_with fail
                go_ret3
                refine ⟨_, rfl, ?_, hbr⟩
                rw [HK.out, if_neg (by simpa using Hsm.out), if_neg Hrs2.out]
                rfl
            | true =>
              have hjl : j < lt := by have := Hot.out.2 Hleaf.out; have := Hn1.out; omega
              obtain ⟨rfl, rfl⟩ := E7.out Hleaf.out
              obtain ⟨at_, hat⟩ : ∃ a, t + j = a := ⟨_, rfl⟩
              have hatI : IntKind.i64.wrap ((t : Int) + (j : Int)) = (at_ : Int) := by rw [IntWalk.i64_in _ (by omega)]; omega
              have hat64 : at_ < 64 := by omega
              have Hat := Lib.hid hat
              obtain ⟨x, hx⟩ : ∃ x, nibF key at_ = x := ⟨_, rfl⟩
              have hx16 : x < 16 := by rw [← hx]; exact nibF_lt _ _
              obtain ⟨bt, hbt⟩ : ∃ bt, bitM d.mask x = bt := ⟨_, rfl⟩
              have hK2 := HK.out
              rw [if_pos (show d.told = restF key t (t + j) by simpa using Hsm.out), hat, hx, hbt] at hK2
              have HK2 := Lib.hid hK2
              have Hx := Lib.hid hx
              have Hbt := Lib.hid hbt
              have Hh : Hid (∀ w' : World, Arr w' g 68 NL → w'.cell? ⟨g, 3 + x, none⟩ = some (.bool bt)) := fun w' h => by
                rw [h.cell, HNL.out, ← Hbt.out, ← hasF_get (mask := d.mask) hx16]
                exact rnC_has Hrok.out hx16
              have hri := hKr.range
              clear hat hx hbt hK2 HK
              go_wp2_with (refine wpList_load_mid rfl _ _ rfl g5 0 rfl KL _ hri Try.underlying24 rfl Hki.out ?_)
              go_at_call 25
              refine Calls.mono (rnib_at key hk KL HKL.out at_ hat64 x Hx.out wr) ?_
              rintro e wx ⟨rfl, hbx⟩
              have hNx := hNr.below hbx hNr.lt
              have hKx := hKr.below hbx hKr.lt
              have hbwx : Below w.heap.size w wx := hbr.trans (hbx.mono hbr.size)
              have hx1 : wx.cell? ⟨g, 1, none⟩ = some (.slice A1 j c1) := Hc1.out wx hNx
              have hxh := Hh.out wx hNx
              have hcx : wx.cell? ⟨blk, off, none⟩ = some (.slice Ab nb cb) := by rw [← hcr]; exact World.cell?_of_block (hbx.block blk (World.block_lt_of_cell? wr _ hcr))
              have hrowsx : RowsAt wx wx.heap.size (some ⟨blk, off, none⟩) (b :: rs) := (Hrows.out.below hbwx (Nat.le_refl _)).more hbwx.size
              clear hNr hKr hbr hr0 hr1 hr2 hcr hTr hri hbx Er
              dsimp only
              have hx16d : decide ((x : Int) < (16 : Int)) = true := by simp; omega
              cases bt with
              | false =>
                rcases Hrs.out with ⟨hrs, hd2⟩ | ⟨hrs, hd2⟩
                · have Hrs2 := Lib.hid hrs
                  clear hrs
                  go_wp2_with fail
                  go_ret3
                  refine ⟨_, rfl, ?_, hbwx⟩
                  rw [HK2.out, if_neg (by simp), if_pos Hrs2.out]
                  rfl
                · have Hrs2 := Lib.hid hrs
                  clear hrs
                  go_wp2_with fail
                  go_ret3
                  refine ⟨_, rfl, ?_, hbwx⟩
                  rw [HK2.out, if_neg (by simp), if_neg Hrs2.out]
                  rfl
              | true =>
                obtain ⟨DL, hDL⟩ : ∃ DL, DL = Lib.byteCells (kidD d.mask d.st x) := ⟨_, rfl⟩
                have hdl : DL.length = 32 := by rw [hDL, Lib.byteCells_length]; exact kidD_length _ _ _
                have HDi := Lib.hid (show (Try.prog.info? 24).map (·.size) = some DL.length by rw [hdl]; kernel_rfl)
                have HDr : Hid (∀ w' : World, Arr w' g 68 NL → w'.rangeAt g (19 + x * 32) DL) := fun w' h i v hi => by
                  rw [h.cell, HNL.out]
                  exact rnC_kid Hrok.out hx16 i v (by rw [ksF_get hx16 Hbt.out, ← hDL]; exact hi)
                have HDL := Lib.hid hDL
                obtain ⟨a1, ha1⟩ : ∃ a, at_ + 1 = a := ⟨_, rfl⟩
                have ha1I : IntKind.i64.wrap ((at_ : Int) + 1) = (a1 : Int) := by rw [IntWalk.i64_in _ (by omega)]; omega
                have ha64 : a1 ≤ 64 := by omega
                obtain ⟨A5, hA5⟩ : ∃ A5, cutA (some ⟨blk, off, none⟩) c 1 = A5 := ⟨_, rfl⟩
                obtain ⟨n5, hn5⟩ : ∃ n5, n - 1 = n5 := ⟨_, rfl⟩
                obtain ⟨c5, hc5⟩ : ∃ c5, c - 1 = c5 := ⟨_, rfl⟩
                have Hs5 : Hid (∀ w', (Instr.sliceAt 25 (.slice (some ⟨blk, off, none⟩) n c) (some (.int .i64 1)) none none).run Try.prog w' = .ok (.slice A5 n5 c5) w') := fun w' => by
                  rw [← hA5, ← hn5, ← hc5]
                  exact run_from 25 (by kernel_rfl) (by kernel_rfl) _ n c 1 .i64 1 rfl hnp w'
                have hrw8 : RowsAt (wx.drewN 1) (wx.drewN 1).heap.size A5 rs := by
                  have h := hrowsx.cutA1 (c := c) (by have h2 := Hn.out; simp only [List.length_cons] at h2; omega)
                  rw [hA5] at h
                  exact h
                have hih := hIH a1 (kidD d.mask d.st x) DL KL A5 n5 c5 (wx.drewN 1) (kidD_length _ _ _) HDL.out HKL.out ha64 (by have h2 := Hn.out; simp only [List.length_cons] at h2; omega) (by omega) (by omega) hrw8
                have hK3 := HK2.out
                rw [if_pos rfl, ha1] at hK3
                rw [← hK3] at hih
                have Hih := Lib.hid hih
                clear hih hrw8 hA5 hn5 hc5 ha1 hDL hdl hd0 hK3
                go_upto_region 25 with fail
                refine wp_region_held_drew (S := fun w' => Arr w' g 68 NL ∧ Arr w' g5 24 KL) (by kernel_rfl) ⟨hNx.drewN 1, hKx.drewN 1⟩ (fun hHeld => ?_)
                refine anyH_take (i := 0) (v := .int .u8 (x : Nat)) (some 100) rfl rfl (by kernel_rfl) (by kernel_rfl) (by kernel_rfl) (fun _ _ _ h => h) (Or.inl ⟨by rfl, fun w' hw => by go_simp⟩) (by assumption) ?_
                simp only [Act.put, List.setIfInBounds_toArray, List.set_cons_zero, List.set_cons_succ]
                refine anyH_take (i := 1) (v := .pointer (some ⟨g, 19, none⟩)) (some 101) rfl rfl (by kernel_rfl) (by kernel_rfl) (by kernel_rfl) (fun _ _ _ h => h) (Or.inl ⟨by rfl, fun w' hw => by go_simp⟩) (by assumption) ?_
                simp only [Act.put, List.setIfInBounds_toArray, List.set_cons_zero, List.set_cons_succ]
                refine anyH_take (i := 2) (v := .pointer (some ⟨g, 19 + x * 32, none⟩)) (some 102) rfl rfl (by kernel_rfl) (by kernel_rfl) (by kernel_rfl) (fun _ _ _ h => h) (Or.inl ⟨by rfl, fun w' hw => by (go_simp; intro h; omega)⟩) (by assumption) ?_
                simp only [Act.put, List.setIfInBounds_toArray, List.set_cons_zero, List.set_cons_succ]
                refine anyH_take (i := 3) (some 103) rfl rfl (by kernel_rfl) (by kernel_rfl) (by kernel_rfl) (fun _ _ _ h => h) (yieldsIf_load_mid (by rfl) 24 (.tmp 102) rfl g (19 + x * 32) rfl DL _ (fun w' h => HDr.out w' h.1) Try.underlying24 rfl HDi.out) (by assumption) ?_
                simp only [Act.put, List.setIfInBounds_toArray, List.set_cons_zero, List.set_cons_succ]
                refine anyH_take (i := 4) (some 104) rfl rfl (by kernel_rfl) (by kernel_rfl) (by kernel_rfl) (fun _ _ _ h => h) (yieldsIf_load_mid (by rfl) 24 (.tmp 5) rfl g5 0 rfl KL _ (fun w' h => h.2.range) Try.underlying24 rfl Hki.out) (by assumption) ?_
                simp only [Act.put, List.setIfInBounds_toArray, List.set_cons_zero, List.set_cons_succ]
                refine anyH_take (i := 5) (v := .slice (some ⟨blk, off, none⟩) n c) (some 105) rfl rfl (by kernel_rfl) (by kernel_rfl) (by kernel_rfl) (fun _ _ _ h => h) (Or.inl ⟨by rfl, fun w' hw => by go_simp⟩) (by assumption) ?_
                simp only [Act.put, List.setIfInBounds_toArray, List.set_cons_zero, List.set_cons_succ]
                refine anyH_take (i := 6) (v := .slice A5 n5 c5) (some 106) rfl rfl (by kernel_rfl) (by kernel_rfl) (by kernel_rfl) (fun _ _ _ h => h) (Or.inl ⟨by rfl, fun w' hw => by (have hs := Hs5.out; go_simp)⟩) (by assumption) ?_
                simp only [Act.put, List.setIfInBounds_toArray, List.set_cons_zero, List.set_cons_succ]
                refine anyH_take (i := 7) (v := .int .i64 (at_ : Nat)) (some 107) rfl rfl (by kernel_rfl) (by kernel_rfl) (by kernel_rfl) (fun _ _ _ h => h) (Or.inl ⟨by rfl, fun w' hw => by go_simp⟩) (by assumption) ?_
                simp only [Act.put, List.setIfInBounds_toArray, List.set_cons_zero, List.set_cons_succ]
                refine anyH_take (i := 8) (v := .int .i64 (a1 : Nat)) (some 108) rfl rfl (by kernel_rfl) (by kernel_rfl) (by kernel_rfl) (fun _ _ _ h => h) (Or.inl ⟨by rfl, fun w' hw => by go_simp⟩) (by assumption) ?_
                simp only [Act.put, List.setIfInBounds_toArray, List.set_cons_zero, List.set_cons_succ]
                refine wpAnyH_ready (rs := [9]) (by kernel_rfl) (by simp) ?_
                refine AllReadyH.cons rfl (fun K hK => ?_) AllReadyH.nil
                go_simp
                go_at_call 12
                refine Calls.mono Hih.out ?_
                rintro e w8 ⟨V, rfl, hsh, hb78⟩
                obtain ⟨va, vb, vc, hV⟩ := hsh.tuple
                subst hV
                have hbx : Below wx.heap.size wx w8 := Below.dP hb78
                have hN8 := hNx.below hbx hNx.lt
                have hK8 := hKx.below hbx hKx.lt
                have hb8 : Below w.heap.size w w8 := hbwx.trans (hbx.mono hbwx.size)
                clear hbx hb78 hNx hKx hbwx hx1 hxh hcx hrowsx
                dsimp only
                go_wp2_with fail
                refine hK.out _ _ ⟨hN8, hK8⟩ (fun hHeldx => ?_)
                clear hK K
                try simp only [Act.put, List.setIfInBounds_toArray, List.set_cons_zero, List.set_cons_succ]
                refine anyH_take (i := 10) (v := va) (some 110) rfl rfl (by kernel_rfl) (by kernel_rfl) (by kernel_rfl) (fun _ _ _ h => h) (Or.inl ⟨by rfl, fun w' hw => by go_simp⟩) (by assumption) ?_
                simp only [Act.put, List.setIfInBounds_toArray, List.set_cons_zero, List.set_cons_succ]
                refine anyH_take (i := 11) (v := vb) (some 111) rfl rfl (by kernel_rfl) (by kernel_rfl) (by kernel_rfl) (fun _ _ _ h => h) (Or.inl ⟨by rfl, fun w' hw => by go_simp⟩) (by assumption) ?_
                simp only [Act.put, List.setIfInBounds_toArray, List.set_cons_zero, List.set_cons_succ]
                refine anyH_take (i := 12) (v := vc) (some 112) rfl rfl (by kernel_rfl) (by kernel_rfl) (by kernel_rfl) (fun _ _ _ h => h) (Or.inl ⟨by rfl, fun w' hw => by go_simp⟩) (by assumption) ?_
                simp only [Act.put, List.setIfInBounds_toArray, List.set_cons_zero, List.set_cons_succ]
                refine anyH_take (i := 13) (v := va) (some 8) rfl rfl (by kernel_rfl) (by kernel_rfl) (by kernel_rfl) (fun _ _ _ h => h) (Or.inl ⟨by rfl, fun w' hw => by go_simp⟩) (by assumption) ?_
                simp only [Act.put, List.setIfInBounds_toArray, List.set_cons_zero, List.set_cons_succ]
                refine anyH_take (i := 14) (v := vb) (some 9) rfl rfl (by kernel_rfl) (by kernel_rfl) (by kernel_rfl) (fun _ _ _ h => h) (Or.inl ⟨by rfl, fun w' hw => by go_simp⟩) (by assumption) ?_
                simp only [Act.put, List.setIfInBounds_toArray, List.set_cons_zero, List.set_cons_succ]
                refine anyH_take (i := 15) (v := vc) (some 10) rfl rfl (by kernel_rfl) (by kernel_rfl) (by kernel_rfl) (fun _ _ _ h => h) (Or.inl ⟨by rfl, fun w' hw => by go_simp⟩) (by assumption) ?_
                simp only [Act.put, List.setIfInBounds_toArray, List.set_cons_zero, List.set_cons_succ]
                refine wpAnyH_done (by kernel_rfl) ?_ _
                clear hHeld hHeldx
                go_wp2_with fail
                go_ret3
                exact ⟨_, rfl, hsh, hb8⟩

end Go.Proofs.Ytlailhjpfadpcaa

/-
  Twin.
-/
import Derived.Test.YtmfamhdjkladoaaVolCopy
import Derived.Test.YtmfamhdjkladoaaVolCalls
import Derived.Maps.RangeWalk
namespace Go.Proofs.Ytmfamhdjkladoaa
open Go.RowKit
set_option linter.unusedVariables false
set_option linter.unusedSimpArgs false

theorem str_key_inv {key : Value} {kl : Lit} (h : keyOf Try.prog 9 key = some kl) : ∃ s, key = .string s := by
  cases key <;> simp [keyOf, mapKey, Try.underlying9] at h
  exact ⟨_, rfl⟩
theorem str_key_is {nm : ByteArray} {kl : Lit} (h : keyOf Try.prog 9 (.string nm) = some kl) : nm.size ≤ maxLen ∧ kl = .string nm.data.toList := by
  simp [keyOf, mapKey, Try.underlying9] at h
  exact ⟨h.1, h.2.symm⟩
theorem str_sameKey (a b : List UInt8) : (Lit.string a).sameKey (.string b) = decide (a = b) := by
  simp only [Lit.sameKey]
  by_cases h : a = b
  · simp [h]
  · simp [h]
/-- What of the volumes has come. -/
def cameV (L : List Vol) (left : Lit → Bool) : List Vol := L.filter fun v => !left (.string (vkey v))
theorem came_start (M : List Vm) : cameV (vs M) (Maps.has (ptrD M)) = [] := by
  unfold cameV
  rw [List.filter_eq_nil_iff]
  intro v hv
  have h : hasM M v.name = true := by
    rw [← vs_has, hasV, List.any_eq_true]
    exact ⟨v, hv, by simp [vkey]⟩
  rw [vkey, ptrD_has, h]
  simp
theorem came_end (L : List Vol) {left : Lit → Bool} (h : ∀ kl, left kl = false) : cameV L left = L := by
  unfold cameV
  rw [List.filter_eq_self]
  intro v _
  rw [h]
  rfl
theorem came_has {L : List Vol} {left : Lit → Bool} {nm : ByteArray} (h : left (.string nm.data.toList) = true) : hasV (cameV L left) nm = false := by
  unfold hasV cameV
  rw [List.any_eq_false]
  intro v hv e
  rw [List.mem_filter] at hv
  rw [decide_eq_true_eq] at e
  rw [e, h] at hv
  simp at hv
theorem insV_first {v : Vol} : ∀ {L : List Vol}, (∀ u ∈ L, bytesBefore (vkey v) (vkey u) = true) → insV v L = v :: L
  | [], _ => rfl
  | u :: r, h => by
    unfold insV
    rw [if_pos (h u List.mem_cons_self)]
theorem came_step {left : Lit → Bool} {v : Vol} (hl : left (.string (vkey v)) = true) : ∀ {L : List Vol}, RiseV L → v ∈ L → cameV L (fun z => left z && !z.sameKey (.string (vkey v))) = insV v (cameV L left)
  | [], _, hv => by cases hv
  | y :: r, hr, hv => by
    unfold RiseV at hr
    rw [List.pairwise_cons] at hr
    unfold cameV
    by_cases e : vkey y = vkey v
    · have hyv : y = v := by
        rcases List.mem_cons.1 hv with rfl | h
        · rfl
        · have := hr.1 v h
          rw [e] at this
          exact absurd ((bytesBefore_lt _ _).1 this) (by exact List.lt_irrefl _)
      subst hyv
      have hrest : ∀ u ∈ r, vkey u ≠ vkey y := fun u hu e' => by
        have := hr.1 u hu
        rw [e'] at this
        exact absurd ((bytesBefore_lt _ _).1 this) (by exact List.lt_irrefl _)
      rw [List.filter_cons_of_pos (by simp [str_sameKey]), List.filter_cons_of_neg (by simp [hl])]
      rw [insV_first (fun u hu => hr.1 u (List.mem_filter.1 hu).1)]
      congr 1
      apply List.filter_congr
      intro u hu
      have := hrest u hu
      simp [str_sameKey, this]
      try (intro _; exact fun e' => this e'.symm)
    · have hvr : v ∈ r := by
        rcases List.mem_cons.1 hv with rfl | h
        · exact absurd rfl e
        · exact h
      have hyv := hr.1 v hvr
      have hno : bytesBefore (vkey v) (vkey y) = false := by
        cases hb : bytesBefore (vkey v) (vkey y) with
        | false => rfl
        | true => exact absurd (List.lt_trans ((bytesBefore_lt _ _).1 hyv) ((bytesBefore_lt _ _).1 hb)) (List.lt_irrefl _)
      have ih := came_step hl hr.2 hvr
      unfold cameV at ih
      cases hy : left (.string (vkey y)) with
      | true =>
        rw [List.filter_cons_of_neg (by simp [hy, str_sameKey, e]), List.filter_cons_of_neg (by simp [hy]), ih]
      | false =>
        rw [List.filter_cons_of_pos (by simp [hy]), List.filter_cons_of_pos (by simp [hy]), ih]
        conv => rhs; unfold insV
        rw [if_neg (by rw [hno]; simp)]

set_option maxHeartbeats 4000000 in
set_option maxRecDepth 100000 in
theorem twin_any (s : Nat) (w : World) (F : Nat → Prop) (L : List Vol) (h : SetL w F s L) (hL : L.length ≤ 100000) :
    Calls Try.prog 17 #[.pointer (some ⟨s, 0, none⟩)] w fun e w' => ∃ s2 F2, e = .returned (.pointer (some ⟨s2, 0, none⟩)) ∧ SetL w' F2 s2 L ∧ (∀ b, F2 b → w.heap.size ≤ b) ∧ Below w.heap.size w w' := by
  obtain ⟨M, ⟨mb, hQ⟩, rfl⟩ := h
  rw [vs_length] at hL
  have HQ := Lib.hid hQ
  have Hr : Hid (RiseV (vs M)) := Lib.hid (SetL.rise ⟨M, ⟨mb, hQ⟩, rfl⟩)
  have hslt := hQ.Flt s hQ.Fs
  have hmlt := hQ.Flt mb hQ.Fm
  clear hQ
  go_enter Try.func17, Try.ntmps17
  go_wp2_with fail
  refine Calls.mono (vnew_any w) ?_
  rintro e w1 ⟨s2, rfl, hs2, ⟨M0, ⟨mb2, hQ2⟩, hM0⟩, hb1⟩
  obtain rfl : M0 = [] := by cases M0 with | nil => rfl | cons a b => simp [vs] at hM0
  have hc1 : w1.cell? ⟨s, 0, none⟩ = some (.map (some mb)) := by
    rw [World.cell?_of_block (hb1.block s hslt)]
    have := HQ.out.hs.cell 0
    simpa using this
  have hown := World.ownsMap.at_ HQ.out.hm (hb1.block mb hmlt)
  have hF2 : ∀ b, newF (fun _ => False) w w1 b → w.heap.size ≤ b ∧ b < w1.heap.size := fun b h => h.elim (fun h => h.elim) fun h => h
  obtain ⟨F2, hFe⟩ : ∃ z, z = newF (fun _ => False) w w1 := ⟨_, rfl⟩
  rw [← hFe] at hQ2 hF2
  have HF2 := Lib.hid hF2
  have HQ2 := Lib.hid hQ2
  clear hFe hF2 hQ2 hM0
  go_wp2_with (at_range; refine wpList_range_own _ rfl _ 68 rfl 9 64 strKeyed Try.underlying68 ptrR mb M.length (ptrD M) rfl hown ?_; intro w2 hrg2 hg2 hsz2)
  have hb2 : Below w.heap.size w w2 := hb1.trans (show Below w.heap.size w1 w2 from ⟨hg2.os, hg2.tape, hg2.output, hg2.size, fun i hi => hg2.block i (by have := hb1.size; omega) (by simp)⟩)
  obtain ⟨r, hr⟩ : ∃ r, r = w1.heap.size := ⟨_, rfl⟩
  rw [← hr] at hrg2 ⊢
  have hrw : w.heap.size ≤ r := by rw [hr]; exact hb1.size
  have hrM : r ≠ mb := by omega
  have hQ3 : SetQ w2 F2 s2 mb2 [] := HQ2.out.kept (fun b hF => hg2.block b (HF2.out b hF).2 (by simp)) (fun _ h => h) (fun b hF => by have := (HF2.out b hF).2; omega)
  have hF3 : ∀ b, F2 b → w.heap.size ≤ b ∧ b ≠ r := fun b hF => ⟨(HF2.out b hF).1, by have := (HF2.out b hF).2; omega⟩
  rw [show M.length = M.length from rfl] at hrg2
  clear hown hc1 hg2 hb1 HQ2 HF2
  have hr2 : r < w2.heap.size := hrg2.lt
  clear hr hsz2
  try go_frame
  go_loopw [4, 5] (fun _ _ wr => ∃ left cnt F3 M2, wr.ranges Try.prog 9 ptrR mb r M.length (ptrD M) left cnt ∧ SetQ wr F3 s2 mb2 M2 ∧ Hid (vs M2 = cameV (vs M) left) ∧ Hid (∀ b, F3 b → w.heap.size ≤ b ∧ b ≠ r) ∧ Below w.heap.size w wr) (fun _ _ wr => wr.rangeLeft mb r)
  case atStart => exact ⟨_, _, F2, [], hrg2, hQ3, Lib.hid (came_start M).symm, Lib.hid hF3, hb2⟩
  case round =>
    clear hrg2 hQ3 hF3 hb2
    obtain ⟨left, cnt, F3, M2, hrg, hQ3, HM2, HF3, hbr⟩ := hrel
    go_wp2_with (at_next; refine wpList_next_ranges _ rfl _ rfl 9 strKeyed ptrR Value.string id (fun key kl h => str_key_inv h) (fun v y _ => ⟨v, rfl⟩) mb r M.length (ptrD M) left cnt rfl hrg ?_ ?_)
    · intro hcnt hno
      have hend := came_end (vs M) hno
      have HS3 : Hid (SetL wr F3 s2 (vs M)) := Lib.hid ⟨M2, ⟨mb2, hQ3⟩, by rw [HM2.out, hend]⟩
      clear hrg hno hcnt hend hQ3
      go_wp2_with fail
      go_ret
      exact ⟨s2, F3, rfl, HS3.out, fun b hb => (HF3.out b hb).1, hbr⟩
    · intro nm c kl y1 y2 w3 cnt3 hkey hlk hRc hatk hrg3 hlt3 hg3 hs3 hen
      obtain ⟨hnz, rfl⟩ := str_key_is hkey
      have hhas := Go.Maps.has_true_of_atKey hatk
      rw [ptrD_has] at hhas
      rw [hasM_find, Option.isSome_iff_exists] at hhas
      obtain ⟨m, hm⟩ := hhas
      have hc := hatk .nil
      rw [ptrD_at, hm] at hc
      dsimp only at hc
      subst hc
      obtain rfl : c = .pointer (some ⟨m.vb, 0, none⟩) := ptrR_inv hRc
      obtain ⟨hmm, hmn⟩ := findM_mem hm
      have hF3r : ∀ b, F3 b → some b ≠ some r := fun b hF e => (HF3.out b hF).2 (by injection e)
      have hb3 : Below w.heap.size w w3 := hbr.trans (show Below w.heap.size wr w3 from ⟨hg3.os, hg3.tape, hg3.output, hg3.size, fun i hi => hg3.block i (by have := hbr.size; omega) (fun e => by injection e with e; omega)⟩)
      have hQ4 : SetQ w3 F3 s2 mb2 M2 := hQ3.kept (fun b hF => hg3.block b (hQ3.Flt b hF) (hF3r b hF)) (fun _ h => h) (fun b hF => Nat.lt_of_lt_of_le (hQ3.Flt b hF) hg3.size)
      obtain ⟨hvw, hbw⟩ : m.vb < w.heap.size ∧ m.bb < w.heap.size := ⟨HQ.out.Flt _ (HQ.out.Fv m hmm).1, HQ.out.Flt _ (HQ.out.Fv m hmm).2⟩
      have hvm : VmOk w3 m := (HQ.out.vm m hmm).kept (hb3.block _ hvw) (hb3.block _ hbw)
      have hok := hvm.ok
      have hA3 := hvm.hv
      have hS3 := hQ4.hs
      obtain ⟨wd, hwd⟩ : ∃ x, x = w3.drew := ⟨_, rfl⟩
      have hQd : SetQ wd F3 s2 mb2 M2 := by rw [hwd]; exact hQ4.kept (fun _ _ => rfl) (fun _ h => h) hQ4.Flt
      have hrgd : wd.ranges Try.prog 9 ptrR mb r M.length (ptrD M) (fun z => left z && !z.sameKey (.string nm.data.toList)) cnt3 := by rw [hwd]; exact hrg3
      have hbd : Below w.heap.size w wd := by rw [hwd]; exact Below.dN hb3 1
      have hvd : VmOk wd m := by rw [hwd]; exact hvm.kept rfl rfl
      have Hcp := Lib.hid (copied_any m m.v.quota m.v.frozen wd hvd hok.le hok.q nm (by rw [← hmn]; exact hok.nm))
      have Hno := Lib.hid (show hasM M2 nm = false by rw [← vs_has, HM2.out]; exact came_has hlk)
      have Hkey := Lib.hid (keyOf_name hnz)
      have hM2l : M2.length ≤ M.length := by
        have := congrArg List.length HM2.out
        rw [vs_length] at this
        rw [this]
        exact Nat.le_trans (List.length_filter_le _ _) (by rw [vs_length]; exact Nat.le_refl _)
      have hroom : M2.length < maxLen := by unfold maxLen; omega
      have hown2 : ∀ w', Below wd.heap.size wd w' → w'.ownsMap Try.prog 9 ptrR mb2 M2.length (ptrD M2) := fun w' hb => World.ownsMap.at_ hQd.hm (hb.block mb2 (hQd.Flt _ hQd.Fm))
      have Hown2 := Lib.hid hown2
      have Hstep := Lib.hid (show cameV (vs M) (fun z => left z && !z.sameKey (.string nm.data.toList)) = insV m.v (cameV (vs M) left) by
        have := came_step (left := left) (v := m.v) (by rw [vkey, hmn]; exact hlk) Hr.out (List.mem_map_of_mem hmm)
        rw [vkey, hmn] at this
        exact this)
      have Hmv := Lib.hid (show (⟨nm, m.v.quota, m.v.frozen, m.v.cells⟩ : Vol) = m.v by rw [← hmn])
      have HQd := Lib.hid hQd
      have Hrgd := Lib.hid hrgd
      have HA3 := Lib.hid hA3
      have HS3 := Lib.hid hS3
      have hltd : s2 < wd.heap.size := hQd.hs.lt
      have hlvd : m.vb < wd.heap.size := hvd.hv.lt
      have HAd := Lib.hid hvd.hv
      have HSd := Lib.hid hQd.hs
      obtain ⟨q, hq⟩ : ∃ z, m.v.quota = z := ⟨_, rfl⟩
      obtain ⟨fr, hfr⟩ : ∃ z, m.v.frozen = z := ⟨_, rfl⟩
      rw [hq, hfr] at Hcp HA3 HAd Hmv
      clear hm hmm hmn hRc hatk hrg3 hQ3 hQ4 hvm hok hA3 hS3 hQd hrgd hvd hlk hkey hown2 hq hfr hF3r
      go_upto_region 5 with fail
      refine wp_region_held_drew (S := fun w' => Arr w' m.vb 84 [.int .i64 (q : Nat), .bool fr, .map (some m.bb)] ∧ Arr w' s2 70 [.map (some mb2)]) (by kernel_rfl) ⟨HA3.out, HS3.out⟩ (fun hHeld => ?_)
      rw [← hwd]
      try rw [← hwd] at hHeld
      clear hwd
      refine anyH_take (i := 0) (v := .pointer (some ⟨s2, 0, none⟩)) (some 17) rfl rfl (by kernel_rfl) (by kernel_rfl) (by kernel_rfl) (fun _ _ _ h => h) (Or.inl ⟨by rfl, fun w' hw => by rfl⟩) (by assumption) ?_
      simp only [Act.put, List.setIfInBounds_toArray, List.set_cons_zero, List.set_cons_succ]
      refine anyH_take (i := 1) (v := .pointer (some ⟨s2, 0, none⟩)) (some 18) rfl rfl (by kernel_rfl) (by kernel_rfl) (by kernel_rfl) (fun _ _ _ h => h) (Or.inl ⟨by rfl, fun w' hw => by (go_simp)⟩) (by assumption) ?_
      simp only [Act.put, List.setIfInBounds_toArray, List.set_cons_zero, List.set_cons_succ]
      refine anyH_take (i := 2) (v := .pointer (some ⟨s2, 0, none⟩)) (some 19) rfl rfl (by kernel_rfl) (by kernel_rfl) (by kernel_rfl) (fun _ _ _ h => h) (Or.inl ⟨by rfl, fun w' hw => by (go_simp)⟩) (by assumption) ?_
      simp only [Act.put, List.setIfInBounds_toArray, List.set_cons_zero, List.set_cons_succ]
      refine anyH_take (i := 3) (v := .map (some mb2)) (some 20) rfl rfl (by kernel_rfl) (by kernel_rfl) (by kernel_rfl) (fun _ _ _ h => h) (Or.inl ⟨by rfl, fun w' hw => by (have hc0 := hw.2.cell 0; simp only [List.getElem?_cons_zero] at hc0; go_simp)⟩) (by assumption) ?_
      simp only [Act.put, List.setIfInBounds_toArray, List.set_cons_zero, List.set_cons_succ]
      refine anyH_take (i := 4) (v := .string nm) (some 21) rfl rfl (by kernel_rfl) (by kernel_rfl) (by kernel_rfl) (fun _ _ _ h => h) (Or.inl ⟨by rfl, fun w' hw => by rfl⟩) (by assumption) ?_
      simp only [Act.put, List.setIfInBounds_toArray, List.set_cons_zero, List.set_cons_succ]
      refine anyH_take (i := 5) (v := .pointer (some ⟨m.vb, 0, none⟩)) (some 22) rfl rfl (by kernel_rfl) (by kernel_rfl) (by kernel_rfl) (fun _ _ _ h => h) (Or.inl ⟨by rfl, fun w' hw => by rfl⟩) (by assumption) ?_
      simp only [Act.put, List.setIfInBounds_toArray, List.set_cons_zero, List.set_cons_succ]
      refine anyH_take (i := 6) (v := .pointer (some ⟨m.vb, 0, none⟩)) (some 23) rfl rfl (by kernel_rfl) (by kernel_rfl) (by kernel_rfl) (fun _ _ _ h => h) (Or.inl ⟨by rfl, fun w' hw => by rfl⟩) (by assumption) ?_
      simp only [Act.put, List.setIfInBounds_toArray, List.set_cons_zero, List.set_cons_succ]
      refine anyH_take (i := 7) (v := .pointer (some ⟨m.vb, 0, none⟩)) (some 24) rfl rfl (by kernel_rfl) (by kernel_rfl) (by kernel_rfl) (fun _ _ _ h => h) (Or.inl ⟨by rfl, fun w' hw => by (go_simp)⟩) (by assumption) ?_
      simp only [Act.put, List.setIfInBounds_toArray, List.set_cons_zero, List.set_cons_succ]
      refine anyH_take (i := 8) (v := .pointer (some ⟨m.vb, 0, none⟩)) (some 25) rfl rfl (by kernel_rfl) (by kernel_rfl) (by kernel_rfl) (fun _ _ _ h => h) (Or.inl ⟨by rfl, fun w' hw => by (go_simp)⟩) (by assumption) ?_
      simp only [Act.put, List.setIfInBounds_toArray, List.set_cons_zero, List.set_cons_succ]
      refine anyH_take (i := 9) (v := .int .i64 (q : Nat)) (some 26) rfl rfl (by kernel_rfl) (by kernel_rfl) (by kernel_rfl) (fun _ _ _ h => h) (Or.inl ⟨by rfl, fun w' hw => by (have hc0 := hw.1.cell 0; simp only [List.getElem?_cons_zero] at hc0; go_simp)⟩) (by assumption) ?_
      simp only [Act.put, List.setIfInBounds_toArray, List.set_cons_zero, List.set_cons_succ]
      refine anyH_take (i := 10) (v := .pointer (some ⟨m.vb, 0, none⟩)) (some 27) rfl rfl (by kernel_rfl) (by kernel_rfl) (by kernel_rfl) (fun _ _ _ h => h) (Or.inl ⟨by rfl, fun w' hw => by rfl⟩) (by assumption) ?_
      simp only [Act.put, List.setIfInBounds_toArray, List.set_cons_zero, List.set_cons_succ]
      refine anyH_take (i := 11) (v := .pointer (some ⟨m.vb, 0, none⟩)) (some 28) rfl rfl (by kernel_rfl) (by kernel_rfl) (by kernel_rfl) (fun _ _ _ h => h) (Or.inl ⟨by rfl, fun w' hw => by (go_simp)⟩) (by assumption) ?_
      simp only [Act.put, List.setIfInBounds_toArray, List.set_cons_zero, List.set_cons_succ]
      refine anyH_take (i := 12) (v := .pointer (some ⟨m.vb, 1, none⟩)) (some 29) rfl rfl (by kernel_rfl) (by kernel_rfl) (by kernel_rfl) (fun _ _ _ h => h) (Or.inl ⟨by rfl, fun w' hw => by (go_simp)⟩) (by assumption) ?_
      simp only [Act.put, List.setIfInBounds_toArray, List.set_cons_zero, List.set_cons_succ]
      refine anyH_take (i := 13) (v := .bool fr) (some 30) rfl rfl (by kernel_rfl) (by kernel_rfl) (by kernel_rfl) (fun _ _ _ h => h) (Or.inl ⟨by rfl, fun w' hw => by (have hc0 := hw.1.cell 1; simp only [List.getElem?_cons_succ, List.getElem?_cons_zero] at hc0; go_simp)⟩) (by assumption) ?_
      simp only [Act.put, List.setIfInBounds_toArray, List.set_cons_zero, List.set_cons_succ]
      refine wpAnyH_ready (rs := [14]) (by kernel_rfl) (by simp) ?_
      refine AllReadyH.cons rfl (fun K hK => ?_) AllReadyH.nil
      go_simp
      go_at_call 45
      refine Calls.mono (Hcp.out) ?_
      rintro e w4 ⟨x, rfl, hx, hxv, h1, h2, hb4⟩
      have hown4 := Hown2.out w4 hb4
      have hA4 : Arr w4 m.vb 84 [.int .i64 (q : Nat), .bool fr, .map (some m.bb)] := HAd.out.below hb4 hlvd
      have hS4 : Arr w4 s2 70 [.map (some mb2)] := HSd.out.below hb4 hltd
      go_wp2_with fail
      refine hK.out _ _ ⟨hA4, hS4⟩ (fun hHeldx => ?_)
      clear hK K
      try simp only [Act.put, List.setIfInBounds_toArray, List.set_cons_zero, List.set_cons_succ]
      refine wpAnyH_ready (rs := [15]) (by kernel_rfl) (by simp) ?_
      refine AllReadyH.cons rfl (fun K hK => ?_) AllReadyH.nil
      rw [if_pos (by rfl)]
      refine wp_mapUpdate_to rfl _ _ _ 68 rfl 9 64 strKeyed Try.underlying68 ptrR mb2 M2.length (ptrD M2) rfl hown4 hroom _ _ _ rfl rfl Hkey.out _ [] (ptrR_mk x.vb) ?_
      intro w5 hown5 hg5
      have hfin := SetQ.add HQd.out hx hb4 h1 h2 (by rw [hxv]; exact Hno.out) (by rw [hxv]; exact hown5) hg5
      have hg45 : wd.grownBy w5 (some mb2) := ⟨hg5.os.trans hb4.os, hg5.tape.trans hb4.tape, hg5.output.trans hb4.output, Nat.le_trans hb4.size hg5.size, fun k hk hn => (hg5.block k (Nat.lt_of_lt_of_le hk hb4.size) hn).trans (hb4.block k hk)⟩
      have hmb2 := HF3.out mb2 HQd.out.Fm
      have hrd := Hrgd.out.lt
      have hrg5 := Hrgd.out.kept hg45 (fun e => by injection e with e; omega) (fun e => by injection e with e; exact hmb2.2 e.symm)
      have hb5 : Below w.heap.size w w5 := hbd.trans ⟨hg45.os, hg45.tape, hg45.output, hg45.size, fun i hi => hg45.block i (by have := hbd.size; omega) (fun e => by injection e with e; omega)⟩
      have hA5 : Arr w5 m.vb 84 [.int .i64 (q : Nat), .bool fr, .map (some m.bb)] := (hg5.block m.vb hA4.lt (fun e => by injection e with e; omega)).trans hA4
      have hvs5 : vs (insM x M2) = cameV (vs M) (fun z => left z && !z.sameKey (.string nm.data.toList)) := by rw [vs_ins, hxv, Hmv.out, HM2.out, Hstep.out]
      have hF5 : ∀ b, newF F3 wd w5 b → w.heap.size ≤ b ∧ b ≠ r := fun b hb => hb.elim (HF3.out b) fun hb => ⟨by have := hbd.size; omega, by omega⟩
      have Hvs5 := Lib.hid hvs5
      have HF5 := Lib.hid hF5
      refine hK.out _ _ ⟨hA5, hfin.hs⟩ (fun hHeldy => ?_)
      clear hK K hown5 hg5 hHeldy hHeldx hHeld hown4 hA4 hS4 hvs5 hF5 hA5
      refine wpAnyH_done (by kernel_rfl) ?_ _
      go_wp2_with fail
      go_roundw
      case rel => exact ⟨_, _, _, _, hrg5, hfin, Hvs5, HF5, hb5⟩
      case measure => rw [hrg5.left_eq, hrg.left_eq]; omega

end Go.Proofs.Ytmfamhdjkladoaa

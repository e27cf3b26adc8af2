/-
  A disk's Write.
-/
import Derived.Test.YtkepfigoeaheaaaDiskTurn
import Derived.Deep.DeepCutAuto
namespace Go.Proofs.Ytkepfigoeaheaaa
open Go.RowKit
set_option linter.unusedVariables false
set_option linter.unusedSimpArgs false

theorem wp_store_to {P : Program} {op : Oper} {a : Act} {w : World} {K : Act → World → Prop} {Q : Exit → Act → World → Prop} (hd : op.dst = none) (ty : TypeId) (x y : Operand) (ho : op.op = .store ty x y)
    (b o : Nat) (cells : Array Value) (hx : a.eval x = .pointer (some ⟨b, o, none⟩)) (hy : a.eval y = .agg cells)
    (ht : w.there b o cells.size) (hi : (P.info? ty).map (·.size) = some cells.size) (h1 : cells.all (·.oneCell') = true)
    (h : K a (w.setCells b o cells.toList)) : op.wp P a w K Q :=
  wp_store_mid ty x y ho b o cells hx hy ht hi h1 (by rw [hd]; exact h)

theorem ownsRow_only {w w' : World} {B : Nat} {e : TypeId} {sz : Nat} {v : Value} {n : Nat} {xs : List Value} (h : w.ownsRow B e sz v n xs) {R : Nat → Prop} (hO : Only R w w') (hv : ∀ g, v.ownBlock = some g → ¬ R g) : w'.ownsRow B e sz v n xs := by
  refine ⟨h.1, ?_⟩
  rcases h.2 with h0 | ⟨g, cap, cur, rfl, e1, e2, e3⟩
  · exact .inl h0
  · exact .inr ⟨g, cap, cur, rfl, e1, (hO.block g (Array.getElem?_eq_some_iff.1 e2).1 (hv g rfl)).trans e2, e3⟩
theorem row_form {w : World} {B : Nat} {e : TypeId} {sz : Nat} {v : Value} {n m : Nat} {xs : List Value} (h : w.ownsRow B e sz v n xs) (hn : n = m) : ∃ A c, v = .slice A m c := by
  subst hn
  rcases h.2 with ⟨e, h0⟩ | ⟨g, cap, cur, e, _⟩
  · exact ⟨none, 0, by rw [e, h0]⟩
  · exact ⟨_, _, e⟩
theorem wk_new {k s : Nat} {vw v2 : Value} (h : vw.ownBlock ≠ some k) (hk : k < s) (hloc : v2.ownBlock = vw.ownBlock ∨ v2.ownBlock = some s) (hg : v2.ownBlock = some k) : False := by
  rcases hloc with e | e
  · exact h (e ▸ hg)
  · rw [e] at hg; injection hg with hg; omega

def WritePost (F : Nat → Prop) (k n : Nat) (S L : List (List UInt8)) (W : List WrF) (fu : Bool) (left : Int) (w : World) (e : Ending) (w' : World) : Prop :=
  e = .returned (.int .i64 0) ∧ Disk w' (newF F w w') k n S L W fu left ∧ Only F w w'

set_option maxHeartbeats 16000000 in
set_option maxRecDepth 100000 in
theorem write_live (F : Nat → Prop) (k n a : Nat) (S L : List (List UInt8)) (W : List WrF) (fu : Bool) (left : Int) (s : List UInt8) (SL : List Value) (w : World) (h : Disk w F k n S L W fu left) (hdl : deadF fu left = false) (ha : a < n) (hs64 : s.length = 64) (hSL : SL = Lib.byteCells s) (hWN : W.length + 1 ≤ 100000) :
    Calls Try.prog 21 #[.pointer (some ⟨k, 0, none⟩), .int .i64 (a : Nat), .agg SL.toArray] w (WritePost F k n (S.set a s) L (W ++ [(a, s, false)]) fu (spentF fu left) w) := by
  obtain ⟨gs, gl, bm, vw, base, nm, D, hD, hK, hnm, hgone⟩ := h
  have hn2 := hD.n2
  have hkw := hD.Flt k hD.Fk
  obtain ⟨left2, hl2⟩ : ∃ x, spentF fu left = x := ⟨_, rfl⟩
  rw [hl2]
  have hl0 : 0 ≤ left2 := by
    have := hD.f0
    rw [← hl2]
    unfold spentF
    cases fu
    · exact this
    · have hne : left ≠ 0 := by simpa [deadF] using hdl
      show 0 ≤ left - 1
      omega
  have hl1 : left2 ≤ 9223372036854775807 := by
    have := hD.f1
    rw [← hl2]
    unfold spentF
    cases fu
    · exact this
    · show left - 1 ≤ 9223372036854775807
      omega
  have Hl := Lib.hid (show SL.length = 64 by rw [hSL, Lib.byteCells_length]; exact hs64)
  have Hi := Lib.hid (show (Try.prog.info? 49).map (·.size) = some SL.toArray.size by rw [List.size_toArray, Hl.out]; exact secInfo)
  have Hz := Lib.hid (show (Try.prog.info? 49).map (·.size) = some SL.length by rw [Hl.out]; exact secInfo)
  have H1 := Lib.hid (show SL.toArray.all (·.oneCell') = true by rw [hSL]; exact sec_one _)
  have HSL := Lib.hid hSL
  obtain ⟨WL, hWL⟩ : ∃ x, x = wrOne (a, s, false) := ⟨_, rfl⟩
  have HWl := Lib.hid (show WL.length = 66 by rw [hWL]; exact wrOne_length hs64)
  have HWb := Lib.hid (show Try.prog.built 102 [(0, .int .i64 (a : Nat)), (1, .agg SL.toArray)] = some WL.toArray by rw [hWL]; exact wr_built a s SL hSL hs64)
  have HWL := Lib.hid hWL
  have hgxk : w.heap.size ≠ k := by omega
  have hgxF0 : ¬ F w.heap.size := fun e => by have := hD.Flt w.heap.size e; omega
  obtain ⟨w1, hw1⟩ : ∃ x, x = w.alloc (.cells SL.toArray 49) := ⟨_, rfl⟩
  have hD1 : DkW w1 F k gs gl bm vw base nm n S L W D fu left := by rw [hw1]; exact hD.kept (by simp) (fun b hF => Below.heap_alloc _ _ b (hD.Flt b hF))
  have hO1 : Only F w w1 := by rw [hw1]; exact (Only.refl _ _).alloc _
  have hR1 : Arr w1 w.heap.size 49 SL := by rw [hw1]; exact Arr.new w _ _
  have HW1 := Lib.hid hw1
  clear hSL hWL hw1
  go_enter Try.func21, Try.ntmps21
  go_upto_region 1 with fail
  change Code.wp _ _ _ _ (w.alloc (.cells SL.toArray 49))
  rw [← HW1.out]
  clear HW1
  go_wp2_with fail
  refine Calls.mono (has_yes k gs n a w1 hD1.c0 ha hn2) ?_
  rintro e wa ⟨rfl, rfl⟩
  go_wp2_with fail
  refine Calls.mono (spend_live k gs gl bm vw n fu left wa hD1.hk hD1.f0 hD1.f1 hdl) ?_
  rintro e w2 ⟨rfl, hk2, hO2, hsz2⟩
  rw [hl2] at hk2
  have hD2 : DkW w2 F k gs gl bm vw base nm n S L W D fu left2 := hD1.turn (by omega) (fun b hF h1 _ _ => hO2.block b (hD1.Flt b hF) h1) hk2 (hD1.hs.only hO2 (fun e => hD1.ks e.symm)) (hD1.hl.only hO2 (fun e => hD1.kl e.symm)) hD1.lS hD1.lL hD1.s64 hD1.l64 hl0 hl1
  have hR2 : Arr w2 w.heap.size 49 SL := hR1.only hO2 hgxk
  have hO2F : Only F w w2 := hO1.then hO2 (fun i hi => .inl (hi ▸ hD.Fk))
  clear hk2 hO2 hD1 hR1 hO1 hsz2
  go_wp2_with fail
  obtain ⟨w2d, hw2d⟩ : ∃ x, x = w2.drew := ⟨_, rfl⟩
  have hD2d : DkW w2d F k gs gl bm vw base nm n S L W D fu left2 := by rw [hw2d]; exact hD2.drew
  have hR2d : Arr w2d w.heap.size 49 SL := by rw [hw2d]; exact hR2.drewN 1
  have hO2d : Only F w w2d := by rw [hw2d]; exact hO2F.drewN 1
  have hoff : a * 64 + 64 ≤ (secC S).length := by rw [secC_length hD.s64, hD.lS]; omega
  have hth : w2d.there gs (a * 64) SL.toArray.size := by rw [List.size_toArray, Hl.out]; exact there_of_arr hD2d.hs hoff
  obtain ⟨w3, hw3⟩ : ∃ x, x = w2d.setCells gs (a * 64) SL := ⟨_, rfl⟩
  have hA3 : Arr w3 gs 49 (secC (S.set a s)) := by
    rw [hw3, ← secC_set hD.s64 (by rw [hD.lS]; exact ha) s hs64, ← HSL.out]
    exact Arr.setIn SL (a * 64) _ w2d hD2d.hs (by rw [Hl.out]; exact hoff)
  have hO3 : Only (fun b => b = gs) w2d w3 := by rw [hw3]; exact Only.setIn (R := fun b => b = gs) rfl SL (a * 64) w2d (Only.refl _ _)
  have hsz3 : w3.heap.size = w2d.heap.size := by rw [hw3]; exact setCells_size _ _ _ _
  have hD3 : DkW w3 F k gs gl bm vw base nm n (S.set a s) L W D fu left2 := hD2d.see hs64 hsz3 hA3 hO3
  have hgxs : w.heap.size ≠ gs := fun e => hgxF0 (e ▸ hD.Fs)
  have hR3 : Arr w3 w.heap.size 49 SL := hR2d.only hO3 hgxs
  have hO3F : Only F w w3 := hO2d.then hO3 (fun i hi => .inl (hi ▸ hD.Fs))
  have hkm := hD3.km
  refine wp_region_held_drew (S := fun w' => w'.cell? ⟨k, 0, none⟩ = some (.slice (some ⟨gs, 0, none⟩) n n) ∧ w'.rangeAt w.heap.size 0 SL) (by kernel_rfl) ⟨hD2.drew.c0, (Arr.drewN hR2 1).rangeD⟩ (fun hHeld => ?_)
  rw [← hw2d]
  try rw [← hw2d] at hHeld
  clear hw2d
  refine dskH_take (i := 0) (v := .pointer (some ⟨k, 0, none⟩)) (some 13) rfl rfl (by kernel_rfl) (by kernel_rfl) (by kernel_rfl) (fun _ _ _ h => h) (Or.inl ⟨by rfl, fun _ hw => by rfl⟩) (by assumption) ?_
  simp only [Act.put, List.setIfInBounds_toArray, List.set_cons_zero, List.set_cons_succ]
  refine dskH_take (i := 1) (v := .pointer (some ⟨k, 0, none⟩)) (some 14) rfl rfl (by kernel_rfl) (by kernel_rfl) (by kernel_rfl) (fun _ _ _ h => h) (Or.inl ⟨by rfl, fun _ hw => by go_simp⟩) (by assumption) ?_
  simp only [Act.put, List.setIfInBounds_toArray, List.set_cons_zero, List.set_cons_succ]
  refine dskH_take (i := 2) (v := .pointer (some ⟨k, 0, none⟩)) (some 15) rfl rfl (by kernel_rfl) (by kernel_rfl) (by kernel_rfl) (fun _ _ _ h => h) (Or.inl ⟨by rfl, fun _ hw => by go_simp⟩) (by assumption) ?_
  simp only [Act.put, List.setIfInBounds_toArray, List.set_cons_zero, List.set_cons_succ]
  refine dskH_take (i := 3) (v := .slice (some ⟨gs, 0, none⟩) n n) (some 16) rfl rfl (by kernel_rfl) (by kernel_rfl) (by kernel_rfl) (fun _ _ _ h => h) (Or.inl ⟨by rfl, fun _ hw => by (have hw2 := hw.1; go_simp)⟩) (by assumption) ?_
  simp only [Act.put, List.setIfInBounds_toArray, List.set_cons_zero, List.set_cons_succ]
  refine dskH_take (i := 4) (v := .int .i64 (a : Nat)) (some 17) rfl rfl (by kernel_rfl) (by kernel_rfl) (by kernel_rfl) (fun _ _ _ h => h) (Or.inl ⟨by rfl, fun _ hw => by rfl⟩) (by assumption) ?_
  simp only [Act.put, List.setIfInBounds_toArray, List.set_cons_zero, List.set_cons_succ]
  refine dskH_take (i := 5) (some 18) rfl rfl (by kernel_rfl) (by kernel_rfl) (by kernel_rfl) (fun _ _ _ h => h) (yieldsIf_load_mid (by rfl) 49 (.tmp 5) rfl w.heap.size 0 rfl SL _ (fun _ h => h.2) Try.underlying49 rfl Hz.out) (by assumption) ?_
  simp only [Act.put, List.setIfInBounds_toArray, List.set_cons_zero, List.set_cons_succ]
  refine dskH_take (i := 6) (v := .pointer (some ⟨gs, a * 64, none⟩)) (some 19) rfl rfl (by kernel_rfl) (by kernel_rfl) (by kernel_rfl) (fun _ _ _ h => h) (Or.inl ⟨by rfl, fun _ hw => by go_simp⟩) (by assumption) ?_
  simp only [Act.put, List.setIfInBounds_toArray, List.set_cons_zero, List.set_cons_succ]
  refine wpAnyH_ready (rs := [7]) (by kernel_rfl) (by simp) ?_
  refine AllReadyH.cons rfl (fun KC hKC => ?_) AllReadyH.nil
  rw [if_pos (by rfl)]
  refine wp_store_to rfl 49 _ _ rfl gs (a * 64) SL.toArray rfl rfl hth Hi.out H1.out ?_
  try rw [show SL.toArray.toList = SL from rfl]
  refine hKC.out _ _ ⟨(hw3 ▸ hD3).c0, (Arr.rangeD (hw3 ▸ hR3))⟩ (fun hHeld41 => ?_)
  clear hKC KC
  try simp only [Act.put, List.setIfInBounds_toArray, List.set_cons_zero, List.set_cons_succ]
  try rw [← hw3]
  refine wpAnyH_done (by kernel_rfl) ?_ _
  clear hHeld
  (try dsimp only)
  clear hw3 hth hD2d hR2d hA3 hO3 hD2 hR2
  obtain ⟨Aw, cw, hvw⟩ := hD3.vw_form
  obtain ⟨m, hm⟩ : ∃ m, W.length = m := ⟨_, rfl⟩
  rw [hm] at hvw
  subst hvw
  have Hm := Lib.hid hm
  have hmN : m + 1 ≤ 100000 := by omega
  have hnmm : nm ≤ m := by omega
  go_upto_region 5 with fail
  go_cut [35] (fun s5 wx => s5 = .int .i64 (m : Nat) ∧ ∃ d, RowIn d (m + 1) ∧ DkW wx (fun b => F b ∨ (w3.heap.size ≤ b ∧ b < wx.heap.size)) k gs gl bm (.slice Aw m cw) base (nm + 1) n (S.set a s) L W (D.put (.int .i64 (a : Nat)) d) fu left2 ∧ Only F w3 wx)
  case first =>
    obtain ⟨w4, hw4⟩ : ∃ x, x = w3.drew := ⟨_, rfl⟩
    have D4 : DkW w4 F k gs gl bm (.slice Aw m cw) base nm n (S.set a s) L W D fu left2 := by rw [hw4]; exact hD3.drew
    have E4 := D4.hk
    have O4 : Only F w3 w4 := by rw [hw4]; exact (Only.refl _ _).drewN 1
    have cells5 : ∀ {w' : World}, Arr w' k 98 [.slice (some ⟨gs, 0, none⟩) n n, .slice (some ⟨gl, 0, none⟩) n n, .slice Aw m cw, .map (some bm), .bool fu, .int .i64 left2] → w'.cell? ⟨k, 3, none⟩ = some (.map (some bm)) ∧ w'.cell? ⟨k, 2, none⟩ = some (.slice Aw m cw) := fun h => ⟨by rw [h.cell]; rfl, by rw [h.cell]; rfl⟩
    refine wp_region_held_drew (S := fun w' => w'.cell? ⟨k, 3, none⟩ = some (.map (some bm)) ∧ w'.cell? ⟨k, 2, none⟩ = some (.slice Aw m cw)) (by kernel_rfl) (cells5 hD3.drew.hk) (fun hHeld => ?_)
    rw [← hw4]
    try rw [← hw4] at hHeld
    clear hw4
    refine dskH_take (i := 0) (v := .pointer (some ⟨k, 0, none⟩)) (some 20) rfl rfl (by kernel_rfl) (by kernel_rfl) (by kernel_rfl) (fun _ _ _ h => h) (Or.inl ⟨by rfl, fun _ hw => by rfl⟩) (by assumption) ?_
    simp only [Act.put, List.setIfInBounds_toArray, List.set_cons_zero, List.set_cons_succ]
    refine dskH_take (i := 1) (v := .pointer (some ⟨k, 0, none⟩)) (some 21) rfl rfl (by kernel_rfl) (by kernel_rfl) (by kernel_rfl) (fun _ _ _ h => h) (Or.inl ⟨by rfl, fun _ hw => by go_simp⟩) (by assumption) ?_
    simp only [Act.put, List.setIfInBounds_toArray, List.set_cons_zero, List.set_cons_succ]
    refine dskH_take (i := 2) (v := .pointer (some ⟨k, 3, none⟩)) (some 22) rfl rfl (by kernel_rfl) (by kernel_rfl) (by kernel_rfl) (fun _ _ _ h => h) (Or.inl ⟨by rfl, fun _ hw => by go_simp⟩) (by assumption) ?_
    simp only [Act.put, List.setIfInBounds_toArray, List.set_cons_zero, List.set_cons_succ]
    refine dskH_take (i := 3) (v := .map (some bm)) (some 23) rfl rfl (by kernel_rfl) (by kernel_rfl) (by kernel_rfl) (fun _ _ _ h => h) (Or.inl ⟨by rfl, fun _ hw => by (have hw2 := hw.1; go_simp)⟩) (by assumption) ?_
    simp only [Act.put, List.setIfInBounds_toArray, List.set_cons_zero, List.set_cons_succ]
    refine dskH_take (i := 4) (v := .int .i64 (a : Nat)) (some 24) rfl rfl (by kernel_rfl) (by kernel_rfl) (by kernel_rfl) (fun _ _ _ h => h) (Or.inl ⟨by rfl, fun _ hw => by rfl⟩) (by assumption) ?_
    simp only [Act.put, List.setIfInBounds_toArray, List.set_cons_zero, List.set_cons_succ]
    refine dskH_take (i := 5) (v := .pointer (some ⟨k, 0, none⟩)) (some 25) rfl rfl (by kernel_rfl) (by kernel_rfl) (by kernel_rfl) (fun _ _ _ h => h) (Or.inl ⟨by rfl, fun _ hw => by rfl⟩) (by assumption) ?_
    simp only [Act.put, List.setIfInBounds_toArray, List.set_cons_zero, List.set_cons_succ]
    refine dskH_take (i := 6) (v := .pointer (some ⟨k, 0, none⟩)) (some 26) rfl rfl (by kernel_rfl) (by kernel_rfl) (by kernel_rfl) (fun _ _ _ h => h) (Or.inl ⟨by rfl, fun _ hw => by go_simp⟩) (by assumption) ?_
    simp only [Act.put, List.setIfInBounds_toArray, List.set_cons_zero, List.set_cons_succ]
    refine dskH_take (i := 7) (v := .pointer (some ⟨k, 3, none⟩)) (some 27) rfl rfl (by kernel_rfl) (by kernel_rfl) (by kernel_rfl) (fun _ _ _ h => h) (Or.inl ⟨by rfl, fun _ hw => by go_simp⟩) (by assumption) ?_
    simp only [Act.put, List.setIfInBounds_toArray, List.set_cons_zero, List.set_cons_succ]
    refine dskH_take (i := 8) (v := .map (some bm)) (some 28) rfl rfl (by kernel_rfl) (by kernel_rfl) (by kernel_rfl) (fun _ _ _ h => h) (Or.inl ⟨by rfl, fun _ hw => by (have hw2 := hw.1; go_simp)⟩) (by assumption) ?_
    simp only [Act.put, List.setIfInBounds_toArray, List.set_cons_zero, List.set_cons_succ]
    refine dskH_take (i := 9) (v := .int .i64 (a : Nat)) (some 29) rfl rfl (by kernel_rfl) (by kernel_rfl) (by kernel_rfl) (fun _ _ _ h => h) (Or.inl ⟨by rfl, fun _ hw => by rfl⟩) (by assumption) ?_
    simp only [Act.put, List.setIfInBounds_toArray, List.set_cons_zero, List.set_cons_succ]
    refine dskH_take (i := 11) (v := .pointer (some ⟨k, 0, none⟩)) (some 31) rfl rfl (by kernel_rfl) (by kernel_rfl) (by kernel_rfl) (fun _ _ _ h => h) (Or.inl ⟨by rfl, fun _ hw => by rfl⟩) (by assumption) ?_
    simp only [Act.put, List.setIfInBounds_toArray, List.set_cons_zero, List.set_cons_succ]
    refine dskH_take (i := 12) (v := .pointer (some ⟨k, 0, none⟩)) (some 32) rfl rfl (by kernel_rfl) (by kernel_rfl) (by kernel_rfl) (fun _ _ _ h => h) (Or.inl ⟨by rfl, fun _ hw => by go_simp⟩) (by assumption) ?_
    simp only [Act.put, List.setIfInBounds_toArray, List.set_cons_zero, List.set_cons_succ]
    refine dskH_take (i := 13) (v := .pointer (some ⟨k, 2, none⟩)) (some 33) rfl rfl (by kernel_rfl) (by kernel_rfl) (by kernel_rfl) (fun _ _ _ h => h) (Or.inl ⟨by rfl, fun _ hw => by go_simp⟩) (by assumption) ?_
    simp only [Act.put, List.setIfInBounds_toArray, List.set_cons_zero, List.set_cons_succ]
    refine dskH_take (i := 14) (v := .slice Aw m cw) (some 34) rfl rfl (by kernel_rfl) (by kernel_rfl) (by kernel_rfl) (fun _ _ _ h => h) (Or.inl ⟨by rfl, fun _ hw => by (have hw2 := hw.2; go_simp)⟩) (by assumption) ?_
    simp only [Act.put, List.setIfInBounds_toArray, List.set_cons_zero, List.set_cons_succ]
    refine dskH_take (i := 15) (v := .int .i64 (m : Nat)) (some 35) rfl rfl (by kernel_rfl) (by kernel_rfl) (by kernel_rfl) (fun _ _ _ h => h) (Or.inl ⟨by rfl, fun _ hw => by go_simp⟩) (by assumption) ?_
    simp only [Act.put, List.setIfInBounds_toArray, List.set_cons_zero, List.set_cons_succ]
    refine wpAnyH_ready (rs := [10, 16]) (by kernel_rfl) (by simp) ?_
    refine AllReadyH.cons rfl (fun KC hKC => ?_) (AllReadyH.cons rfl (fun KC hKC => ?_) AllReadyH.nil)
    · rw [if_pos (by rfl)]
      refine wp_lookup_gr (some 30) rfl _ _ rfl base bm nm D rfl D4.hm (by unfold maxLen; omega) a rfl (by omega) (fun v zs hat hoi hzl hback hshv => ?_)
      have hvk : v.ownBlock ≠ some k := fun e => hshv _ D4.sh k e (.inl rfl)
      have GB21 : (w4).grownBy (w4) v.ownBlock := ⟨rfl, rfl, rfl, Nat.le_refl _, fun _ _ _ => rfl⟩
      simp only [Act.put, List.setIfInBounds_toArray, List.set_cons_zero, List.set_cons_succ]
      refine hKC.out _ _ (cells5 E4) (fun hHeld21 => ?_)
      clear hKC KC
      try simp only [Act.put, List.setIfInBounds_toArray, List.set_cons_zero, List.set_cons_succ]
      refine wpAnyH_ready (rs := [16]) (by kernel_rfl) (by simp) ?_
      refine AllReadyH.cons rfl (fun KC hKC => ?_) AllReadyH.nil
      have Ea22 := Arr.alloc E4 (.cells #[.int .i64 (m : Nat)] 3)
      go_simp
      refine hKC.out _ _ (cells5 Ea22) (fun hHeld22 => ?_)
      clear hKC KC
      try simp only [Act.put, List.setIfInBounds_toArray, List.set_cons_zero, List.set_cons_succ]
      change wpAnyH _ _ _ _ _ _ _ _ (w4.alloc (.cells #[.int .i64 (m : Nat)] 3))
      have E22 := Arr.alloc E4 (.cells #[.int .i64 (m : Nat)] 3)
      have N22 := Arr.new w4 3 [.int .i64 (m : Nat)]
      have DK22 := D4.kept (w' := w4.alloc (.cells #[.int .i64 (m : Nat)] 3)) (by simp) (fun b hF => Below.heap_alloc _ _ b (D4.Flt b hF))
      have O22 := O4.alloc (.cells #[.int .i64 (m : Nat)] 3)
      have hoi22 := hoi.alloc (.cells #[.int .i64 (m : Nat)] 3)
      have GB22 := GB21.trans ((World.grownBy_alloc w4 (.cells #[.int .i64 (m : Nat)] 3) none).but _)
      obtain ⟨g22, hg22⟩ : ∃ x, x = w4.heap.size := ⟨_, rfl⟩
      obtain ⟨w22, hw22⟩ : ∃ x, x = w4.alloc (.cells #[.int .i64 (m : Nat)] 3) := ⟨_, rfl⟩
      rw [← hw22] at E22 N22 DK22 O22 hoi22 GB22 ⊢
      rw [← hg22] at N22 ⊢
      clear hw22 hg22
      refine wpAnyH_ready (rs := [17]) (by kernel_rfl) (by simp) ?_
      refine AllReadyH.cons rfl (fun KC hKC => ?_) AllReadyH.nil
      rw [if_pos (by rfl)]
      refine wp_append_one (some 37) rfl _ _ rfl hoi22 DK22.bb rfl g22 1 rfl m (by omega) N22 (by omega) (fun v' w23 hoi' hgr23 hloc23 => ?_)
      have E23 : Arr w23 k 98 [.slice (some ⟨gs, 0, none⟩) n n, .slice (some ⟨gl, 0, none⟩) n n, .slice Aw m cw, .map (some bm), .bool fu, .int .i64 left2] := (hgr23.block k E22.lt (fun e => hvk e.symm)).trans E22
      have hszg23 := GB22.size
      have GB23 := GB22.trans hgr23
      simp only [Act.put, List.setIfInBounds_toArray, List.set_cons_zero, List.set_cons_succ]
      refine hKC.out _ _ (cells5 E23) (fun hHeld23 => ?_)
      clear hKC KC
      try simp only [Act.put, List.setIfInBounds_toArray, List.set_cons_zero, List.set_cons_succ]
      refine wpAnyH_ready (rs := [18]) (by kernel_rfl) (by simp) ?_
      refine AllReadyH.cons rfl (fun KC hKC => ?_) AllReadyH.nil
      rw [if_pos (by rfl)]
      refine wp_update_gr none rfl _ _ _ rfl (by omega) D4.hm (by unfold maxLen; omega) hoi hback rfl rfl rfl GB23 hoi' (by simp; omega) (hloc23.imp id (fun h => ⟨_, h, hszg23⟩)) (fun w24 hm24 hg24 hsh24 => ?_)
      have E24 : Arr w24 k 98 [.slice (some ⟨gs, 0, none⟩) n n, .slice (some ⟨gl, 0, none⟩) n n, .slice Aw m cw, .map (some bm), .bool fu, .int .i64 left2] := (hg24.block k E23.lt (fun e => hkm (by injection e))).trans E23
      obtain ⟨DK24, OU24⟩ := D4.update hnm hshv GB23 hg24 hm24 (hloc23.imp id (fun h => ⟨_, h, hszg23⟩)) (fun g hg => (hoi'.1.lt g hg).2) hsh24
      simp only [Act.put, List.setIfInBounds_toArray, List.set_cons_zero, List.set_cons_succ]
      refine hKC.out _ _ (cells5 E24) (fun hHeld24 => ?_)
      clear hKC KC
      try simp only [Act.put, List.setIfInBounds_toArray, List.set_cons_zero, List.set_cons_succ]
      refine wpAnyH_done (by kernel_rfl) ?_ _
      clear hHeld
      have hs0 : w3.heap.size ≤ w4.heap.size := O4.size
      have Dz := DK24.more (F' := fun b => F b ∨ (w3.heap.size ≤ b ∧ b < w24.heap.size)) (fun b h => h.imp id (fun h => ⟨by omega, h.2⟩)) (fun b h => h.elim (fun h => DK24.Flt b (.inl h)) (fun h => h.2))
      have Oz := O4.then OU24 (fun _ h => .inl h)
      go_wp2_with fail
      go_meet
      exact ⟨rfl, _, rowIn_snoc (Hm.out ▸ hK.2.2) hat hoi.datum, Dz, Oz⟩
    · have Ea25 := Arr.alloc E4 (.cells #[.int .i64 (m : Nat)] 3)
      go_simp
      refine hKC.out _ _ (cells5 Ea25) (fun hHeld25 => ?_)
      clear hKC KC
      try simp only [Act.put, List.setIfInBounds_toArray, List.set_cons_zero, List.set_cons_succ]
      change wpAnyH _ _ _ _ _ _ _ _ (w4.alloc (.cells #[.int .i64 (m : Nat)] 3))
      have E25 := Arr.alloc E4 (.cells #[.int .i64 (m : Nat)] 3)
      have N25 := Arr.new w4 3 [.int .i64 (m : Nat)]
      have DK25 := D4.kept (w' := w4.alloc (.cells #[.int .i64 (m : Nat)] 3)) (by simp) (fun b hF => Below.heap_alloc _ _ b (D4.Flt b hF))
      have O25 := O4.alloc (.cells #[.int .i64 (m : Nat)] 3)
      obtain ⟨g25, hg25⟩ : ∃ x, x = w4.heap.size := ⟨_, rfl⟩
      obtain ⟨w25, hw25⟩ : ∃ x, x = w4.alloc (.cells #[.int .i64 (m : Nat)] 3) := ⟨_, rfl⟩
      rw [← hw25] at E25 N25 DK25 O25 ⊢
      rw [← hg25] at N25 ⊢
      clear hw25 hg25
      refine wpAnyH_ready (rs := [10]) (by kernel_rfl) (by simp) ?_
      refine AllReadyH.cons rfl (fun KC hKC => ?_) AllReadyH.nil
      rw [if_pos (by rfl)]
      refine wp_lookup_gr (some 30) rfl _ _ rfl base bm nm D rfl DK25.hm (by unfold maxLen; omega) a rfl (by omega) (fun v zs hat hoi hzl hback hshv => ?_)
      have hvk : v.ownBlock ≠ some k := fun e => hshv _ DK25.sh k e (.inl rfl)
      have GB26 : (w25).grownBy (w25) v.ownBlock := ⟨rfl, rfl, rfl, Nat.le_refl _, fun _ _ _ => rfl⟩
      simp only [Act.put, List.setIfInBounds_toArray, List.set_cons_zero, List.set_cons_succ]
      refine hKC.out _ _ (cells5 E25) (fun hHeld26 => ?_)
      clear hKC KC
      try simp only [Act.put, List.setIfInBounds_toArray, List.set_cons_zero, List.set_cons_succ]
      refine wpAnyH_ready (rs := [17]) (by kernel_rfl) (by simp) ?_
      refine AllReadyH.cons rfl (fun KC hKC => ?_) AllReadyH.nil
      rw [if_pos (by rfl)]
      refine wp_append_one (some 37) rfl _ _ rfl hoi DK25.bb rfl g25 1 rfl m (by omega) N25 (by omega) (fun v' w27 hoi' hgr27 hloc27 => ?_)
      have E27 : Arr w27 k 98 [.slice (some ⟨gs, 0, none⟩) n n, .slice (some ⟨gl, 0, none⟩) n n, .slice Aw m cw, .map (some bm), .bool fu, .int .i64 left2] := (hgr27.block k E25.lt (fun e => hvk e.symm)).trans E25
      have hszg27 := GB26.size
      have GB27 := GB26.trans hgr27
      simp only [Act.put, List.setIfInBounds_toArray, List.set_cons_zero, List.set_cons_succ]
      refine hKC.out _ _ (cells5 E27) (fun hHeld27 => ?_)
      clear hKC KC
      try simp only [Act.put, List.setIfInBounds_toArray, List.set_cons_zero, List.set_cons_succ]
      refine wpAnyH_ready (rs := [18]) (by kernel_rfl) (by simp) ?_
      refine AllReadyH.cons rfl (fun KC hKC => ?_) AllReadyH.nil
      rw [if_pos (by rfl)]
      refine wp_update_gr none rfl _ _ _ rfl (by omega) DK25.hm (by unfold maxLen; omega) hoi hback rfl rfl rfl GB27 hoi' (by simp; omega) (hloc27.imp id (fun h => ⟨_, h, hszg27⟩)) (fun w28 hm28 hg28 hsh28 => ?_)
      have E28 : Arr w28 k 98 [.slice (some ⟨gs, 0, none⟩) n n, .slice (some ⟨gl, 0, none⟩) n n, .slice Aw m cw, .map (some bm), .bool fu, .int .i64 left2] := (hg28.block k E27.lt (fun e => hkm (by injection e))).trans E27
      obtain ⟨DK28, OU28⟩ := DK25.update hnm hshv GB27 hg28 hm28 (hloc27.imp id (fun h => ⟨_, h, hszg27⟩)) (fun g hg => (hoi'.1.lt g hg).2) hsh28
      simp only [Act.put, List.setIfInBounds_toArray, List.set_cons_zero, List.set_cons_succ]
      refine hKC.out _ _ (cells5 E28) (fun hHeld28 => ?_)
      clear hKC KC
      try simp only [Act.put, List.setIfInBounds_toArray, List.set_cons_zero, List.set_cons_succ]
      refine wpAnyH_done (by kernel_rfl) ?_ _
      clear hHeld
      have hs0 : w3.heap.size ≤ w25.heap.size := O25.size
      have Dz := DK28.more (F' := fun b => F b ∨ (w3.heap.size ≤ b ∧ b < w28.heap.size)) (fun b h => h.imp id (fun h => ⟨by omega, h.2⟩)) (fun b h => h.elim (fun h => DK28.Flt b (.inl h)) (fun h => h.2))
      have Oz := O25.then OU28 (fun _ h => .inl h)
      go_wp2_with fail
      go_meet
      exact ⟨rfl, _, rowIn_snoc (Hm.out ▸ hK.2.2) hat hoi.datum, Dz, Oz⟩
  case rest =>
    obtain ⟨rfl, d, hrd, hD5, hO5⟩ := hcut
    obtain ⟨w5, hw5⟩ : ∃ x, x = wc := ⟨_, rfl⟩
    subst hw5
    have hlt3 := hR3.lt
    have R5 : Arr w5 w.heap.size 49 SL := hR3.only hO5 hgxF0
    have hsz5 := hO5.size
    have hsz0 := hO3F.size
    obtain ⟨F5, hF5⟩ : ∃ F5, F5 = (fun b => F b ∨ (w3.heap.size ≤ b ∧ b < w5.heap.size)) := ⟨_, rfl⟩
    rw [← hF5] at hD5
    have hF5i : ∀ b, F5 b → F b ∨ w3.heap.size ≤ b := fun b h => by rw [hF5] at h; exact h.imp id (fun h => h.1)
    have hgxF : ¬ F5 w.heap.size := fun e => (hF5i _ e).elim hgxF0 (fun h => by omega)
    have D5 := hD5
    have hkey := sec_int_keyed.key (Go.Maps.keyOf_int_mk (P := Try.prog) Try.underlying3 (a := ((a : Nat) : Int)) (WalkArith.wf_i64 (by omega)))
    have hIs : Go.Maps.IsMap D := by obtain ⟨es, clock, _, _, _, e, _⟩ := hD3.hm; exact ⟨_, e⟩
    have hfinal : ∀ (wz : World) (v2 : Value) (F' : Nat → Prop), DkW wz F' k gs gl bm v2 base (nm + 1) n (S.set a s) L (W ++ [(a, s, false)]) (D.put (.int .i64 (a : Nat)) d) fu left2 → (∀ b, F' b → F5 b ∨ w5.heap.size ≤ b) → Only F5 w5 wz → WritePost F k n (S.set a s) L (W ++ [(a, s, false)]) fu left2 w (.returned (.int .i64 0)) wz := fun wz v2 F' Dz hF' Oz => by
      have hOw : Only F w wz := (hO3F.trans hO5).then Oz (fun i hi => (hF5i i hi).imp id (fun h => by omega))
      refine ⟨rfl, ⟨gs, gl, bm, v2, base, nm + 1, _, Dz.more (F' := newF F w wz) (fun b h => ?_) (fun b h => ?_), hK.put hIs (a, s, false) d hkey (by rw [Hm.out]; exact hrd), by simp; omega, fun x hx => ?_⟩, hOw⟩
      · have hlt := Dz.Flt b h
        rcases hF' b h with h | h
        · rcases hF5i b h with h | h
          · exact .inl h
          · exact .inr ⟨by omega, hlt⟩
        · exact .inr ⟨by omega, hlt⟩
      · rcases h with h | h
        · exact Nat.lt_of_lt_of_le (hD.Flt b h) hOw.size
        · exact h.2
      · rcases List.mem_append.1 hx with hx | hx
        · exact hgone x hx
        · rw [List.mem_singleton] at hx; rw [hx]
    have Hfinal := Lib.hid hfinal
    clear hfinal hkey hIs hF5 hF5i hlt3 hR3 hD3 hO5 hO3F hD hK hgone
    go_wp2_with fail
    obtain ⟨w6, hw6⟩ : ∃ x, x = w5.drew := ⟨_, rfl⟩
    have D6 : DkW w6 F5 k gs gl bm (.slice Aw m cw) base (nm + 1) n (S.set a s) L W (D.put (.int .i64 (a : Nat)) d) fu left2 := by rw [hw6]; exact D5.drew
    have E6 := D6.hk
    have R6 : Arr w6 w.heap.size 49 SL := by rw [hw6]; exact R5.drewN 1
    have O6 : Only F5 w5 w6 := by rw [hw6]; exact (Only.refl _ _).drewN 1
    refine wp_region_held_drew (S := fun w' => w'.rangeAt w.heap.size 0 SL) (by kernel_rfl) (Arr.rangeD (Arr.drewN R5 1)) (fun hHeld => ?_)
    rw [← hw6]
    try rw [← hw6] at hHeld
    clear hw6
    refine dskH_take (i := 0) (v := .pointer (some ⟨k, 0, none⟩)) (some 38) rfl rfl (by kernel_rfl) (by kernel_rfl) (by kernel_rfl) (fun _ _ _ h => h) (Or.inl ⟨by rfl, fun _ hw => by rfl⟩) (by assumption) ?_
    simp only [Act.put, List.setIfInBounds_toArray, List.set_cons_zero, List.set_cons_succ]
    refine dskH_take (i := 1) (v := .pointer (some ⟨k, 0, none⟩)) (some 39) rfl rfl (by kernel_rfl) (by kernel_rfl) (by kernel_rfl) (fun _ _ _ h => h) (Or.inl ⟨by rfl, fun _ hw => by rfl⟩) (by assumption) ?_
    simp only [Act.put, List.setIfInBounds_toArray, List.set_cons_zero, List.set_cons_succ]
    refine dskH_take (i := 2) (v := .pointer (some ⟨k, 0, none⟩)) (some 40) rfl rfl (by kernel_rfl) (by kernel_rfl) (by kernel_rfl) (fun _ _ _ h => h) (Or.inl ⟨by rfl, fun _ hw => by go_simp⟩) (by assumption) ?_
    simp only [Act.put, List.setIfInBounds_toArray, List.set_cons_zero, List.set_cons_succ]
    refine dskH_take (i := 3) (v := .pointer (some ⟨k, 2, none⟩)) (some 41) rfl rfl (by kernel_rfl) (by kernel_rfl) (by kernel_rfl) (fun _ _ _ h => h) (Or.inl ⟨by rfl, fun _ hw => by go_simp⟩) (by assumption) ?_
    simp only [Act.put, List.setIfInBounds_toArray, List.set_cons_zero, List.set_cons_succ]
    refine dskH_take (i := 5) (v := .int .i64 (a : Nat)) (some 43) rfl rfl (by kernel_rfl) (by kernel_rfl) (by kernel_rfl) (fun _ _ _ h => h) (Or.inl ⟨by rfl, fun _ hw => by rfl⟩) (by assumption) ?_
    simp only [Act.put, List.setIfInBounds_toArray, List.set_cons_zero, List.set_cons_succ]
    refine dskH_take (i := 6) (some 44) rfl rfl (by kernel_rfl) (by kernel_rfl) (by kernel_rfl) (fun _ _ _ h => h) (yieldsIf_load_mid (by rfl) 49 (.tmp 5) rfl w.heap.size 0 rfl SL _ (fun _ h => h) Try.underlying49 rfl Hz.out) (by assumption) ?_
    simp only [Act.put, List.setIfInBounds_toArray, List.set_cons_zero, List.set_cons_succ]
    refine dskH_take (i := 7) (some 45) rfl rfl (by kernel_rfl) (by kernel_rfl) (by kernel_rfl) (fun _ _ _ h => h) (yieldsIf_build (by rfl) 102 _ rfl [(0, .int .i64 (a : Nat)), (1, .agg SL.toArray)] rfl WL.toArray HWb.out) (by assumption) ?_
    simp only [Act.put, List.setIfInBounds_toArray, List.set_cons_zero, List.set_cons_succ]
    refine wpAnyH_ready (rs := [4, 8]) (by kernel_rfl) (by simp) ?_
    refine AllReadyH.cons rfl (fun KC hKC => ?_) (AllReadyH.cons rfl (fun KC hKC => ?_) AllReadyH.nil)
    · have c42 : (w6).cell? ⟨k, 2, none⟩ = some (.slice Aw m cw) := by rw [E6.cell]; rfl
      go_simp
      refine hKC.out _ _ (Arr.rangeD R6) (fun hHeld21 => ?_)
      clear hKC KC
      try simp only [Act.put, List.setIfInBounds_toArray, List.set_cons_zero, List.set_cons_succ]
      clear c42
      refine wpAnyH_ready (rs := [8]) (by kernel_rfl) (by simp) ?_
      refine AllReadyH.cons rfl (fun KC hKC => ?_) AllReadyH.nil
      have Rg22 := R6.alloc (.cells WL.toArray 102)
      rw [if_pos (by rfl)]
      refine wp_build_wr (some 46) rfl _ rfl WL HWl.out rfl ?_
      simp only [Act.put, List.setIfInBounds_toArray, List.set_cons_zero, List.set_cons_succ]
      refine hKC.out _ _ (Arr.rangeD Rg22) (fun hHeld22 => ?_)
      clear hKC KC
      try simp only [Act.put, List.setIfInBounds_toArray, List.set_cons_zero, List.set_cons_succ]
      have E22 := Arr.alloc E6 (.cells WL.toArray 102)
      have N22 := Arr.new w6 102 WL
      have R22 := R6.alloc (.cells WL.toArray 102)
      have DK22 := D6.kept (w' := w6.alloc (.cells WL.toArray 102)) (by simp) (fun b hF => Below.heap_alloc _ _ b (D6.Flt b hF))
      have O22 := O6.alloc (.cells WL.toArray 102)
      obtain ⟨g22, hg22⟩ : ∃ x, x = w6.heap.size := ⟨_, rfl⟩
      obtain ⟨w22, hw22⟩ : ∃ x, x = w6.alloc (.cells WL.toArray 102) := ⟨_, rfl⟩
      rw [← hw22] at E22 N22 R22 DK22 O22 ⊢
      rw [← hg22] at N22 ⊢
      rw [HWL.out] at N22
      clear hw22 hg22
      refine wpAnyH_ready (rs := [9]) (by kernel_rfl) (by simp) ?_
      refine AllReadyH.cons rfl (fun KC hKC => ?_) AllReadyH.nil
      rw [if_pos (by rfl)]
      refine wp_append_wr (some 47) rfl _ _ rfl DK22.hw rfl g22 1 rfl (a, s, false) hs64 N22 (by rw [Hm.out]; omega) (fun v2 w23 hw23 hgr23 hloc23 => ?_)
      have E23 : Arr w23 k 98 [.slice (some ⟨gs, 0, none⟩) n n, .slice (some ⟨gl, 0, none⟩) n n, .slice Aw m cw, .map (some bm), .bool fu, .int .i64 left2] := (hgr23.block k E22.lt (fun e => DK22.wk e.symm)).trans E22
      have R23 : Arr w23 w.heap.size 49 SL := (hgr23.block w.heap.size R22.lt (fun e => hgxF (DK22.Fw w.heap.size e.symm))).trans R22
      obtain ⟨A2, c2, rfl⟩ := row_form hw23 (m := m + 1) (by rw [List.length_append, Hm.out]; rfl)
      simp only [Act.put, List.setIfInBounds_toArray, List.set_cons_zero, List.set_cons_succ]
      refine hKC.out _ _ (Arr.rangeD R23) (fun hHeld23 => ?_)
      clear hKC KC
      try simp only [Act.put, List.setIfInBounds_toArray, List.set_cons_zero, List.set_cons_succ]
      refine dskH_take (i := 10) (v := .pointer (some ⟨k, 0, none⟩)) (some 48) rfl rfl (by kernel_rfl) (by kernel_rfl) (by kernel_rfl) (fun _ _ _ h => h) (Or.inl ⟨by rfl, fun _ hw => by go_simp⟩) (by assumption) ?_
      simp only [Act.put, List.setIfInBounds_toArray, List.set_cons_zero, List.set_cons_succ]
      refine dskH_take (i := 11) (v := .pointer (some ⟨k, 2, none⟩)) (some 49) rfl rfl (by kernel_rfl) (by kernel_rfl) (by kernel_rfl) (fun _ _ _ h => h) (Or.inl ⟨by rfl, fun _ hw => by go_simp⟩) (by assumption) ?_
      simp only [Act.put, List.setIfInBounds_toArray, List.set_cons_zero, List.set_cons_succ]
      refine wpAnyH_ready (rs := [12]) (by kernel_rfl) (by simp) ?_
      refine AllReadyH.cons rfl (fun KC hKC => ?_) AllReadyH.nil
      have hc2 : (w23).cell? ⟨k, 2, none⟩ = some (.slice Aw m cw) := by rw [E23.cell]; rfl
      have hf2 := Arr.frozen E23 2
      have Ez24 := Arr.set E23 2 (.slice A2 (m + 1) c2)
      have Rz24 := Arr.setOther R23 (p := ⟨k, 2, none⟩) (fun e => hgxk e) (.slice A2 (m + 1) c2)
      go_simp
      refine hKC.out _ _ (Arr.rangeD Rz24) (fun hHeld24 => ?_)
      clear hKC KC
      try simp only [Act.put, List.setIfInBounds_toArray, List.set_cons_zero, List.set_cons_succ]
      obtain ⟨wz, hwz⟩ : ∃ x, x = w23.setCell ⟨k, 2, none⟩ (.slice A2 (m + 1) c2) := ⟨_, rfl⟩
      have hOz : Only (fun b => b = k) w23 wz := by rw [hwz]; exact (Only.refl (fun b => b = k) _).setCell (p := ⟨k, 2, none⟩) (.inl rfl) _
      have hsz : wz.heap.size = w23.heap.size := by rw [hwz]; simp [World.setCell]
      rw [← hwz] at Ez24 ⊢
      clear hwz
      have Oz := (O22.then (World.grownBy.only hgr23 (R := F5) (fun g hg => DK22.Fw g hg)) (fun i hi => .inl hi)).then hOz (R' := fun b => b = k) (fun i hi => .inl (hi ▸ D5.Fk))
      have hszg := hgr23.size
      have Dz := DK22.wrote (x := (a, s, false)) (w2 := wz) ⟨ha, hs64⟩ hWN (by omega) (fun b hb h1 h2 => (hOz.block b (Nat.lt_of_lt_of_le hb hszg) h1).trans (hgr23.block b hb (fun e => h2 e.symm))) Ez24 (by have h := hw23; exact ownsRow_only h hOz (fun g hg e => wk_new DK22.wk (DK22.Flt k DK22.Fk) hloc23 (e ▸ hg))) (by rcases hloc23 with h | h; exact .inl h; exact .inr ⟨_, h, Nat.le_refl _, by have hl := (World.ownsRow.lt hw23 _ h).2; omega⟩)
      refine wpAnyH_done (by kernel_rfl) ?_ _
      clear hHeld
      go_wp2_with fail
      go_ret
      exact Hfinal.out wz _ _ Dz (fun b h => h.imp id (fun h => Nat.le_trans O22.size h.1)) Oz
    · have Rg25 := R6.alloc (.cells WL.toArray 102)
      rw [if_pos (by rfl)]
      refine wp_build_wr (some 46) rfl _ rfl WL HWl.out rfl ?_
      simp only [Act.put, List.setIfInBounds_toArray, List.set_cons_zero, List.set_cons_succ]
      refine hKC.out _ _ (Arr.rangeD Rg25) (fun hHeld25 => ?_)
      clear hKC KC
      try simp only [Act.put, List.setIfInBounds_toArray, List.set_cons_zero, List.set_cons_succ]
      have E25 := Arr.alloc E6 (.cells WL.toArray 102)
      have N25 := Arr.new w6 102 WL
      have R25 := R6.alloc (.cells WL.toArray 102)
      have DK25 := D6.kept (w' := w6.alloc (.cells WL.toArray 102)) (by simp) (fun b hF => Below.heap_alloc _ _ b (D6.Flt b hF))
      have O25 := O6.alloc (.cells WL.toArray 102)
      obtain ⟨g25, hg25⟩ : ∃ x, x = w6.heap.size := ⟨_, rfl⟩
      obtain ⟨w25, hw25⟩ : ∃ x, x = w6.alloc (.cells WL.toArray 102) := ⟨_, rfl⟩
      rw [← hw25] at E25 N25 R25 DK25 O25 ⊢
      rw [← hg25] at N25 ⊢
      rw [HWL.out] at N25
      clear hw25 hg25
      refine wpAnyH_ready (rs := [4]) (by kernel_rfl) (by simp) ?_
      refine AllReadyH.cons rfl (fun KC hKC => ?_) AllReadyH.nil
      have c42 : (w25).cell? ⟨k, 2, none⟩ = some (.slice Aw m cw) := by rw [E25.cell]; rfl
      go_simp
      refine hKC.out _ _ (Arr.rangeD R25) (fun hHeld26 => ?_)
      clear hKC KC
      try simp only [Act.put, List.setIfInBounds_toArray, List.set_cons_zero, List.set_cons_succ]
      clear c42
      refine wpAnyH_ready (rs := [9]) (by kernel_rfl) (by simp) ?_
      refine AllReadyH.cons rfl (fun KC hKC => ?_) AllReadyH.nil
      rw [if_pos (by rfl)]
      refine wp_append_wr (some 47) rfl _ _ rfl DK25.hw rfl g25 1 rfl (a, s, false) hs64 N25 (by rw [Hm.out]; omega) (fun v2 w27 hw27 hgr27 hloc27 => ?_)
      have E27 : Arr w27 k 98 [.slice (some ⟨gs, 0, none⟩) n n, .slice (some ⟨gl, 0, none⟩) n n, .slice Aw m cw, .map (some bm), .bool fu, .int .i64 left2] := (hgr27.block k E25.lt (fun e => DK25.wk e.symm)).trans E25
      have R27 : Arr w27 w.heap.size 49 SL := (hgr27.block w.heap.size R25.lt (fun e => hgxF (DK25.Fw w.heap.size e.symm))).trans R25
      obtain ⟨A2, c2, rfl⟩ := row_form hw27 (m := m + 1) (by rw [List.length_append, Hm.out]; rfl)
      simp only [Act.put, List.setIfInBounds_toArray, List.set_cons_zero, List.set_cons_succ]
      refine hKC.out _ _ (Arr.rangeD R27) (fun hHeld27 => ?_)
      clear hKC KC
      try simp only [Act.put, List.setIfInBounds_toArray, List.set_cons_zero, List.set_cons_succ]
      refine dskH_take (i := 10) (v := .pointer (some ⟨k, 0, none⟩)) (some 48) rfl rfl (by kernel_rfl) (by kernel_rfl) (by kernel_rfl) (fun _ _ _ h => h) (Or.inl ⟨by rfl, fun _ hw => by go_simp⟩) (by assumption) ?_
      simp only [Act.put, List.setIfInBounds_toArray, List.set_cons_zero, List.set_cons_succ]
      refine dskH_take (i := 11) (v := .pointer (some ⟨k, 2, none⟩)) (some 49) rfl rfl (by kernel_rfl) (by kernel_rfl) (by kernel_rfl) (fun _ _ _ h => h) (Or.inl ⟨by rfl, fun _ hw => by go_simp⟩) (by assumption) ?_
      simp only [Act.put, List.setIfInBounds_toArray, List.set_cons_zero, List.set_cons_succ]
      refine wpAnyH_ready (rs := [12]) (by kernel_rfl) (by simp) ?_
      refine AllReadyH.cons rfl (fun KC hKC => ?_) AllReadyH.nil
      have hc2 : (w27).cell? ⟨k, 2, none⟩ = some (.slice Aw m cw) := by rw [E27.cell]; rfl
      have hf2 := Arr.frozen E27 2
      have Ez28 := Arr.set E27 2 (.slice A2 (m + 1) c2)
      have Rz28 := Arr.setOther R27 (p := ⟨k, 2, none⟩) (fun e => hgxk e) (.slice A2 (m + 1) c2)
      go_simp
      refine hKC.out _ _ (Arr.rangeD Rz28) (fun hHeld28 => ?_)
      clear hKC KC
      try simp only [Act.put, List.setIfInBounds_toArray, List.set_cons_zero, List.set_cons_succ]
      obtain ⟨wz, hwz⟩ : ∃ x, x = w27.setCell ⟨k, 2, none⟩ (.slice A2 (m + 1) c2) := ⟨_, rfl⟩
      have hOz : Only (fun b => b = k) w27 wz := by rw [hwz]; exact (Only.refl (fun b => b = k) _).setCell (p := ⟨k, 2, none⟩) (.inl rfl) _
      have hsz : wz.heap.size = w27.heap.size := by rw [hwz]; simp [World.setCell]
      rw [← hwz] at Ez28 ⊢
      clear hwz
      have Oz := (O25.then (World.grownBy.only hgr27 (R := F5) (fun g hg => DK25.Fw g hg)) (fun i hi => .inl hi)).then hOz (R' := fun b => b = k) (fun i hi => .inl (hi ▸ D5.Fk))
      have hszg := hgr27.size
      have Dz := DK25.wrote (x := (a, s, false)) (w2 := wz) ⟨ha, hs64⟩ hWN (by omega) (fun b hb h1 h2 => (hOz.block b (Nat.lt_of_lt_of_le hb hszg) h1).trans (hgr27.block b hb (fun e => h2 e.symm))) Ez28 (by have h := hw27; exact ownsRow_only h hOz (fun g hg e => wk_new DK25.wk (DK25.Flt k DK25.Fk) hloc27 (e ▸ hg))) (by rcases hloc27 with h | h; exact .inl h; exact .inr ⟨_, h, Nat.le_refl _, by have hl := (World.ownsRow.lt hw27 _ h).2; omega⟩)
      refine wpAnyH_done (by kernel_rfl) ?_ _
      clear hHeld
      go_wp2_with fail
      go_ret
      exact Hfinal.out wz _ _ Dz (fun b h => h.imp id (fun h => Nat.le_trans O25.size h.1)) Oz


end Go.Proofs.Ytkepfigoeaheaaa

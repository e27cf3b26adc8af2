/-
  A disk's Set.
-/
import Derived.Test.YtccccpadnaocfaaDiskWrite
namespace Go.Proofs.Ytccccpadnaocfaa
open Go.RowKit
set_option linter.unusedVariables false
set_option linter.unusedSimpArgs false

def SetPost (k gs gl bm n : Nat) (vw : Value) (a : Nat) (s : List UInt8) (S L : List (List UInt8)) (W : List WrF) (w : World) (e : Ending) (w' : World) : Prop :=
  e = .returned (.int .i64 0) ∧ Arr w' gs 37 (secC (S.set a s)) ∧ Arr w' gl 37 (secC (L.set a s)) ∧ Only (fun b => b = gs ∨ b = gl ∨ b = bm ∨ (vw.ownBlock = some b ∧ 0 < W.length)) w w' ∧
    ∃ es clock es', w.heap[bm]? = some (.map es clock) ∧ w'.heap[bm]? = some (.map es' clock) ∧ es'.size ≤ es.size

theorem wpList_delete_dk {P : Program} {ops : Array Oper} {rest : List Oper} {o : Oper} {a : Act} {w : World} {Q : Exit → Act → World → Prop} (hg : o.guard = none) (m x : Operand) (t k e : TypeId) (ho : o.op = .call { callee := .builtin .delete, args := #[m, x], argTypes := #[t, k] })
    (K : Go.Maps.Keyed P k) (ht : P.underlying t = some (.map k e)) (b : Nat) (es : Array MapEntry) (clock : Nat) (R : Value → Option (DataW Unit × List MemPlace)) (hm : a.eval m = .map (some b)) (hb : w.heap[b]? = some (.map es clock)) (F : Go.WideElems.Fit P k R es clock) (key : Value) (kl : Lit) (hx : a.eval x = key) (hkey : keyOf P k key = some kl)
    (h : ∀ es', es'.size ≤ es.size → wpList P ops Q rest (a.put o.dst (.tuple #[])) (Go.ChangeMaps.setBlock w b (.map es' clock))) : wpList P ops Q (o :: rest) a w := by
  refine wpList_plain hg fun K' hK' => ?_
  obtain ⟨es', hrun, F', hle, hdel, _⟩ := Go.Maps.fit_drop (ty := o.type) K ht hb F hkey
  unfold Oper.wp
  simp [execOp, ho, resolve, invoke, builtin, hm, hx, hrun, Result.andThen]
  exact hK' _ _ (h es' hle)

set_option maxHeartbeats 16000000 in
set_option maxRecDepth 100000 in
theorem set_any (F : Nat → Prop) (k gs gl bm : Nat) (vw : Value) (base nm n : Nat) (S L : List (List UInt8)) (W : List WrF) (D : DataW Unit) (fu : Bool) (left : Int) (a : Nat) (s : List UInt8) (SL : List Value) (w : World) (hD : DkW w F k gs gl bm vw base nm n S L W D fu left) (hR : RowsIn D W.length) (ha : a < n) (hs64 : s.length = 64) (hSL : SL = Lib.byteCells s) :
    Calls Try.prog 26 #[.pointer (some ⟨k, 0, none⟩), .int .i64 (a : Nat), .agg SL.toArray] w (SetPost k gs gl bm n vw a s S L W w) := by
  have hn2 := hD.n2
  have Hl := Lib.hid (show SL.length = 64 by rw [hSL, Lib.byteCells_length]; exact hs64)
  have Hi := Lib.hid (show (Try.prog.info? 37).map (·.size) = some SL.toArray.size by rw [List.size_toArray, Hl.out]; exact secInfo)
  have Hz := Lib.hid (show (Try.prog.info? 37).map (·.size) = some SL.length by rw [Hl.out]; exact secInfo)
  have H1 := Lib.hid (show SL.toArray.all (·.oneCell') = true by rw [hSL]; exact sec_one _)
  have HSL := Lib.hid hSL
  have hgxF : ¬ F w.heap.size := fun e => by have := hD.Flt w.heap.size e; omega
  obtain ⟨w1, hw1⟩ : ∃ x, x = w.alloc (.cells SL.toArray 37) := ⟨_, rfl⟩
  have hD1 : DkW w1 F k gs gl bm vw base nm n S L W D fu left := by rw [hw1]; exact hD.kept (by simp) (fun b hF => Below.heap_alloc _ _ b (hD.Flt b hF))
  have hb1 : Below w.heap.size w w1 := by rw [hw1]; exact (Below.refl _ _).alloc (Nat.le_refl _) _
  have hR1 : Arr w1 w.heap.size 37 SL := by rw [hw1]; exact Arr.new w _ _
  have HW1 := Lib.hid hw1
  clear hSL hw1
  go_enter Try.func26, Try.ntmps26
  go_upto_region 1 with fail
  change Code.wp _ _ _ _ (w.alloc (.cells SL.toArray 37))
  rw [← HW1.out]
  clear HW1
  go_wp2_with fail
  refine Calls.mono (has_yes k gs n a w1 hD1.c0 ha hn2) ?_
  rintro e wq ⟨rfl, rfl⟩
  go_wp2_with fail
  obtain ⟨wd, hwd⟩ : ∃ x, x = wq.drew := ⟨_, rfl⟩
  have hDd : DkW wd F k gs gl bm vw base nm n S L W D fu left := by rw [hwd]; exact hD1.drew
  have hRd : Arr wd w.heap.size 37 SL := by rw [hwd]; exact hR1.drewN 1
  have hbd : Below w.heap.size w wd := by rw [hwd]; exact Below.dN hb1 1
  have hoff : a * 64 + 64 ≤ (secC S).length := by rw [secC_length hD.s64, hD.lS]; omega
  have hofl : a * 64 + 64 ≤ (secC L).length := by rw [secC_length hD.l64, hD.lL]; omega
  have hth : wd.there gs (a * 64) SL.toArray.size := by rw [List.size_toArray, Hl.out]; exact there_of_arr hDd.hs hoff
  obtain ⟨wA, hwA⟩ : ∃ x, x = wd.setCells gs (a * 64) SL := ⟨_, rfl⟩
  have hAs : Arr wA gs 37 (secC (S.set a s)) := by
    rw [hwA, ← secC_set hD.s64 (by rw [hD.lS]; exact ha) s hs64, ← HSL.out]
    exact Arr.setIn SL (a * 64) _ wd hDd.hs (by rw [Hl.out]; exact hoff)
  have hOA : Only (fun b => b = gs) wd wA := by rw [hwA]; exact Only.setIn (R := fun b => b = gs) rfl SL (a * 64) wd (Only.refl _ _)
  have hszA : wA.heap.size = wd.heap.size := by rw [hwA]; exact setCells_size _ _ _ _
  have hAl : Arr wA gl 37 (secC L) := hDd.hl.only hOA (fun e => hD.sl e.symm)
  have htl : wA.there gl (a * 64) SL.toArray.size := by rw [List.size_toArray, Hl.out]; exact there_of_arr hAl hofl
  obtain ⟨wB, hwB⟩ : ∃ x, x = wA.setCells gl (a * 64) SL := ⟨_, rfl⟩
  have hBl : Arr wB gl 37 (secC (L.set a s)) := by
    rw [hwB, ← secC_set hD.l64 (by rw [hD.lL]; exact ha) s hs64, ← HSL.out]
    exact Arr.setIn SL (a * 64) _ wA hAl (by rw [Hl.out]; exact hofl)
  have hOB : Only (fun b => b = gl) wA wB := by rw [hwB]; exact Only.setIn (R := fun b => b = gl) rfl SL (a * 64) wA (Only.refl _ _)
  have hszB : wB.heap.size = wA.heap.size := by rw [hwB]; exact setCells_size _ _ _ _
  have hBs : Arr wB gs 37 (secC (S.set a s)) := hAs.only hOB hD.sl
  have hOdB : Only (fun b => b = gs ∨ b = gl) wd wB := (hOA.more (fun _ _ h => .inl h)).trans (hOB.more (fun _ _ h => .inr h))
  have hkA : Arr wA k 69 [.slice (some ⟨gs, 0, none⟩) n n, .slice (some ⟨gl, 0, none⟩) n n, vw, .map (some bm), .bool fu, .int .i64 left] := hDd.hk.only hOA hD.ks
  have hkB := hkA.only hOB hD.kl
  have hXA : Arr wA w.heap.size 37 SL := hRd.only hOA (fun e => hgxF (e ▸ hD.Fs))
  have hXB : Arr wB w.heap.size 37 SL := hXA.only hOB (fun e => hgxF (e ▸ hD.Fl))
  have EwA : Arr wA k 69 [.slice (some ⟨gs, 0, none⟩) n n, .slice (some ⟨gl, 0, none⟩) n n, vw, .map (some bm), .bool fu, .int .i64 left] ∧ Arr wA w.heap.size 37 SL := ⟨hkA, hXA⟩
  have EwB : Arr wB k 69 [.slice (some ⟨gs, 0, none⟩) n n, .slice (some ⟨gl, 0, none⟩) n n, vw, .map (some bm), .bool fu, .int .i64 left] ∧ Arr wB w.heap.size 37 SL := ⟨hkB, hXB⟩
  have hkeep : ∀ {w' : World}, (Arr w' k 69 [.slice (some ⟨gs, 0, none⟩) n n, .slice (some ⟨gl, 0, none⟩) n n, vw, .map (some bm), .bool fu, .int .i64 left] ∧ Arr w' w.heap.size 37 SL) → w'.cell? ⟨k, 0, none⟩ = some (.slice (some ⟨gs, 0, none⟩) n n) ∧ w'.cell? ⟨k, 1, none⟩ = some (.slice (some ⟨gl, 0, none⟩) n n) ∧ w'.rangeAt w.heap.size 0 SL :=
    fun h => ⟨by rw [h.1.cell]; rfl, by rw [h.1.cell]; rfl, h.2.rangeD⟩
  have hDB : DkW wB F k gs gl bm vw base nm n (S.set a s) (L.set a s) W D fu left := hDd.turn (by omega) (fun b hF h1 h2 h3 => hOdB.block b (hDd.Flt b hF) (fun h => h.elim h2 h3)) hkB hBs hBl (by rw [List.length_set]; exact hD.lS) (by rw [List.length_set]; exact hD.lL)
    (fun x hx => (List.mem_or_eq_of_mem_set hx).elim (hD.s64 x) (fun e => e ▸ hs64)) (fun x hx => (List.mem_or_eq_of_mem_set hx).elim (hD.l64 x) (fun e => e ▸ hs64)) hD.f0 hD.f1
  have hOw : Only (fun b => b = gs ∨ b = gl ∨ b = bm ∨ (vw.ownBlock = some b ∧ 0 < W.length)) w wB := (Only.of_below hbd).then hOdB (fun i hi => .inl (hi.elim .inl (fun h => .inr (.inl h))))
  have hOwS : Only (fun b => b = gs ∨ b = gl) w wB := (Only.of_below hbd).then hOdB (fun i hi => .inl hi)
  refine wp_region_held_drew (S := fun w' => w'.cell? ⟨k, 0, none⟩ = some (.slice (some ⟨gs, 0, none⟩) n n) ∧ w'.cell? ⟨k, 1, none⟩ = some (.slice (some ⟨gl, 0, none⟩) n n) ∧ w'.rangeAt w.heap.size 0 SL) (by kernel_rfl) (hkeep ⟨hD1.drew.hk, hR1.drewN 1⟩) (fun hHeld => ?_)
  rw [← hwd]
  try rw [← hwd] at hHeld
  clear hwd
  refine dskH_take (i := 0) (v := .pointer (some ⟨k, 0, none⟩)) (some 13) rfl rfl (by kernel_rfl) (by kernel_rfl) (by kernel_rfl) (fun _ _ _ h => h) (Or.inl ⟨by rfl, fun _ hw => by rfl⟩) (by assumption) ?_
  simp only [Act.put, List.setIfInBounds_toArray, List.set_cons_zero, List.set_cons_succ]
  refine dskH_take (i := 1) (v := .pointer (some ⟨k, 0, none⟩)) (some 14) rfl rfl (by kernel_rfl) (by kernel_rfl) (by kernel_rfl) (fun _ _ _ h => h) (Or.inl ⟨by rfl, fun _ hw => by go_simp⟩) (by assumption) ?_
  simp only [Act.put, List.setIfInBounds_toArray, List.set_cons_zero, List.set_cons_succ]
  refine dskH_take (i := 2) (v := .pointer (some ⟨k, 0, none⟩)) (some 15) rfl rfl (by kernel_rfl) (by kernel_rfl) (by kernel_rfl) (fun _ _ _ h => h) (Or.inl ⟨by rfl, fun _ hw => by go_simp⟩) (by assumption) ?_
  simp only [Act.put, List.setIfInBounds_toArray, List.set_cons_zero, List.set_cons_succ]
  refine dskH_take (i := 3) (v := .slice (some ⟨gs, 0, none⟩) n n) (some 16) rfl rfl (by kernel_rfl) (by kernel_rfl) (by kernel_rfl) (fun _ _ _ h => h) (Or.inl ⟨by rfl, fun _ hw => by (have hw2 := hw.1; go_simp)⟩) (by assumption) ?_
  simp only [Act.put, List.setIfInBounds_toArray, List.set_cons_zero, List.set_cons_succ]
  refine dskH_take (i := 4) (v := .int .i64 (a : Nat)) (some 17) rfl rfl (by kernel_rfl) (by kernel_rfl) (by kernel_rfl) (fun _ _ _ h => h) (Or.inl ⟨by rfl, fun _ hw => by rfl⟩) (by assumption) ?_
  simp only [Act.put, List.setIfInBounds_toArray, List.set_cons_zero, List.set_cons_succ]
  refine dskH_take (i := 5) (v := .pointer (some ⟨k, 0, none⟩)) (some 18) rfl rfl (by kernel_rfl) (by kernel_rfl) (by kernel_rfl) (fun _ _ _ h => h) (Or.inl ⟨by rfl, fun _ hw => by rfl⟩) (by assumption) ?_
  simp only [Act.put, List.setIfInBounds_toArray, List.set_cons_zero, List.set_cons_succ]
  refine dskH_take (i := 6) (v := .pointer (some ⟨k, 0, none⟩)) (some 19) rfl rfl (by kernel_rfl) (by kernel_rfl) (by kernel_rfl) (fun _ _ _ h => h) (Or.inl ⟨by rfl, fun _ hw => by go_simp⟩) (by assumption) ?_
  simp only [Act.put, List.setIfInBounds_toArray, List.set_cons_zero, List.set_cons_succ]
  refine dskH_take (i := 7) (v := .pointer (some ⟨k, 1, none⟩)) (some 20) rfl rfl (by kernel_rfl) (by kernel_rfl) (by kernel_rfl) (fun _ _ _ h => h) (Or.inl ⟨by rfl, fun _ hw => by go_simp⟩) (by assumption) ?_
  simp only [Act.put, List.setIfInBounds_toArray, List.set_cons_zero, List.set_cons_succ]
  refine dskH_take (i := 8) (v := .slice (some ⟨gl, 0, none⟩) n n) (some 21) rfl rfl (by kernel_rfl) (by kernel_rfl) (by kernel_rfl) (fun _ _ _ h => h) (Or.inl ⟨by rfl, fun _ hw => by (have hw2 := hw.2.1; go_simp)⟩) (by assumption) ?_
  simp only [Act.put, List.setIfInBounds_toArray, List.set_cons_zero, List.set_cons_succ]
  refine dskH_take (i := 9) (v := .int .i64 (a : Nat)) (some 22) rfl rfl (by kernel_rfl) (by kernel_rfl) (by kernel_rfl) (fun _ _ _ h => h) (Or.inl ⟨by rfl, fun _ hw => by rfl⟩) (by assumption) ?_
  simp only [Act.put, List.setIfInBounds_toArray, List.set_cons_zero, List.set_cons_succ]
  refine dskH_take (i := 10) (some 23) rfl rfl (by kernel_rfl) (by kernel_rfl) (by kernel_rfl) (fun _ _ _ h => h) (yieldsIf_load_mid (by rfl) 37 (.tmp 5) rfl w.heap.size 0 rfl SL _ (fun _ h => h.2.2) Try.underlying37 rfl Hz.out) (by assumption) ?_
  simp only [Act.put, List.setIfInBounds_toArray, List.set_cons_zero, List.set_cons_succ]
  refine dskH_take (i := 11) (some 24) rfl rfl (by kernel_rfl) (by kernel_rfl) (by kernel_rfl) (fun _ _ _ h => h) (yieldsIf_load_mid (by rfl) 37 (.tmp 5) rfl w.heap.size 0 rfl SL _ (fun _ h => h.2.2) Try.underlying37 rfl Hz.out) (by assumption) ?_
  simp only [Act.put, List.setIfInBounds_toArray, List.set_cons_zero, List.set_cons_succ]
  refine dskH_take (i := 12) (v := .pointer (some ⟨gs, a * 64, none⟩)) (some 25) rfl rfl (by kernel_rfl) (by kernel_rfl) (by kernel_rfl) (fun _ _ _ h => h) (Or.inl ⟨by rfl, fun _ hw => by go_simp⟩) (by assumption) ?_
  simp only [Act.put, List.setIfInBounds_toArray, List.set_cons_zero, List.set_cons_succ]
  refine wpAnyH_ready (rs := [13]) (by kernel_rfl) (by simp) ?_
  refine AllReadyH.cons rfl (fun KC hKC => ?_) AllReadyH.nil
  rw [if_pos (by rfl)]
  refine wp_store_to rfl 37 _ _ rfl gs (a * 64) SL.toArray rfl rfl hth Hi.out H1.out ?_
  try rw [show SL.toArray.toList = SL from rfl]
  try rw [← hwA]
  refine hKC.out _ _ (hkeep EwA) (fun hHeld41 => ?_)
  clear hKC KC
  try simp only [Act.put, List.setIfInBounds_toArray, List.set_cons_zero, List.set_cons_succ]
  refine dskH_take (i := 14) (v := .pointer (some ⟨gl, a * 64, none⟩)) (some 26) rfl rfl (by kernel_rfl) (by kernel_rfl) (by kernel_rfl) (fun _ _ _ h => h) (Or.inl ⟨by rfl, fun _ hw => by go_simp⟩) (by assumption) ?_
  simp only [Act.put, List.setIfInBounds_toArray, List.set_cons_zero, List.set_cons_succ]
  refine wpAnyH_ready (rs := [15]) (by kernel_rfl) (by simp) ?_
  refine AllReadyH.cons rfl (fun KC hKC => ?_) AllReadyH.nil
  rw [if_pos (by rfl)]
  refine wp_store_to rfl 37 _ _ rfl gl (a * 64) SL.toArray rfl rfl htl Hi.out H1.out ?_
  try rw [show SL.toArray.toList = SL from rfl]
  try rw [← hwB]
  refine hKC.out _ _ (hkeep EwB) (fun hHeld42 => ?_)
  clear hKC KC
  try simp only [Act.put, List.setIfInBounds_toArray, List.set_cons_zero, List.set_cons_succ]
  refine wpAnyH_done (by kernel_rfl) ?_ _
  clear hHeld
  (try dsimp only)
  clear hwA hwB hth htl hAs hOA hAl hBl hOB hBs hkA hkB hXA hXB EwA EwB hkeep hOdB hRd hDd hbd hD1 hR1
  have hbmEq : wB.heap[bm]? = w.heap[bm]? := by
    have h1 := hDB.Fm
    exact hOwS.block bm (hD.Flt bm hD.Fm) (fun h => h.elim (fun e => hD.sm e.symm) (fun e => hD.lm e.symm))
  obtain ⟨es, clock, hes, Fit1, _, _, hbbb, _, _⟩ := hDB.hm
  have hbl := hDB.bb
  have hvw := hDB.hw
  have hkey := Go.Maps.keyOf_int_mk (P := Try.prog) Try.underlying3 (a := ((a : Nat) : Int)) (WalkArith.wf_i64 (by omega))
  have hzv : (zeroValue 85).run Try.prog wB = .ok (.slice none 0 0) wB := by kernel_rfl
  obtain ⟨m, hm⟩ : ∃ m, W.length = m := ⟨_, rfl⟩
  obtain ⟨Aw, cw, hvwf⟩ := hDB.vw_form
  rw [hm] at hvw hvwf hR hOw
  have hwN : m ≤ 100000 := by rw [← hm]; exact hD.wN
  have hrowN : ∀ b, vw.ownBlock = some b → 0 < m → ∃ cs : List Value, Arr wB b 87 cs ∧ m * 66 ≤ cs.length := fun b hb h0 => by
    rcases hvw.2 with ⟨e, _⟩ | ⟨g, cap, cur, e, _, e2, e3, _, e5, _⟩
    · rw [e] at hb; cases hb
    · rw [e] at hb
      simp only [Value.ownBlock, Option.some.injEq] at hb
      subst hb
      exact ⟨cur.toList, by unfold Arr; rw [Array.toArray_toList]; exact e2, by rw [Array.length_toList, e5]; exact Nat.mul_le_mul_right _ e3⟩
  have hblk : 0 < m → ∃ b, vw = .slice (some ⟨b, 0, none⟩) m cw := fun h0 => by
    rcases hvw.2 with ⟨e, h1⟩ | ⟨g, cap, cur, e, _, _, _, _, _, _⟩
    · omega
    · rw [hvwf] at e
      injection e with e1 e2 e3
      exact ⟨g, by rw [hvwf, e1]⟩
  have hwk := hDB.wk
  have hws := hDB.ws
  have hwl := hDB.wl
  have hwm := hDB.wm
  have hkB := hDB.hk
  have hsB := hDB.hs
  have hlB := hDB.hl
  have hshB := hDB.sh
  have hnmB : nm < maxLen := by have := hDB.nmW; unfold maxLen; omega
  have hmB := hDB.hm
  subst hvwf
  have Hm := Lib.hid hm
  have hc3B : wB.cell? ⟨k, 3, none⟩ = some (.map (some bm)) := by rw [hkB.cell]; rfl
  have hD_nm := hDB.nmW
  rw [hm] at hD_nm
  have hsm := hDB.sm
  have hlm := hDB.lm
  have hes0 : w.heap[bm]? = some (.map es clock) := by rw [← hbmEq]; exact hes
  clear hm hvw hDB hD hbmEq
  go_wp2_with (first
    | (refine wpList_lookup_groups_shuns wB rfl _ _ 67 rfl 3 85 3 .i64 sec_int_keyed Try.underlying67 hzv base bm nm D rfl hmB hnmB (.int .i64 (a : Nat)) (.int .i64 (a : Nat)) rfl hkey ?_; intro v zs hat hoi hzl _ hsh; obtain ⟨Av, cv, rfl⟩ := row_form hoi.1 rfl))
  have hzs : ∀ z ∈ zs, ∃ q : Nat, z = (q : Int) ∧ q < m := fun z hz => by
    rcases hoi.datum (H := Unit) with ⟨_, h0⟩ | h1
    · rw [h0] at hz; cases hz
    · obtain ⟨q, e1, e2⟩ := hR (.int .i64 (a : Nat)) _ _ (hat.trans h1) (.lit (.int .i64 z)) (by unfold Go.ChangeShapes.lits; exact List.mem_map.2 ⟨z, hz, rfl⟩)
      exact ⟨q, by injection e1 with e1; injection e1, e2⟩
  have hvr : ∀ i z, zs[i]? = some z → ∃ g, Av = some ⟨g, 0, none⟩ ∧ wB.cell? ⟨g, i, none⟩ = some (.int .i64 z) := fun i z hz => by
    have hl0 : 0 < zs.length := by have := (List.getElem?_eq_some_iff.1 hz).1; omega
    rcases hoi.1.2 with ⟨_, h1⟩ | ⟨g, cap, cur, e, _, _, _, _, _, _⟩
    · omega
    · have hg : (Value.slice Av zs.length cv).ownBlock = some g := by rw [e]; rfl
      injection e with e1 e2 e3
      have hc := World.ownsRow.cells (v := .slice Av zs.length cv) hoi.1 (g := g) hg i (.int .i64 z) (by rw [List.getElem?_map, hz]; rfl)
      have hadd : (⟨g, 0, none⟩ : Addr).add i = ⟨g, i, none⟩ := by unfold Addr.add; split <;> simp_all
      rw [hadd] at hc
      exact ⟨g, e1, hc⟩
  have hshv := hsh _ hshB
  have hln5 : zs.length ≤ 1000000 := by have := hzl; unfold maxLen at hnmB; have := hD_nm; omega
  obtain ⟨ln, hln⟩ : ∃ ln, zs.length = ln := ⟨_, rfl⟩
  rw [hln] at hln5
  have hAvb : ∀ g, Av = some ⟨g, 0, none⟩ → (Value.slice Av zs.length cv).ownBlock = some g := fun g e => by rw [e]; rfl
  have Hzs := Lib.hid hzs
  have Hvr := Lib.hid hvr
  have Hln := Lib.hid hln
  have Hshv := Lib.hid hshv
  have Havb := Lib.hid hAvb
  rw [hln]
  clear hat hoi hzl hsh hshv hzs hvr hln hAvb hmB hnmB hR
  go_wp2_with fail
  go_loopw [34] (fun x wr => ∃ i : Nat, i ≤ ln ∧ x = .int .i64 i ∧ Only (fun b => (Value.slice Aw m cw).ownBlock = some b ∧ 0 < m) wB wr ∧ (∀ b, (Value.slice Aw m cw).ownBlock = some b → 0 < m → ∃ cs : List Value, Arr wr b 87 cs ∧ m * 66 ≤ cs.length)) (fun x _ => ln - (intOf x).toNat)
  case atStart => exact ⟨0, Nat.zero_le _, rfl, Only.refl _ _, hrowN⟩
  case round =>
    clear hrowN
    obtain ⟨i, hil, rfl, hO, hrow⟩ := hrel
    obtain ⟨wr1, hwr1⟩ : ∃ x, x = wr := ⟨_, rfl⟩
    subst hwr1
    have hkr : Arr wr1 k 69 [.slice (some ⟨gs, 0, none⟩) n n, .slice (some ⟨gl, 0, none⟩) n n, .slice Aw m cw, .map (some bm), .bool fu, .int .i64 left] := hkB.only hO (fun h => hwk h.1)
    by_cases hlt : i < ln
    · obtain ⟨z, hz⟩ : ∃ z, zs[i]? = some z := ⟨_, List.getElem?_eq_getElem (by rw [Hln.out]; exact hlt)⟩
      obtain ⟨q, rfl, hqm⟩ := Hzs.out z (List.mem_of_getElem? hz)
      obtain ⟨g, rfl, hcg⟩ := Hvr.out i _ hz
      have hgv : ¬ ((Value.slice Aw m cw).ownBlock = some g ∧ 0 < m) := fun h => Hshv.out g (Havb.out g rfl) (.inr (.inr (.inr (.inr h.1))))
      have hgl : g < wB.heap.size := World.block_lt_of_cell? wB _ hcg
      have hcr : wr1.cell? ⟨g, i, none⟩ = some (.int .i64 (q : Nat)) := (World.cell?_of_block (hO.block g hgl hgv)).trans hcg
      obtain ⟨b, hbe⟩ := hblk (by omega)
      injection hbe with hbe _ _
      subst hbe
      obtain ⟨cs, hcs, hcsl⟩ := hrow b rfl (by omega)
      have hc2 : wr1.cell? ⟨k, 2, none⟩ = some (.slice (some ⟨b, 0, none⟩) m cw) := by rw [hkr.cell]; rfl
      obtain ⟨x, hx⟩ : ∃ x, cs[q * 66 + 65]? = some x := ⟨_, List.getElem?_eq_getElem (by omega)⟩
      have hce : wr1.cell? ⟨b, q * 66 + 65, none⟩ = some x := by rw [hcs.cell]; exact hx
      have hfe := hcs.frozen (q * 66 + 65)
      have hset := hcs.set (q * 66 + 65) (.bool true)
      have hqI : (q : Int) < (m : Int) := by omega
      have hiI : (i : Int) < (ln : Int) := by omega
      have hqB : q ≤ 100000 := by omega
      have hd1 : decide (i < ln) = true := by simp; exact hlt
      have hOs : Only (fun c => (Value.slice (some ⟨b, 0, none⟩) m cw).ownBlock = some c ∧ 0 < m) wB (wr1.setCell ⟨b, q * 66 + 65, none⟩ (.bool true)) := hO.setCell (p := ⟨b, q * 66 + 65, none⟩) (.inl ⟨rfl, by omega⟩) _
      have hsl : (cs.set (q * 66 + 65) (.bool true)).length = cs.length := List.length_set
      obtain ⟨wn, hwn⟩ : ∃ x, x = wr1.setCell ⟨b, q * 66 + 65, none⟩ (.bool true) := ⟨_, rfl⟩
      rw [← hwn] at hset hOs
      have Hwn := Lib.hid hwn
      clear hz hcg hgv hx hcs hrow hwn
      go_wp2_with fail
      go_roundw
      case rel => exact ⟨i + 1, by omega, by go_num, by rw [← Hwn.out]; exact hOs, fun c hc _ => by
        have hcb : b = c := by injection hc
        subst hcb
        rw [← Hwn.out]
        exact ⟨_, hset, by rw [hsl]; exact hcsl⟩⟩
      case measure => simp [intOf]; omega
    · obtain rfl : i = ln := by omega
      have hd1 : decide (i < i) = false := by simp
      have hc3 : wr1.cell? ⟨k, 3, none⟩ = some (.map (some bm)) := by rw [hkr.cell]; rfl
      have hesr : wr1.heap[bm]? = some (.map es clock) := (hO.block bm (Array.getElem?_eq_some_iff.1 hes).1 (fun h => hwm h.1)).trans hes
      have hsr := hsB.only hO (fun h => hws h.1)
      have hlr := hlB.only hO (fun h => hwl h.1)
      have hOr : Only (fun b => b = gs ∨ b = gl ∨ b = bm ∨ ((Value.slice Aw m cw).ownBlock = some b ∧ 0 < m)) w wr1 := hOw.trans (hO.more (fun _ _ h => .inr (.inr (.inr h))))
      clear hrow hkB hsB hlB hO
      go_wp2_with (first
        | (refine wpList_delete_dk rfl _ _ 67 3 85 rfl sec_int_keyed Try.underlying67 bm es clock _ rfl hesr Fit1 (.int .i64 (a : Nat)) (.int .i64 (a : Nat)) rfl hkey ?_; intro es' hle))
      go_ret
      have hsz : (Go.ChangeMaps.setBlock wr1 bm (.map es' clock)).heap.size = wr1.heap.size := by simp [Go.ChangeMaps.setBlock]
      have hoth : ∀ j, j ≠ bm → (Go.ChangeMaps.setBlock wr1 bm (.map es' clock)).heap[j]? = wr1.heap[j]? := fun j hj => Go.ChangeMaps.heap_setBlock_other hesr _ (fun e => hj e)
      refine ⟨rfl, (hoth gs hsm).trans hsr, (hoth gl hlm).trans hlr, ?_, es, clock, es', hes0, Go.ChangeMaps.heap_setBlock_same hesr _, hle⟩
      rw [Hm.out]
      exact ⟨hOr.os, hOr.tape, hOr.output, by rw [hsz]; exact hOr.size, fun j hj hn => (hoth j (fun e => hn (.inr (.inr (.inl e))))).trans (hOr.block j hj hn)⟩

end Go.Proofs.Ytccccpadnaocfaa

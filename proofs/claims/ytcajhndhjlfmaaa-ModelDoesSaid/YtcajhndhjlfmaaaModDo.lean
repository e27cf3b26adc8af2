/-
  Do.
-/
import Derived.Test.YtcajhndhjlfmaaaModCopy
import Derived.Test.YtcajhndhjlfmaaaModSorted
import Derived.Test.YtcajhndhjlfmaaaModWrite
namespace Go.Proofs.Ytcajhndhjlfmaaa
open Go.RowKit
set_option linter.unusedVariables false
set_option linter.unusedSimpArgs false

theorem ownsRow_only {w w' : World} {B : Nat} {e : TypeId} {sz : Nat} {v : Value} {n : Nat} {xs : List Value} (h : w.ownsRow B e sz v n xs) {R : Nat → Prop} (hO : Only R w w') (hv : ∀ g, v.ownBlock = some g → ¬ R g) : w'.ownsRow B e sz v n xs := by
  refine ⟨h.1, ?_⟩
  rcases h.2 with h0 | ⟨g, cap, cur, rfl, e1, e2, e3⟩
  · exact .inl h0
  · exact .inr ⟨g, cap, cur, rfl, e1, (hO.block g (Array.getElem?_eq_some_iff.1 e2).1 (hv g rfl)).trans e2, e3⟩

def NmsAt (w : World) (B : Nat) (v : Value) (ns : List ByteArray) : Prop := w.ownsRow B 9 1 v ns.length (ns.map Value.string)
theorem nms_nil (w : World) (B : Nat) : NmsAt w B nilS [] := ⟨rfl, .inl ⟨rfl, rfl⟩⟩
theorem fin_md {w W0 w5 : World} {F : Nat → Prop} {s : Nat} {L' : List Vol} {g : Nat} (hb0 : Below w.heap.size w W0) (hF : ∀ b, F b → b < w.heap.size) (h1 : w.heap.size ≤ g) (h2 : g < W0.heap.size) (h5 : MdL w5 (newF F W0 w5) s L') (hO : Only F W0 w5) (AL : Array Value) :
    MdL (w5.setRow g AL) (newF F w (w5.setRow g AL)) s L' ∧ Only F w (w5.setRow g AL) := by
  have hO1 : Only F w w5 := (Only.of_below hb0).trans hO
  have hO2 : Only F w (w5.setRow g AL) := hO1.setRow (.inr h1) AL
  have hS : Only (fun k => k = g) w5 (w5.setRow g AL) := (Only.refl (fun k => k = g) w5).setRow (.inl rfl) AL
  refine ⟨MdL.more (h5.only hS fun b hb e => ?_) (fun b hb => ?_) (newF_lt hF hO2.size), hO2⟩
  · subst e
    rcases hb with hb | hb
    · have := hF b hb; omega
    · omega
  · rcases hb with hb | hb
    · exact .inl hb
    · exact .inr ⟨by have := hb0.size; omega, Nat.lt_of_lt_of_le hb.2 hS.size⟩
theorem only_arr {w w' : World} {F : Nat → Prop} {g : Nat} {T : TypeId} {c : List Value} (h : Arr w g T c) (hO : Only F w w') (hF : ¬ F g) : Arr w' g T c := (hO.block g h.lt hF).trans h
def DoPost (s : Nat) (o : Op15) (w : World) (F : Nat → Prop) (L : List Vol) (e : Ending) (w' : World) : Prop :=
  ∃ nv, e = .returned (.agg (ansV (doL L o).2 nv).toArray) ∧ NmsAt w' w.heap.size nv (doL L o).2.nms ∧ MdL w' (newF F w w') s (doL L o).1 ∧ Only F w w'
theorem quota_ix (M : List Vm) (nm : ByteArray) : quotaL (vs M) nm = (ixOf (findM M nm)).q := by
  unfold quotaL
  rw [vs_find]
  cases findM M nm <;> rfl
theorem nms_up {w : World} {B B' : Nat} {v : Value} {ns : List ByteArray} (h : NmsAt w B v ns) (hB : B' ≤ B) : NmsAt w B' v ns := by
  refine ⟨h.1, ?_⟩
  rcases h.2 with h0 | ⟨g, cap, cur, e, e1, e2, e3⟩
  · exact .inl h0
  · exact .inr ⟨g, cap, cur, e, Nat.le_trans hB e1, e2, e3⟩
theorem read_nms (L : List Vol) (nm : ByteArray) (n : Int) : (readL L nm n).nms = [] := by
  unfold readL
  split
  · rfl
  · split <;> rfl
theorem read_len {w : World} {F : Nat → Prop} {s : Nat} {L : List Vol} (h : MdL w F s L) (nm : ByteArray) (n : Int) : (readL L nm n).blk.length = 48 := by
  unfold readL
  split
  · rfl
  · split
    · rfl
    · rename_i v hv
      exact atB_length (h.ok v (List.mem_of_find?_eq_some hv)) n
theorem do_post {s : Nat} {o : Op15} {w w' : World} {F : Nat → Prop} {L L' : List Vol} {k : Int} {AL : List Value} (hdo : doL L o = (L', aE k)) (hAL : AL = ansC k false (Lib.byteCells zB) nilS) (h1 : MdL w' (newF F w w') s L') (h2 : Only F w w') : DoPost s o w F L (.returned (.agg AL.toArray)) w' := by
  refine ⟨nilS, ?_, ?_, ?_, h2⟩
  · rw [hdo, hAL]; rfl
  · rw [hdo]; exact nms_nil _ _
  · rw [hdo]; exact h1

set_option maxHeartbeats 16000000 in
set_option maxRecDepth 100000 in
theorem do_any (s : Nat) (o : Op15) (ho : OpOk o) (OL : List Value) (hOL : OL = opC o) (w : World) (F : Nat → Prop) (L : List Vol) (h : MdL w F s L) (hL : L.length ≤ 100000) :
    Calls Try.prog 17 #[.pointer (some ⟨s, 0, none⟩), .agg OL.toArray] w fun e w' => DoPost s o w F L e w' := by
  obtain ⟨hk0, hk1, hk2, hk3, hk4⟩ := opC_at hOL
  obtain ⟨W1, hW1⟩ : ∃ z, z = w.alloc (.cells OL.toArray 44) := ⟨_, rfl⟩
  have hb1 : Below w.heap.size w W1 := by rw [hW1]; exact (Below.refl _ _).alloc (Nat.le_refl _) _
  have hA1 : Arr W1 w.heap.size 44 OL := by rw [hW1]; exact Arr.new w _ _
  have hs1 : W1.heap.size = w.heap.size + 1 := by rw [hW1]; simp
  obtain ⟨AZ, hAZ⟩ : ∃ z, z = ansZ := ⟨_, rfl⟩
  obtain ⟨W0, hW0⟩ : ∃ z, z = W1.alloc (.cells AZ.toArray 47) := ⟨_, rfl⟩
  have hAn : Arr W0 (w.heap.size + 1) 47 AZ := by rw [hW0, ← hs1]; exact Arr.new W1 _ _
  have hb0 : Below W1.heap.size W1 W0 := by rw [hW0]; exact (Below.refl _ _).alloc (Nat.le_refl _) _
  have HWx : Hid (W0 = (w.alloc (.cells OL.toArray 44)).alloc (.cells ansZ.toArray 47)) := Lib.hid (by rw [hW0, hW1, hAZ])
  replace hA1 := hA1.up hb0
  replace hb1 := hb1.trans (hb0.mono hb1.size)
  have hM0 := h.below hb1
  obtain ⟨g, hg⟩ : ∃ z, z = w.heap.size := ⟨_, rfl⟩
  rw [← hg] at hA1 hAn
  have Hfl := Lib.hid (show ∀ b, F b → b < w.heap.size from h.lt)
  have hgF : ¬ F (g + 1) := fun e => by have := h.lt _ e; omega
  have hgF0 : ¬ F g := fun e => by have := h.lt _ e; omega
  have hgl : w.heap.size ≤ g + 1 := by omega
  have hg1 := hAn.lt
  obtain ⟨nm, hnm⟩ : ∃ z, z = o.name := ⟨_, rfl⟩
  obtain ⟨ot, hot⟩ : ∃ z, z = o.other := ⟨_, rfl⟩
  obtain ⟨kd, hkd⟩ : ∃ z, z = o.kind := ⟨_, rfl⟩
  obtain ⟨qt, hqt⟩ : ∃ z, z = o.quota := ⟨_, rfl⟩
  have hsz := ho.n1
  have hsz2 := ho.n2
  rw [← hnm] at hk1 hsz
  rw [← hot] at hk2 hsz2
  rw [← hkd] at hk0
  rw [← hqt] at hk4
  have hc0 : W0.cell? ⟨g, 0, none⟩ = some (.int .i64 kd) := by rw [hA1.cell]; exact hk0
  have hc1 : W0.cell? ⟨g, 1, none⟩ = some (.string nm) := by rw [hA1.cell]; exact hk1
  have hc2 : W0.cell? ⟨g, 2, none⟩ = some (.string ot) := by rw [hA1.cell]; exact hk2
  have hc4 : W0.cell? ⟨g, 4, none⟩ = some (.int .i64 qt) := by rw [hA1.cell]; exact hk4
  have HOi := Lib.hid (show (Try.prog.info? 44).map (·.size) = some OL.toArray.size by rw [List.size_toArray, hOL, opC_length ho.b48]; exact opSize)
  have HAi := Lib.hid (fun (k : Int) (AL : List Value) (h : AL = ansC k false (Lib.byteCells zB) nilS) => show ((Try.prog.info? 47).map (·.size) = some AL.toArray.size ∧ AZ.toArray.size = AL.toArray.size) ∧ AL.toArray.all (·.oneCell') = true ∧ Try.prog.built 47 [(0, .int .i64 k)] = some AL.toArray by
    subst h
    rw [List.size_toArray, List.size_toArray, ansC_length (by simp [Lib.byteCells, zB]), hAZ]
    exact ⟨⟨ansSize, rfl⟩, ansC_one rfl, ans_b0 k⟩)
  have HAn := Lib.hid hAn
  have HA1 := Lib.hid hA1
  have Hb1 := Lib.hid hb1
  have Ho := Lib.hid ho
  have HOL := Lib.hid hOL
  have HM0 := Lib.hid hM0
  have Hg := Lib.hid hg
  have HL := Lib.hid hL
  have Hkd := Lib.hid hkd
  have Hdo := Lib.hid (show doL L o = (if kd = 1 then ePair (createL L nm qt) else if kd = 2 then ePair (deleteL L nm) else if kd = 3 then ePair (writeL L o.name o.num o.blk) else if kd = 4 then ePair (trimL L o.name o.num) else if kd = 5 then (L, readL L o.name o.num) else if kd = 6 then ePair (copyL L nm ot (quotaL L nm) true) else if kd = 7 then ePair (copyL L nm ot qt false) else if kd = 8 then (L, ⟨0, false, zB, L.map (·.name)⟩) else (L, aE 1)) by rw [hkd, hnm, hot, hqt]; rfl)
  have hslt : s < w.heap.size := by obtain ⟨M, mb, hQ, _⟩ := h; exact hQ.Flt s hQ.Fs
  clear hnm hot hkd hqt hk0 hk1 hk2 hk3 hk4 hOL ho h hL hM0 hb1 hA1 hb0 hs1 hW0 hW1 hAn hg
  go_enter Try.func17, Try.ntmps17
  go_upto_region 1 with fail
  change Code.wp _ _ _ _ ((w.alloc (.cells OL.toArray 44)).alloc (.cells ansZ.toArray 47))
  rw [← HWx.out, ← Hg.out]
  clear HWx
  by_cases h1 : kd = 1
  · have hd1 : decide (kd = 1) = true := by simpa using h1
    obtain ⟨L', k, hr⟩ : ∃ L' k, createL L nm qt = (L', k) := ⟨_, _, rfl⟩
    have Hr := Lib.hid (show doL L o = (L', aE k) by rw [Hdo.out, if_pos h1, hr]; rfl)
    go_wp2_with fail
    refine Calls.mono (create_anyM s nm hsz qt W0 F L HM0.out HL.out L' k hr) ?_
    rintro e w5 ⟨rfl, hM5, hO5⟩
    have hAn5 := only_arr HAn.out hO5 hgF
    obtain ⟨AL, hAL⟩ : ∃ z, z = ansC k false (Lib.byteCells zB) nilS := ⟨_, rfl⟩
    obtain ⟨⟨ha1, ha2⟩, ha3, ha4⟩ := HAi.out k AL hAL
    have Ha1 := Lib.hid ha1
    have Ha2 := Lib.hid ha2
    have Ha3 := Lib.hid ha3
    have Ha4 := Lib.hid ha4
    have HAL := Lib.hid hAL
    have Hfin := Lib.hid (fin_md Hb1.out Hfl.out hgl hg1 hM5 hO5 AL.toArray)
    have Hset := Lib.hid (hAn5.setRow AL)
    have HAn5 := Lib.hid hAn5
    clear hM5 hO5 hAL ha1 ha2 ha3 ha4 hAn5 hc0 hc1 hc2 hc4
    go_wp2_with (first | (refine wpList_builtV rfl _ _ rfl _ rfl AL.toArray Ha4.out ?_) | (refine wpList_store_row rfl _ _ _ rfl (g + 1) AL.toArray rfl rfl 47 AZ.toArray HAn5.out Ha1.out Ha2.out Ha3.out ?_))
    (try simp only [Exit.inBlock, Exit.then])
    exact bodyPost_ret (v := .agg AL.toArray) (results_cell_row (by rfl) _ _ (g + 1) 47 AL.toArray (0, 0) _ (by rfl) Hset.out Try.underlying47 rfl Ha1.out) rfl (do_post Hr.out HAL.out Hfin.out.1 Hfin.out.2)
  · have hd1 : decide (kd = 1) = false := by simpa using h1
    by_cases h2 : kd = 2
    · have hd2 : decide (kd = 2) = true := by simpa using h2
      obtain ⟨L', k, hr⟩ : ∃ L' k, deleteL L nm = (L', k) := ⟨_, _, rfl⟩
      have Hr := Lib.hid (show doL L o = (L', aE k) by rw [Hdo.out, if_neg h1, if_pos h2, hr]; rfl)
      go_wp2_with fail
      refine Calls.mono (remove_any s nm hsz W0 F L HM0.out L' k hr) ?_
      rintro e w5 ⟨rfl, hM5, hO5⟩
      have hAn5 := only_arr HAn.out hO5 hgF
      obtain ⟨AL, hAL⟩ : ∃ z, z = ansC k false (Lib.byteCells zB) nilS := ⟨_, rfl⟩
      obtain ⟨⟨ha1, ha2⟩, ha3, ha4⟩ := HAi.out k AL hAL
      have Ha1 := Lib.hid ha1
      have Ha2 := Lib.hid ha2
      have Ha3 := Lib.hid ha3
      have Ha4 := Lib.hid ha4
      have HAL := Lib.hid hAL
      have Hfin := Lib.hid (fin_md Hb1.out Hfl.out hgl hg1 hM5 hO5 AL.toArray)
      have Hset := Lib.hid (hAn5.setRow AL)
      have HAn5 := Lib.hid hAn5
      clear hM5 hO5 hAL ha1 ha2 ha3 ha4 hAn5 hc0 hc1 hc2 hc4
      go_wp2_with (first | (refine wpList_builtV rfl _ _ rfl _ rfl AL.toArray Ha4.out ?_) | (refine wpList_store_row rfl _ _ _ rfl (g + 1) AL.toArray rfl rfl 47 AZ.toArray HAn5.out Ha1.out Ha2.out Ha3.out ?_))
      (try simp only [Exit.inBlock, Exit.then])
      exact bodyPost_ret (v := .agg AL.toArray) (results_cell_row (by rfl) _ _ (g + 1) 47 AL.toArray (0, 0) _ (by rfl) Hset.out Try.underlying47 rfl Ha1.out) rfl (do_post Hr.out HAL.out Hfin.out.1 Hfin.out.2)
    · have hd2 : decide (kd = 2) = false := by simpa using h2
      by_cases h3 : kd = 3
      · have hd3 : decide (kd = 3) = true := by simpa using h3
        obtain ⟨L', k, hr⟩ : ∃ L' k, writeL L o.name o.num o.blk = (L', k) := ⟨_, _, rfl⟩
        have Hr := Lib.hid (show doL L o = (L', aE k) by rw [Hdo.out, if_neg h1, if_neg h2, if_pos h3, hr]; rfl)
        go_wp2_with (first | (refine wpList_load_row rfl _ _ rfl g rfl 44 OL.toArray (0, 0) _ HA1.out Try.underlying44 rfl HOi.out ?_))
        refine Calls.mono (write_any s o Ho.out OL HOL.out W0 F L HM0.out (by rw [← Hkd.out, h3]; rfl) L' k hr) ?_
        rintro e w5 ⟨rfl, hM5, hO5⟩
        have hAn5 := only_arr HAn.out hO5 hgF
        obtain ⟨AL, hAL⟩ : ∃ z, z = ansC k false (Lib.byteCells zB) nilS := ⟨_, rfl⟩
        obtain ⟨⟨ha1, ha2⟩, ha3, ha4⟩ := HAi.out k AL hAL
        have Ha1 := Lib.hid ha1
        have Ha2 := Lib.hid ha2
        have Ha3 := Lib.hid ha3
        have Ha4 := Lib.hid ha4
        have HAL := Lib.hid hAL
        have Hfin := Lib.hid (fin_md Hb1.out Hfl.out hgl hg1 hM5 hO5 AL.toArray)
        have Hset := Lib.hid (hAn5.setRow AL)
        have HAn5 := Lib.hid hAn5
        clear hM5 hO5 hAL ha1 ha2 ha3 ha4 hAn5 hc0 hc1 hc2 hc4
        go_wp2_with (first | (refine wpList_builtV rfl _ _ rfl _ rfl AL.toArray Ha4.out ?_) | (refine wpList_store_row rfl _ _ _ rfl (g + 1) AL.toArray rfl rfl 47 AZ.toArray HAn5.out Ha1.out Ha2.out Ha3.out ?_))
        (try simp only [Exit.inBlock, Exit.then])
        exact bodyPost_ret (v := .agg AL.toArray) (results_cell_row (by rfl) _ _ (g + 1) 47 AL.toArray (0, 0) _ (by rfl) Hset.out Try.underlying47 rfl Ha1.out) rfl (do_post Hr.out HAL.out Hfin.out.1 Hfin.out.2)
      · have hd3 : decide (kd = 3) = false := by simpa using h3
        by_cases h4 : kd = 4
        · have hd4 : decide (kd = 4) = true := by simpa using h4
          obtain ⟨L', k, hr⟩ : ∃ L' k, trimL L o.name o.num = (L', k) := ⟨_, _, rfl⟩
          have Hr := Lib.hid (show doL L o = (L', aE k) by rw [Hdo.out, if_neg h1, if_neg h2, if_neg h3, if_pos h4, hr]; rfl)
          go_wp2_with (first | (refine wpList_load_row rfl _ _ rfl g rfl 44 OL.toArray (0, 0) _ HA1.out Try.underlying44 rfl HOi.out ?_))
          refine Calls.mono (trim_any s o Ho.out OL HOL.out W0 F L HM0.out (by rw [← Hkd.out, h4]; rfl) L' k hr) ?_
          rintro e w5 ⟨rfl, hM5, hO5⟩
          have hAn5 := only_arr HAn.out hO5 hgF
          obtain ⟨AL, hAL⟩ : ∃ z, z = ansC k false (Lib.byteCells zB) nilS := ⟨_, rfl⟩
          obtain ⟨⟨ha1, ha2⟩, ha3, ha4⟩ := HAi.out k AL hAL
          have Ha1 := Lib.hid ha1
          have Ha2 := Lib.hid ha2
          have Ha3 := Lib.hid ha3
          have Ha4 := Lib.hid ha4
          have HAL := Lib.hid hAL
          have Hfin := Lib.hid (fin_md Hb1.out Hfl.out hgl hg1 hM5 hO5 AL.toArray)
          have Hset := Lib.hid (hAn5.setRow AL)
          have HAn5 := Lib.hid hAn5
          clear hM5 hO5 hAL ha1 ha2 ha3 ha4 hAn5 hc0 hc1 hc2 hc4
          go_wp2_with (first | (refine wpList_builtV rfl _ _ rfl _ rfl AL.toArray Ha4.out ?_) | (refine wpList_store_row rfl _ _ _ rfl (g + 1) AL.toArray rfl rfl 47 AZ.toArray HAn5.out Ha1.out Ha2.out Ha3.out ?_))
          (try simp only [Exit.inBlock, Exit.then])
          exact bodyPost_ret (v := .agg AL.toArray) (results_cell_row (by rfl) _ _ (g + 1) 47 AL.toArray (0, 0) _ (by rfl) Hset.out Try.underlying47 rfl Ha1.out) rfl (do_post Hr.out HAL.out Hfin.out.1 Hfin.out.2)
        · have hd4 : decide (kd = 4) = false := by simpa using h4
          by_cases h5 : kd = 5
          · have hd5 : decide (kd = 5) = true := by simpa using h5
            have Hr := Lib.hid (show doL L o = (L, readL L o.name o.num) by rw [Hdo.out, if_neg h1, if_neg h2, if_neg h3, if_neg h4, if_pos h5])
            go_wp2_with (first | (refine wpList_load_row rfl _ _ rfl g rfl 44 OL.toArray (0, 0) _ HA1.out Try.underlying44 rfl HOi.out ?_))
            refine Calls.mono (read_any s o Ho.out OL HOL.out W0 F L HM0.out (by rw [← Hkd.out, h5]; rfl)) ?_
            rintro e w5 ⟨rfl, hM5, hO5⟩
            have hAn5 := only_arr HAn.out hO5 hgF
            obtain ⟨AL, hAL⟩ : ∃ z, z = ansV (readL L o.name o.num) nilS := ⟨_, rfl⟩
            rw [← hAL]
            have hl5 : AL.length = 51 := by rw [hAL]; exact ansC_length (by rw [Lib.byteCells_length]; exact read_len HM0.out _ _)
            have Ha1 := Lib.hid (show (Try.prog.info? 47).map (·.size) = some AL.toArray.size by rw [List.size_toArray, hl5]; exact ansSize)
            have Ha2 := Lib.hid (show AZ.toArray.size = AL.toArray.size by rw [List.size_toArray, List.size_toArray, hl5, hAZ]; rfl)
            have Ha3 := Lib.hid (show AL.toArray.all (·.oneCell') = true by rw [hAL]; exact ansC_one rfl)
            have HAL := Lib.hid hAL
            have Hfin := Lib.hid (fin_md Hb1.out Hfl.out hgl hg1 hM5 hO5 AL.toArray)
            have Hset := Lib.hid (hAn5.setRow AL)
            have HAn5 := Lib.hid hAn5
            clear hM5 hO5 hAL hAn5 hc0 hc1 hc2 hc4 hl5
            go_wp2_with (first | (refine wpList_store_row rfl _ _ _ rfl (g + 1) AL.toArray rfl rfl 47 AZ.toArray HAn5.out Ha1.out Ha2.out Ha3.out ?_))
            (try simp only [Exit.inBlock, Exit.then])
            exact bodyPost_ret (v := .agg AL.toArray) (results_cell_row (by rfl) _ _ (g + 1) 47 AL.toArray (0, 0) _ (by rfl) Hset.out Try.underlying47 rfl Ha1.out) rfl ⟨nilS, by rw [Hr.out, HAL.out], by rw [Hr.out, read_nms]; exact nms_nil _ _, by rw [Hr.out]; exact Hfin.out.1, Hfin.out.2⟩
          · have hd5 : decide (kd = 5) = false := by simpa using h5
            by_cases h6 : kd = 6
            · have hd6 : decide (kd = 6) = true := by simpa using h6
              obtain ⟨M, mb, hQ, hvs⟩ := HM0.out
              have hlM : M.length ≤ 100000 := by have := HL.out; rw [← hvs, vs_length] at this; exact this
              obtain ⟨⟨Xq, Xf, Xm⟩, hX⟩ : ∃ X, X = ixOf (findM M nm) := ⟨_, rfl⟩
              have hq : quotaL L nm = Xq := by rw [← hvs, quota_ix, ← hX]
              obtain ⟨L', k, hr⟩ : ∃ L' k, copyL L nm ot (quotaL L nm) true = (L', k) := ⟨_, _, rfl⟩
              have Hr := Lib.hid (show doL L o = (L', aE k) by rw [Hdo.out, if_neg h1, if_neg h2, if_neg h3, if_neg h4, if_neg h5, if_pos h6, hr]; rfl)
              rw [← hvs] at hr hq
              rw [hq] at hr
              have Hlk := Lib.hid (fun (w' : World) (F1 : Nat → Prop) (M1 : List Vm) (hw : MdQ w' F1 s mb M1) (he : findM M1 nm = findM M nm) => show (Instr.lookup 98 (.map (some mb)) (.string nm) false).run Try.prog w' = .ok (.agg #[.int .i64 Xq, .bool Xf, .map Xm]) w' by have := hw.look (nm := nm) hsz; rw [he, ← hX] at this; exact this)
              have HQ := Lib.hid hQ
              have Hcp := Lib.hid (fun n => mcopy_any s nm ot hsz hsz2 Xq true (W0.drewN n) F M mb (HQ.out.kept (fun _ _ => rfl) (fun _ h => h) HQ.out.Flt) hlM L' k hr)
              clear hQ hX hq hr
              go_upto_region 13 with fail
              refine wp_region_held_drew (S := fun w' => (∃ F1 M1, MdQ w' F1 s mb M1 ∧ findM M1 nm = findM M nm) ∧ w'.cell? ⟨g, 1, none⟩ = some (.string nm) ∧ w'.cell? ⟨g, 2, none⟩ = some (.string ot)) (by kernel_rfl) ⟨⟨F, M, HQ.out.kept (fun _ _ => rfl) (fun _ h => h) HQ.out.Flt, rfl⟩, hc1, hc2⟩ (fun hHeld => ?_)
              refine anyH_take (i := 0) (v := .pointer (some ⟨s, 0, none⟩)) (some 42) rfl rfl (by kernel_rfl) (by kernel_rfl) (by kernel_rfl) (fun _ _ _ h => h) (Or.inl ⟨by rfl, fun w' hw => by rfl⟩) (by assumption) ?_
              simp only [Act.put, List.setIfInBounds_toArray, List.set_cons_zero, List.set_cons_succ]
              refine anyH_take (i := 1) (v := .pointer (some ⟨g, 1, none⟩)) (some 43) rfl rfl (by kernel_rfl) (by kernel_rfl) (by kernel_rfl) (fun _ _ _ h => h) (Or.inl ⟨by rfl, fun w' hw => by (go_simp)⟩) (by assumption) ?_
              simp only [Act.put, List.setIfInBounds_toArray, List.set_cons_zero, List.set_cons_succ]
              refine anyH_take (i := 2) (v := .string nm) (some 44) rfl rfl (by kernel_rfl) (by kernel_rfl) (by kernel_rfl) (fun _ _ _ h => h) (Or.inl ⟨by rfl, fun w' hw => by (have hc0 := hw.2.1; go_simp)⟩) (by assumption) ?_
              simp only [Act.put, List.setIfInBounds_toArray, List.set_cons_zero, List.set_cons_succ]
              refine anyH_take (i := 3) (v := .pointer (some ⟨g, 2, none⟩)) (some 45) rfl rfl (by kernel_rfl) (by kernel_rfl) (by kernel_rfl) (fun _ _ _ h => h) (Or.inl ⟨by rfl, fun w' hw => by (go_simp)⟩) (by assumption) ?_
              simp only [Act.put, List.setIfInBounds_toArray, List.set_cons_zero, List.set_cons_succ]
              refine anyH_take (i := 4) (v := .string ot) (some 46) rfl rfl (by kernel_rfl) (by kernel_rfl) (by kernel_rfl) (fun _ _ _ h => h) (Or.inl ⟨by rfl, fun w' hw => by (have hc0 := hw.2.2; go_simp)⟩) (by assumption) ?_
              simp only [Act.put, List.setIfInBounds_toArray, List.set_cons_zero, List.set_cons_succ]
              refine anyH_take (i := 5) (v := .pointer (some ⟨s, 0, none⟩)) (some 47) rfl rfl (by kernel_rfl) (by kernel_rfl) (by kernel_rfl) (fun _ _ _ h => h) (Or.inl ⟨by rfl, fun w' hw => by rfl⟩) (by assumption) ?_
              simp only [Act.put, List.setIfInBounds_toArray, List.set_cons_zero, List.set_cons_succ]
              refine anyH_take (i := 6) (v := .pointer (some ⟨s, 0, none⟩)) (some 48) rfl rfl (by kernel_rfl) (by kernel_rfl) (by kernel_rfl) (fun _ _ _ h => h) (Or.inl ⟨by rfl, fun w' hw => by (go_simp)⟩) (by assumption) ?_
              simp only [Act.put, List.setIfInBounds_toArray, List.set_cons_zero, List.set_cons_succ]
              refine anyH_take (i := 7) (v := .pointer (some ⟨s, 0, none⟩)) (some 49) rfl rfl (by kernel_rfl) (by kernel_rfl) (by kernel_rfl) (fun _ _ _ h => h) (Or.inl ⟨by rfl, fun w' hw => by (go_simp)⟩) (by assumption) ?_
              simp only [Act.put, List.setIfInBounds_toArray, List.set_cons_zero, List.set_cons_succ]
              refine anyH_take (i := 8) (v := .map (some mb)) (some 50) rfl rfl (by kernel_rfl) (by kernel_rfl) (by kernel_rfl) (fun _ _ _ h => h) (Or.inl ⟨by rfl, fun w' hw => by (obtain ⟨⟨F1, M1, hw1, _⟩, _⟩ := hw; have hc0 := md_cell hw1; go_simp)⟩) (by assumption) ?_
              simp only [Act.put, List.setIfInBounds_toArray, List.set_cons_zero, List.set_cons_succ]
              refine anyH_take (i := 9) (v := .pointer (some ⟨g, 1, none⟩)) (some 51) rfl rfl (by kernel_rfl) (by kernel_rfl) (by kernel_rfl) (fun _ _ _ h => h) (Or.inl ⟨by rfl, fun w' hw => by (go_simp)⟩) (by assumption) ?_
              simp only [Act.put, List.setIfInBounds_toArray, List.set_cons_zero, List.set_cons_succ]
              refine anyH_take (i := 10) (v := .string nm) (some 52) rfl rfl (by kernel_rfl) (by kernel_rfl) (by kernel_rfl) (fun _ _ _ h => h) (Or.inl ⟨by rfl, fun w' hw => by (have hc0 := hw.2.1; go_simp)⟩) (by assumption) ?_
              simp only [Act.put, List.setIfInBounds_toArray, List.set_cons_zero, List.set_cons_succ]
              refine anyH_take (i := 11) (v := .agg #[.int .i64 Xq, .bool Xf, .map Xm]) (some 53) rfl rfl (by kernel_rfl) (by kernel_rfl) (by kernel_rfl) (fun _ _ _ h => h) (Or.inl ⟨by rfl, fun w' hw => by (obtain ⟨⟨F1, M1, hw1, he⟩, _⟩ := hw; have hl0 := Hlk.out w' F1 M1 hw1 he; go_simp)⟩) (by assumption) ?_
              simp only [Act.put, List.setIfInBounds_toArray, List.set_cons_zero, List.set_cons_succ]
              refine anyH_take (i := 12) (v := .int .i64 Xq) (some 54) rfl rfl (by kernel_rfl) (by kernel_rfl) (by kernel_rfl) (fun _ _ _ h => h) (Or.inl ⟨by rfl, fun w' hw => by (have hf0 := img_f0; go_simp)⟩) (by assumption) ?_
              simp only [Act.put, List.setIfInBounds_toArray, List.set_cons_zero, List.set_cons_succ]
              refine wpAnyH_ready (rs := [13]) (by kernel_rfl) (by simp) ?_
              refine AllReadyH.cons rfl (fun K hK => ?_) AllReadyH.nil
              go_simp
              go_at_call 54
              refine Calls.mono (Hcp.out _) ?_
              rintro e w5 ⟨rfl, ⟨M', hQ5, hvs5, hfe⟩, hO5⟩
              have hO5 : Only F W0 w5 := (Only.of_below (Below.dN (Below.refl _ W0) 1)).trans hO5
              have hM5 : MdL w5 (newF F W0 w5) s L' := ⟨M', mb, hQ5, hvs5⟩
              have hS1 : w5.cell? ⟨g, 1, none⟩ = some (.string nm) := (World.cell?_of_block (hO5.block g HA1.out.lt hgF0)).trans hc1
              have hS2 : w5.cell? ⟨g, 2, none⟩ = some (.string ot) := (World.cell?_of_block (hO5.block g HA1.out.lt hgF0)).trans hc2
              go_simp
              refine hK.out _ _ ⟨⟨_, M', hQ5, hfe⟩, hS1, hS2⟩ (fun hHeldx => ?_)
              clear hK K
              try simp only [Act.put, List.setIfInBounds_toArray, List.set_cons_zero, List.set_cons_succ]
              have hAn5 := only_arr HAn.out hO5 hgF
              obtain ⟨AL, hAL⟩ : ∃ z, z = ansC k false (Lib.byteCells zB) nilS := ⟨_, rfl⟩
              obtain ⟨⟨ha1, ha2⟩, ha3, ha4⟩ := HAi.out k AL hAL
              have Ha1 := Lib.hid ha1
              have Ha2 := Lib.hid ha2
              have Ha3 := Lib.hid ha3
              have Ha4 := Lib.hid ha4
              have HAL := Lib.hid hAL
              have Hfin := Lib.hid (fin_md Hb1.out Hfl.out hgl hg1 hM5 hO5 AL.toArray)
              have Hset := Lib.hid (hAn5.setRow AL)
              have HAn5 := Lib.hid hAn5
              clear hAL ha1 ha2 ha3 ha4 hAn5
              refine anyH_take (i := 14) (v := .agg AL.toArray) (some 56) rfl rfl (by kernel_rfl) (by kernel_rfl) (by kernel_rfl) (fun _ _ _ h => h) (Or.inl ⟨by rfl, fun w' hw => by (have hbt := Ha4.out; go_simp; first | done | (rw [HAL.out]; rfl))⟩) (by assumption) ?_
              simp only [Act.put, List.setIfInBounds_toArray, List.set_cons_zero, List.set_cons_succ]
              refine wpAnyH_ready (rs := [15]) (by kernel_rfl) (by simp) ?_
              refine AllReadyH.cons rfl (fun K hK => ?_) AllReadyH.nil
              refine wp_store_row_toM rfl _ _ _ rfl (g + 1) AL.toArray rfl rfl 47 AZ.toArray HAn5.out Ha1.out Ha2.out Ha3.out ?_
              have hS : Only (fun k => k = g + 1) w5 (w5.setRow (g + 1) AL.toArray) := (Only.refl (fun k => k = g + 1) w5).setRow (.inl rfl) AL.toArray
              have hsz0 := hO5.size
              refine hK.out _ _ ⟨⟨_, M', hQ5.kept (fun b hb => hS.block b (hQ5.Flt b hb) (fun e => by subst e; rcases hb with hb | hb; exact hgF hb; have h9 : W0.heap.size ≤ g + 1 := hb.1; omega)) (fun _ h => h) (fun b hb => Nat.lt_of_lt_of_le (hQ5.Flt b hb) hS.size), hfe⟩, (World.cell?_of_block (hS.block g (by have := HA1.out.lt; omega) (by omega))).trans hS1, (World.cell?_of_block (hS.block g (by have := HA1.out.lt; omega) (by omega))).trans hS2⟩ (fun hHeldy => ?_)
              clear hK K
              try simp only [Act.put, List.setIfInBounds_toArray, List.set_cons_zero, List.set_cons_succ]
              refine wpAnyH_done (by kernel_rfl) ?_ _
              clear hS hS1 hS2 hQ5 hM5 hO5 hHeld hHeldx hHeldy hc0 hc1 hc2 hc4
              go_wp2_with fail
              (try simp only [Exit.inBlock, Exit.then])
              exact bodyPost_ret (v := .agg AL.toArray) (results_cell_row (by rfl) _ _ (g + 1) 47 AL.toArray (0, 0) _ (by rfl) Hset.out Try.underlying47 rfl Ha1.out) rfl (do_post Hr.out HAL.out Hfin.out.1 Hfin.out.2)
            · have hd6 : decide (kd = 6) = false := by simpa using h6
              by_cases h7 : kd = 7
              · have hd7 : decide (kd = 7) = true := by simpa using h7
                obtain ⟨M, mb, hQ, hvs⟩ := HM0.out
                have hlM : M.length ≤ 100000 := by have := HL.out; rw [← hvs, vs_length] at this; exact this
                obtain ⟨L', k, hr⟩ : ∃ L' k, copyL L nm ot qt false = (L', k) := ⟨_, _, rfl⟩
                have Hr := Lib.hid (show doL L o = (L', aE k) by rw [Hdo.out, if_neg h1, if_neg h2, if_neg h3, if_neg h4, if_neg h5, if_neg h6, if_pos h7, hr]; rfl)
                rw [← hvs] at hr
                go_wp2_with fail
                refine Calls.mono (mcopy_any s nm ot hsz hsz2 qt false W0 F M mb hQ hlM L' k hr) ?_
                rintro e w5 ⟨rfl, ⟨M', hQ5, hvs5, _⟩, hO5⟩
                have hM5 : MdL w5 (newF F W0 w5) s L' := ⟨M', mb, hQ5, hvs5⟩
                clear hQ5 hvs5 hQ
                have hAn5 := only_arr HAn.out hO5 hgF
                obtain ⟨AL, hAL⟩ : ∃ z, z = ansC k false (Lib.byteCells zB) nilS := ⟨_, rfl⟩
                obtain ⟨⟨ha1, ha2⟩, ha3, ha4⟩ := HAi.out k AL hAL
                have Ha1 := Lib.hid ha1
                have Ha2 := Lib.hid ha2
                have Ha3 := Lib.hid ha3
                have Ha4 := Lib.hid ha4
                have HAL := Lib.hid hAL
                have Hfin := Lib.hid (fin_md Hb1.out Hfl.out hgl hg1 hM5 hO5 AL.toArray)
                have Hset := Lib.hid (hAn5.setRow AL)
                have HAn5 := Lib.hid hAn5
                clear hM5 hO5 hAL ha1 ha2 ha3 ha4 hAn5 hc0 hc1 hc2 hc4
                go_wp2_with (first | (refine wpList_builtV rfl _ _ rfl _ rfl AL.toArray Ha4.out ?_) | (refine wpList_store_row rfl _ _ _ rfl (g + 1) AL.toArray rfl rfl 47 AZ.toArray HAn5.out Ha1.out Ha2.out Ha3.out ?_))
                (try simp only [Exit.inBlock, Exit.then])
                exact bodyPost_ret (v := .agg AL.toArray) (results_cell_row (by rfl) _ _ (g + 1) 47 AL.toArray (0, 0) _ (by rfl) Hset.out Try.underlying47 rfl Ha1.out) rfl (do_post Hr.out HAL.out Hfin.out.1 Hfin.out.2)
              · have hd7 : decide (kd = 7) = false := by simpa using h7
                by_cases h8 : kd = 8
                · have hd8 : decide (kd = 8) = true := by simpa using h8
                  obtain ⟨M, mb, hQ, hvs⟩ := HM0.out
                  have hlM : M.length ≤ 100000 := by have := HL.out; rw [← hvs, vs_length] at this; exact this
                  have Hr := Lib.hid (show doL L o = (L, (⟨0, false, zB, L.map (·.name)⟩ : Ans)) by rw [Hdo.out, if_neg h1, if_neg h2, if_neg h3, if_neg h4, if_neg h5, if_neg h6, if_neg h7, if_pos h8])
                  go_wp2_with fail
                  refine Calls.mono (mnames_any s mb W0 F M hQ hlM) ?_
                  rintro e w5 ⟨v, rfl, hrow5, hb5⟩
                  have hrw : NmsAt w5 (W0.heap.size + 1) v (L.map (·.name)) := by
                    unfold NmsAt
                    rw [← hvs, List.length_map, vs_length]
                    have e : (List.map (fun x : Vol => x.name) (vs M)).map Value.string = M.map fun m => .string m.v.name := by unfold vs; rw [List.map_map, List.map_map]; rfl
                    rw [e]
                    exact hrow5
                  obtain ⟨A, c, hv⟩ : ∃ A c, v = .slice A M.length c := by
                    rcases hrow5.2 with ⟨e, h0⟩ | ⟨g', cap, cur, e, _⟩
                    · exact ⟨none, 0, by rw [e, h0]⟩
                    · exact ⟨_, cap, e⟩
                  subst hv
                  have hO5 : Only F W0 w5 := Only.of_below hb5
                  have hM5 : MdL w5 (newF F W0 w5) s L := HM0.out.same hb5
                  have hAn5 := only_arr HAn.out hO5 hgF
                  obtain ⟨AL, hAL⟩ : ∃ z, z = ansC 0 false (Lib.byteCells zB) (.slice A M.length c) := ⟨_, rfl⟩
                  have hl5 : AL.length = 51 := by rw [hAL]; exact ansC_length (by simp [Lib.byteCells, zB])
                  have Ha1 := Lib.hid (show (Try.prog.info? 47).map (·.size) = some AL.toArray.size by rw [List.size_toArray, hl5]; exact ansSize)
                  have Ha2 := Lib.hid (show AZ.toArray.size = AL.toArray.size by rw [List.size_toArray, List.size_toArray, hl5, hAZ]; rfl)
                  have Ha3 := Lib.hid (show AL.toArray.all (·.oneCell') = true by rw [hAL]; exact ansC_one rfl)
                  have Ha4 := Lib.hid (show Try.prog.built 47 [(3, .slice A M.length c)] = some AL.toArray by rw [hAL]; exact ans_b3 A M.length c)
                  have HAL := Lib.hid hAL
                  have Hfin := Lib.hid (fin_md Hb1.out Hfl.out hgl hg1 hM5 hO5 AL.toArray)
                  have Hset := Lib.hid (hAn5.setRow AL)
                  have HAn5 := Lib.hid hAn5
                  have Hnms : Hid (NmsAt (w5.setRow (g + 1) AL.toArray) w.heap.size (.slice A M.length c) (L.map (·.name))) := Lib.hid (nms_up (ownsRow_only hrw ((Only.refl (fun k => k = g + 1) w5).setRow (.inl rfl) AL.toArray) fun k hk e => by have := (World.ownsRow.lt hrw k hk).1; omega) (by have := Hb1.out.size; omega))
                  clear hM5 hO5 hAL hAn5 hc0 hc1 hc2 hc4 hl5 hrw hrow5 hQ hvs
                  go_wp2_with (first | (refine wpList_builtV rfl _ _ rfl _ rfl AL.toArray Ha4.out ?_) | (refine wpList_store_row rfl _ _ _ rfl (g + 1) AL.toArray rfl rfl 47 AZ.toArray HAn5.out Ha1.out Ha2.out Ha3.out ?_))
                  (try simp only [Exit.inBlock, Exit.then])
                  exact bodyPost_ret (v := .agg AL.toArray) (results_cell_row (by rfl) _ _ (g + 1) 47 AL.toArray (0, 0) _ (by rfl) Hset.out Try.underlying47 rfl Ha1.out) rfl ⟨.slice A M.length c, by rw [Hr.out, HAL.out]; rfl, by rw [Hr.out]; exact Hnms.out, by rw [Hr.out]; exact Hfin.out.1, Hfin.out.2⟩
                · have hd8 : decide (kd = 8) = false := by simpa using h8
                  have Hr := Lib.hid (show doL L o = (L, aE 1) by rw [Hdo.out, if_neg h1, if_neg h2, if_neg h3, if_neg h4, if_neg h5, if_neg h6, if_neg h7, if_neg h8])
                  obtain ⟨k, hk⟩ : ∃ k : Int, k = 1 := ⟨_, rfl⟩
                  have hM5 : MdL W0 (newF F W0 W0) s L := HM0.out.same (Below.refl _ _)
                  have hO5 : Only F W0 W0 := Only.refl _ _
                  rw [← hk] at Hr
                  have hAn5 := only_arr HAn.out hO5 hgF
                  obtain ⟨AL, hAL⟩ : ∃ z, z = ansC k false (Lib.byteCells zB) nilS := ⟨_, rfl⟩
                  obtain ⟨⟨ha1, ha2⟩, ha3, ha4⟩ := HAi.out k AL hAL
                  have Ha1 := Lib.hid ha1
                  have Ha2 := Lib.hid ha2
                  have Ha3 := Lib.hid ha3
                  have Ha4 := Lib.hid ha4
                  have HAL := Lib.hid hAL
                  have Hfin := Lib.hid (fin_md Hb1.out Hfl.out hgl hg1 hM5 hO5 AL.toArray)
                  have Hset := Lib.hid (hAn5.setRow AL)
                  have HAn5 := Lib.hid hAn5
                  subst hk
                  clear hM5 hO5 hAL ha1 ha2 ha3 ha4 hAn5
                  go_wp2_with (first | (refine wpList_builtV rfl _ _ rfl _ rfl AL.toArray Ha4.out ?_) | (refine wpList_store_row rfl _ _ _ rfl (g + 1) AL.toArray rfl rfl 47 AZ.toArray HAn5.out Ha1.out Ha2.out Ha3.out ?_))
                  (try simp only [Exit.inBlock, Exit.then])
                  exact bodyPost_ret (v := .agg AL.toArray) (results_cell_row (by rfl) _ _ (g + 1) 47 AL.toArray (0, 0) _ (by rfl) Hset.out Try.underlying47 rfl Ha1.out) rfl (do_post Hr.out HAL.out Hfin.out.1 Hfin.out.2)
end Go.Proofs.Ytcajhndhjlfmaaa

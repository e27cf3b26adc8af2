/-
  The document's own Read. Written by gen_pread.py.
-/
import Derived.Test.YtlailhjpfadpcaaPRNode
namespace Go.Proofs.Ytlailhjpfadpcaa
open Go.RowKit
set_option linter.unusedVariables false
set_option linter.unusedSimpArgs false

theorem Arr.setIn {g : Nat} {T : TypeId} : ∀ (vs : List Value) (off : Nat) (cs : List Value) (w : World), Arr w g T cs → off + vs.length ≤ cs.length → Arr (w.setCells g off vs) g T (cs.take off ++ (vs ++ cs.drop (off + vs.length)))
  | [], off, cs, w, h, hl => by
    show Arr w g T _
    simpa using h
  | v :: r, off, cs, w, h, hl => by
    have h1 := Arr.setIn r (off + 1) (cs.set off v) (w.setCell ⟨g, off, none⟩ v) (h.set off v) (by simp at hl ⊢; omega)
    have hlt : off < cs.length := by simp at hl; omega
    have e : (cs.set off v).take (off + 1) ++ (r ++ (cs.set off v).drop (off + 1 + r.length)) = cs.take off ++ (v :: r ++ cs.drop (off + (v :: r).length)) := by
      rw [List.take_succ_eq_append_getElem (by simpa using hlt), List.take_set_of_le (Nat.le_refl _), List.drop_set_of_lt (by omega)]
      simp
      congr 1
      omega
    rw [e] at h1
    exact h1

/-- What Read gives: the node's cells, whether it is one. -/
def ReadP (w' : World) (d : NdR) (r : Bool) (V : Value) : Prop :=
  ∃ (NL : List Value) (lf : Bool) (A1 : Option Addr) (n1 c1 : Nat) (A2 : Option Addr) (n2 c2 : Nat) (hs : List Bool) (ks : List (List UInt8)), V = .tuple #[.agg NL.toArray, .bool r] ∧ NL = rnC lf (.slice A1 n1 c1) (.slice A2 n2 c2) hs ks ∧ RnOk hs ks ∧
    (r = true → lf = d.leaf ∧ n1 = d.told.length ∧ n1 ≤ c1 ∧ c1 ≤ maxLen ∧ Bs w' w'.heap.size A1 d.told ∧ (d.leaf = true → n2 = d.value.length ∧ n2 ≤ c2 ∧ c2 ≤ maxLen ∧ Bs w' w'.heap.size A2 d.value) ∧ (d.leaf = false → hs = hasF d.mask 16 ∧ ks = ksF d.mask d.st 16))

set_option maxHeartbeats 16000000 in
set_option maxRecDepth 100000 in
theorem read_run (b : List UInt8) (A : Option Addr) (n c left : Nat) (hn : b.length = n) (hc : n ≤ c) (hcm : c ≤ maxLen) (hn2 : n ≤ 1000000) (hl : left ≤ 64) (w : World) (hA : Bs w w.heap.size A b) (d : NdR) (hd : ndR 64 b.length b = d) (r : Bool) (hr : d.ok left = r) :
    Calls Try.prog 24 #[.slice A n c, .int .i64 (left : Nat)] w fun e w' => ∃ V, e = .returned V ∧ ReadP w' d r V ∧ Below w.heap.size w w' := by
  obtain ⟨kd, s1, hk⟩ : ∃ kd s1, numS 1 (b, false) = (kd, s1) := ⟨_, _, rfl⟩
  obtain ⟨told, s2, ht⟩ : ∃ told s2, bytS 64 s1 = (told, s2) := ⟨_, _, rfl⟩
  obtain ⟨RZ, hRZ⟩ : ∃ RZ, RZ = rnZ := ⟨_, rfl⟩
  have HRZ := Lib.hid hRZ
  have Hzero := Lib.hid (fun w : World => show (zeroValue 68).run Try.prog w = .ok (.agg RZ.toArray) w by rw [hRZ]; exact rnZero w)
  have Hbuilt := Lib.hid (show Try.prog.built 68 [] = some RZ.toArray by rw [hRZ]; exact rnBuilt)
  have Hzi := Lib.hid (show (Try.prog.info? 68).map (·.size) = some RZ.toArray.size by rw [hRZ, List.size_toArray, rnZ, rnC_length rnZ_ok]; exact rnSize)
  have Hz1 := Lib.hid (show RZ.toArray.all (·.oneCell') = true by rw [hRZ]; exact all_oneCell_toArray (rnC_one rfl rfl))
  obtain ⟨W1, hW1⟩ : ∃ W, W = w.alloc (.cells RZ.toArray 68) := ⟨_, rfl⟩
  obtain ⟨W2, hW2⟩ : ∃ W, W = W1.alloc (.cells #[.slice A n c, .int .i64 0, .bool false] 87) := ⟨_, rfl⟩
  obtain ⟨W3, hW3⟩ : ∃ W, W = (W2.alloc (.cells RZ.toArray 68)).setRow W2.heap.size RZ.toArray := ⟨_, rfl⟩
  have hz1 : W1.heap.size = w.heap.size + 1 := by rw [hW1]; simp
  have hz2 : W2.heap.size = w.heap.size + 2 := by rw [hW2]; simp [hz1]
  have hR1 : Arr W1 w.heap.size 68 RZ := by rw [hW1]; exact Arr.new w _ _
  have hb1 : Below w.heap.size w W1 := by rw [hW1]; exact (Below.refl _ w).alloc (Nat.le_refl _) _
  have hb2 : Below w.heap.size w W2 := by rw [hW2]; exact hb1.alloc hb1.size _
  have hb12 : Below W1.heap.size W1 W2 := by rw [hW2]; exact (Below.refl _ W1).alloc (Nat.le_refl _) _
  obtain ⟨hN3, hb23⟩ := alloc_row W2 68 RZ.toArray RZ
  rw [← hW3] at hN3 hb23
  have hR3 : Arr W3 w.heap.size 68 RZ := (hR1.below hb12 hR1.lt).below hb23 (by omega)
  have hb3 : Below w.heap.size w W3 := hb2.trans (hb23.mono hb2.size)
  have hst2 : RSt W2 (w.heap.size + 1) b A c (b, false) := by
    refine ⟨⟨0, ?_, ⟨fun _ => rfl, (fun h => by cases h), Nat.zero_le _⟩⟩, ⟨by omega, by omega, hcm, (hA.below hb2 (Nat.le_refl _)).more (by omega)⟩⟩
    unfold RIn
    rw [hW2, hn, ← hz1]
    exact heap_alloc_new W1 _
  have hst3 : RSt W3 (w.heap.size + 1) b A c (b, false) := hst2.low ⟨hb23.size, fun k hk => hb23.block k (by omega)⟩
  obtain ⟨q, hq⟩ : ∃ q, q = w.heap.size + 1 := ⟨_, rfl⟩
  obtain ⟨g, hg⟩ : ∃ g, g = w.heap.size + 2 := ⟨_, rfl⟩
  rw [hz2, ← hg] at hN3
  rw [← hq] at hst3
  have hwq : w.heap.size < q := by omega
  have hqg : q < g := by omega
  have Hg2 : Hid (W2.heap.size = g) := by show _ = _; rw [hz2, hg]
  have Hq1 : Hid (W1.heap.size = q) := by show _ = _; rw [hz1, hq]
  have HW1 := Lib.hid hW1
  have HW2 := Lib.hid hW2
  have HW3 := Lib.hid hW3
  have Hk := Lib.hid hk
  have Ht := Lib.hid ht
  have Hn := Lib.hid hn
  have Hd := Lib.hid hd
  have Hr := Lib.hid hr
  clear hRZ hW1 hW2 hW3 hz1 hz2 hR1 hb1 hb2 hb12 hb23 hst2 hq hg hk ht hn hd hr hA
  go_enter Try.func24, Try.ntmps24
  go_upto_region 1 with (refine wpList_allocZ rfl 68 rfl RZ.toArray (Hzero.out _) ?_; rw [← HW1.out])
  go_upto_region 2 with fail
  rw [Hq1.out]
  change Code.wp _ _ _ _ (W1.alloc (.cells #[.slice A n c, .int .i64 0, .bool false] 87))
  rw [← HW2.out]
  clear HW1 HW2 Hq1
  obtain ⟨hs0, hhs0⟩ : ∃ h, h = List.replicate 16 false := ⟨_, rfl⟩
  obtain ⟨ks0, hks0⟩ : ∃ k, k = List.replicate 16 zeros := ⟨_, rfl⟩
  have hok0 : RnOk hs0 ks0 := by rw [hhs0, hks0]; exact rnZ_ok
  have hRZ0 : RZ = rnC false (.slice none 0 0) (.slice none 0 0) hs0 ks0 := by rw [HRZ.out, hhs0, hks0]; rfl
  have Hhs0 := Lib.hid hhs0
  have Hks0 := Lib.hid hks0
  rw [hRZ0] at hN3
  have HRZ0 := Lib.hid hRZ0
  have Hlen : Hid (∀ lf bg vl hs ks, RnOk hs ks → (Try.prog.info? 68).map (·.size) = some (rnC lf bg vl hs ks).length) := fun lf bg vl hs ks h => by rw [rnC_length h]; exact rnSize
  clear hRZ0 hhs0 hks0 HRZ
  go_upto_region 3 with (first
    | (refine wpList_builtP rfl _ _ rfl [] rfl RZ.toArray Hbuilt.out ?_)
    | (refine wpList_allocZ rfl 68 rfl RZ.toArray (Hzero.out _) ?_)
    | (refine wpList_store_row rfl _ _ _ rfl W2.heap.size RZ.toArray rfl rfl 68 RZ.toArray (heap_alloc_new W2 _) Hzi.out rfl Hz1.out ?_; rw [← HW3.out]))
  rw [Hg2.out]
  clear HW3 Hg2 Hbuilt
  go_wp2_with fail
  go_at_call 38
  refine Calls.mono (rnum_s q 1 b A c (b, false) kd s1 Hk.out W3 hst3 (by omega)) ?_
  rintro e w4 ⟨rfl, hst4, ht4⟩
  have hN4 := hN3.turnP ht4 (by omega)
  have hR4 := hR3.turnP ht4 (by omega)
  have hb4 : Below w.heap.size w w4 := hb3.trans (ht4.below hb3.size (Nat.le_of_lt hwq))
  clear hst3 ht4 hN3 hR3 hb3
  dsimp only
  obtain ⟨lf, hlf⟩ : ∃ lf, ((kd : Int) == 0) = lf := ⟨_, rfl⟩
  have h40 : w4.cell? ⟨g, 0, none⟩ = some (.bool false) := hN4.cell 0
  have f40 := hN4.frozen 0
  obtain ⟨w5, hw5⟩ : ∃ x, x = w4.setCell ⟨g, 0, none⟩ (.bool lf) := ⟨_, rfl⟩
  have hN5 : Arr w5 g 68 (rnC lf (.slice none 0 0) (.slice none 0 0) hs0 ks0) := by rw [hw5]; exact hN4.set 0 _
  have hR5 : Arr w5 w.heap.size 68 RZ := by rw [hw5]; exact hR4.setOther (show w.heap.size ≠ g by omega) _
  have hb45 : Only (fun k => k = g) w4 w5 := by rw [hw5]; exact (Only.refl (fun k => k = g) w4).setCell (p := ⟨g, 0, none⟩) (.inl rfl) _
  have hb5 : Below w.heap.size w w5 := hb4.trans (hb45.below hb4.size (fun k hk => by omega))
  have hst5 : RSt w5 q b A c s1 := hst4.low ⟨hb45.size, fun k hk => hb45.block k (by have := hst4.lt; omega) (by omega)⟩
  have Hw5 := Lib.hid hw5
  have Hlf := Lib.hid hlf
  clear hw5 hN4 hR4 hb4 hst4 hb45
  go_upto_region 4 with fail
  rw [← Hw5.out]
  clear Hw5 h40 f40 hlf
  go_wp2_with fail
  go_at_call 39
  refine Calls.mono (rbytes_s q 64 b A c s1 told s2 Ht.out w5 hst5 (by omega) (by omega)) ?_
  rintro e w6 ⟨A1, c1, rfl, h11, h12, hown6, hst6, ht6⟩
  have hN6 := hN5.turnP ht6 (by omega)
  have hR6 := hR5.turnP ht6 (by omega)
  have hb6 : Below w.heap.size w w6 := hb5.trans (ht6.below hb5.size (Nat.le_of_lt hwq))
  have hg5 : g < w5.heap.size := hN5.lt
  have hO6 := hown6.base (B' := g + 1) (by omega)
  clear hst5 ht6 hN5 hR5 hb5 hown6
  dsimp only
  obtain ⟨n1, hn1⟩ : ∃ n1, told.length = n1 := ⟨_, rfl⟩
  rw [hn1] at h11 hO6 ⊢
  have H1 := Lib.hid hn1
  have hn64 : n1 ≤ 64 := by rw [← hn1, show told = (bytS (64 : Nat) s1).1 by rw [show ((64 : Nat) : Int) = 64 from rfl, Ht.out]]; exact bytS_len 64 s1
  clear hn1
  have h61 : w6.cell? ⟨g, 1, none⟩ = some (.slice none 0 0) := hN6.cell 1
  have f61 := hN6.frozen 1
  obtain ⟨w7, hw7⟩ : ∃ x, x = w6.setCell ⟨g, 1, none⟩ (.slice A1 n1 c1) := ⟨_, rfl⟩
  have hN7 : Arr w7 g 68 (rnC lf (.slice A1 n1 c1) (.slice none 0 0) hs0 ks0) := by rw [hw7]; exact hN6.set 1 _
  have hR7 : Arr w7 w.heap.size 68 RZ := by rw [hw7]; exact hR6.setOther (show w.heap.size ≠ g by omega) _
  have hb67 : Only (fun k => k = g) w6 w7 := by rw [hw7]; exact (Only.refl (fun k => k = g) w6).setCell (p := ⟨g, 1, none⟩) (.inl rfl) _
  have hb7 : Below w.heap.size w w7 := hb6.trans (hb67.below hb6.size (fun k hk => by omega))
  have hst7 : RSt w7 q b A c s2 := hst6.low ⟨hb67.size, fun k hk => hb67.block k (by have := hst6.lt; omega) (by omega)⟩
  have hO7 : Owns w7 (g + 1) 5 (.slice A1 n1 c1) told := hO6.apart hb67.grown (fun k hk e => by have := (hO6.lt k hk).1; injection e with e; omega)
  have Hw7 := Lib.hid hw7
  clear hw7 hN6 hR6 hb6 hst6 hb67 hO6
  go_upto_region 5 with fail
  rw [← Hw7.out]
  clear Hw7 h61 f61
  have hT7 : Bs w7 w7.heap.size A1 told := hO7.bs.2
  have h70 : w7.cell? ⟨g, 0, none⟩ = some (.bool lf) := hN7.cell 0
  have h71 : w7.cell? ⟨g, 1, none⟩ = some (.slice A1 n1 c1) := hN7.cell 1
  have hwr : w7.cell? ⟨q, 2, none⟩ = some (.bool s2.2) := hst7.wrongCell
  obtain ⟨NL, hNL⟩ : ∃ NL, NL = rnC lf (.slice A1 n1 c1) (.slice none 0 0) hs0 ks0 := ⟨_, rfl⟩
  have hN7' := hN7
  rw [← hNL] at hN7'
  have HNi := Lib.hid (show (Try.prog.info? 68).map (·.size) = some NL.toArray.size by rw [List.size_toArray, hNL, rnC_length hok0]; exact rnSize)
  have HN1 := Lib.hid (show NL.toArray.all (·.oneCell') = true by rw [hNL]; exact all_oneCell_toArray (rnC_one rfl rfl))
  have HNz := Lib.hid (show RZ.toArray.size = NL.toArray.size by rw [List.size_toArray, List.size_toArray, hNL, HRZ0.out, rnC_length hok0, rnC_length hok0])
  have hRF : Arr (w7.setRow w.heap.size NL.toArray) w.heap.size 68 NL := hR7.setRow NL
  have hbF : Below w.heap.size w (w7.setRow w.heap.size NL.toArray) := hb7.trans (((Only.refl (fun k => k = w.heap.size) w7).setRow (.inl rfl) NL.toArray).below hb7.size (fun k hk => by omega))
  have HNL := Lib.hid hNL
  clear hNL
  have hfinB : Hid (∀ (W : World), r = false → ReadP W d r (.tuple #[.agg NL.toArray, .bool false])) := fun W hr => by
    subst hr
    exact ⟨NL, lf, A1, n1, c1, none, 0, 0, hs0, ks0, rfl, HNL.out, hok0, fun h => by cases h⟩
  have hokd : Hid (s2.2 = true ∨ nibsB told = false → r = false) := by
    intro h
    rw [← Hr.out, ← Hd.out]
    have ht1 : (bytS 64 (numS 1 (b, false)).2).1 = told ∧ (bytS 64 (numS 1 (b, false)).2).2 = s2 := by rw [Hk.out]; simp only; rw [Ht.out]; exact ⟨rfl, rfl⟩
    cases hq : (ndR 64 b.length b).ok left with
    | false => rfl
    | true =>
      exfalso
      rcases h with h | h
      · have h1 := ok_done hq
        have h2 := ndR_fin_bad (most := 64) (top := b.length) (b := b) (by rw [show ((64 : Nat) : Int) = 64 from rfl, ht1.2]; exact h)
        rw [h2] at h1
        cases h1
      · unfold NdR.ok at hq
        have h3 : (ndR 64 b.length b).told = told := by rw [← ht1.1]; unfold ndR; split <;> rfl
        rw [h3, h] at hq
        simp at hq
  go_upto_region 6 with fail
  go_loop [8] (fun x => ∃ k : Nat, k ≤ n1 ∧ x = .int .i64 k ∧ Hid (nibsB (told.take k) = true)) (fun x => n1 - (intOf x).toNat)
  case atStart => exact ⟨0, by omega, rfl, rfl⟩
  case round =>
    obtain ⟨k, hkn, rfl, hnib⟩ := hrel
    by_cases hlt : k < n1
    · obtain ⟨bb, off, x, rfl, hbB, hcx, hx, Hx⟩ := hT7.at_ (show k < told.length by rw [H1.out]; exact hlt)
      have hd1 : decide (k < n1) = true := by simpa using hlt
      by_cases hx16 : x < 16
      · have hok2 : Hid (nibsB (told.take (k + 1)) = true) := by
          show _ = _
          rw [nibsB_take (by rw [H1.out]; exact hlt) hnib.out Hx.out]
          simpa using hx16
        have hd2 : decide ((15 : Int) < (x : Int)) = false := by simp; omega
        go_wp2_with fail
        go_round
        case rel => exact ⟨k + 1, by omega, by go_num, hok2⟩
        case measure => simp [intOf]; omega
      · have hd2 : decide ((15 : Int) < (x : Int)) = true := by simp; omega
        have hf := nibsB_bad (by rw [H1.out]; exact hlt) Hx.out (by omega)
        have hrf := hokd.out (.inr hf)
        have Hrf := Lib.hid hrf
        clear hrf hf
        go_wp2_with (first
          | (refine wpList_load_row rfl _ _ rfl g rfl 68 NL.toArray (0, 0) _ hN7' Try.underlying68 rfl HNi.out ?_)
          | (refine wpList_store_row rfl _ _ _ rfl w.heap.size NL.toArray rfl rfl 68 RZ.toArray hR7 HNi.out HNz.out HN1.out ?_))
        obtain ⟨V, hV⟩ : ∃ V, V = Value.tuple #[.agg NL.toArray, .bool false] := ⟨_, rfl⟩
        refine bodyPost_ret (v := V) ?hx1 ?h2 ?h3
        case hx1 => rw [hV]; exact results_cell2P (fn := Try.f24) (by rfl) _ _ w.heap.size 68 NL.toArray (0, 0) _ (by rfl) _ (by rfl) hRF Try.underlying68 rfl HNi.out
        case h2 => rfl
        case h3 => exact ⟨V, rfl, by rw [hV]; exact hfinB.out _ Hrf.out, hbF⟩
    · obtain rfl : k = n1 := by omega
      have hd1 : decide (k < k) = false := by simp
      have hnt : nibsB told = true := by
        have := hnib.out
        rwa [List.take_of_length_le (by rw [H1.out]; exact Nat.le_refl _)] at this
      have Hnt := Lib.hid hnt
      clear hnt hlt hkn hnib
      cases hw2 : s2.2 with
      | true =>
        rw [hw2] at hwr
        have Hrf := Lib.hid (hokd.out (.inl hw2))
        clear hw2
        go_wp2_with (first
          | (refine wpList_load_row rfl _ _ rfl g rfl 68 NL.toArray (0, 0) _ hN7' Try.underlying68 rfl HNi.out ?_)
          | (refine wpList_store_row rfl _ _ _ rfl w.heap.size NL.toArray rfl rfl 68 RZ.toArray hR7 HNi.out HNz.out HN1.out ?_))
        obtain ⟨V, hV⟩ : ∃ V, V = Value.tuple #[.agg NL.toArray, .bool false] := ⟨_, rfl⟩
        refine bodyPost_ret (v := V) ?hx1 ?h2 ?h3
        case hx1 => rw [hV]; exact results_cell2P (fn := Try.f24) (by rfl) _ _ w.heap.size 68 NL.toArray (0, 0) _ (by rfl) _ (by rfl) hRF Try.underlying68 rfl HNi.out
        case h2 => rfl
        case h3 => exact ⟨V, rfl, by rw [hV]; exact hfinB.out _ Hrf.out, hbF⟩
      | false =>
        rw [hw2] at hwr
        clear hRF hbF HN1 HNi HNz hN7' HNL hfinB hokd
        cases lf with
        | true =>
          obtain ⟨val, s3, hv⟩ : ∃ val s3, bytS b.length s2 = (val, s3) := ⟨_, _, rfl⟩
          have Hv := Lib.hid (show bytS n s2 = (val, s3) by rw [← Hn.out]; exact hv)
          have hkd0 : kd = 0 := by have := Hlf.out; rw [beq_iff_eq] at this; omega
          have hdE : d = ⟨true, told, val, 0, s3, s3⟩ := by
            rw [← Hd.out]
            unfold ndR
            rw [Hk.out]
            simp only
            rw [show ((64 : Nat) : Int) = 64 from rfl, Ht.out, if_pos hkd0]
            simp only
            rw [hv]
          have HdE := Lib.hid hdE
          clear hv hkd0 hdE
          go_wp2_with fail
          go_at_call 39
          refine Calls.mono (rbytes_s q (n : Nat) b A c s2 val s3 Hv.out w7 hst7 (by omega) (by omega)) ?_
          rintro e w8 ⟨A2, c2, rfl, h21, h22, hown8, hst8, ht8⟩
          have hN8 := hN7.turnP ht8 (by omega)
          have hR8 := hR7.turnP ht8 (by omega)
          have hb8 : Below w.heap.size w w8 := hb7.trans (ht8.below hb7.size (Nat.le_of_lt hwq))
          have hg7 : g < w7.heap.size := hN7.lt
          have hO8 : Owns w8 (g + 1) 5 (.slice A1 k c1) told := hO7.apart ht8 (fun k hk e => by have := (hO7.lt k hk).1; injection e with e; omega)
          have hU8 := hown8.base (B' := g + 1) (by omega)
          clear hst7 ht8 hN7 hR7 hb7 hown8 hO7 hT7 h70 h71 hwr
          dsimp only
          obtain ⟨n2, hn2⟩ : ∃ n2, val.length = n2 := ⟨_, rfl⟩
          rw [hn2] at h21 hU8 ⊢
          have H2 := Lib.hid hn2
          clear hn2
          have h82 : w8.cell? ⟨g, 2, none⟩ = some (.slice none 0 0) := hN8.cell 2
          have f82 := hN8.frozen 2
          obtain ⟨w9, hw9⟩ : ∃ x, x = w8.setCell ⟨g, 2, none⟩ (.slice A2 n2 c2) := ⟨_, rfl⟩
          have hN9 : Arr w9 g 68 (rnC true (.slice A1 k c1) (.slice A2 n2 c2) hs0 ks0) := by rw [hw9]; exact hN8.set 2 _
          have hR9 : Arr w9 w.heap.size 68 RZ := by rw [hw9]; exact hR8.setOther (show w.heap.size ≠ g by omega) _
          have hb89 : Only (fun k => k = g) w8 w9 := by rw [hw9]; exact (Only.refl (fun k => k = g) w8).setCell (p := ⟨g, 2, none⟩) (.inl rfl) _
          have hb9 : Below w.heap.size w w9 := hb8.trans (hb89.below hb8.size (fun k hk => by omega))
          have hst9 : RSt w9 q b A c s3 := hst8.low ⟨hb89.size, fun k hk => hb89.block k (by have := hst8.lt; omega) (by omega)⟩
          have hO9 : Owns w9 (g + 1) 5 (.slice A1 k c1) told := hO8.apart hb89.grown (fun k hk e => by have := (hO8.lt k hk).1; injection e with e; omega)
          have hU9 : Owns w9 (g + 1) 5 (.slice A2 n2 c2) val := hU8.apart hb89.grown (fun k hk e => by have := (hU8.lt k hk).1; injection e with e; omega)
          have Hw9 := Lib.hid hw9
          clear hw9 hN8 hR8 hb8 hst8 hb89 hO8 hU8
          go_upto_region 14 with fail
          rw [← Hw9.out]
          clear Hw9 h82 f82
          obtain ⟨NL, hNL⟩ : ∃ NL, NL = rnC true (.slice A1 k c1) (.slice A2 n2 c2) hs0 ks0 := ⟨_, rfl⟩
          rw [← hNL] at hN9
          have HNi := Lib.hid (show (Try.prog.info? 68).map (·.size) = some NL.toArray.size by rw [List.size_toArray, hNL, rnC_length hok0]; exact rnSize)
          have HNj := Lib.hid (show (Try.prog.info? 68).map (·.size) = some NL.length by rw [hNL, rnC_length hok0]; exact rnSize)
          have HN1 := Lib.hid (show NL.toArray.all (·.oneCell') = true by rw [hNL]; exact all_oneCell_toArray (rnC_one rfl rfl))
          have HNz := Lib.hid (show RZ.toArray.size = NL.toArray.size by rw [List.size_toArray, List.size_toArray, hNL, HRZ0.out, rnC_length hok0, rnC_length hok0])
          have Hc1 : Hid (∀ w' : World, Arr w' g 68 NL → w'.cell? ⟨g, 1, none⟩ = some (.slice A1 k c1)) := fun w' h => by rw [h.cell, hNL]; rfl
          have HNL := Lib.hid hNL
          obtain ⟨dn, hdn⟩ : ∃ dn, (doneF s3.1 s3.2 == 0) = dn := ⟨_, rfl⟩
          obtain ⟨f1, hf1⟩ : ∃ f1, ((k : Int) == (left : Int)) = f1 := ⟨_, rfl⟩
          have Hres : Hid ((dn && f1) = r) := by
            show _ = _
            rw [← Hr.out, HdE.out, ← hdn, ← hf1]
            unfold NdR.ok NdR.fits
            simp only [if_true]
            rw [Hnt.out, Bool.and_true, Bool.and_comm, H1.out]
            congr 1
            rw [Bool.eq_iff_iff, beq_iff_eq, beq_iff_eq]
            omega
          have Hdn := Lib.hid hdn
          clear hNL hdn
          refine wp_region_held_drew (S := fun w' => Arr w' g 68 NL) (by kernel_rfl) (hN9.drewN 1) (fun hHeld => ?_)
          refine anyH_take (i := 0) (some 49) rfl rfl (by kernel_rfl) (by kernel_rfl) (by kernel_rfl) (fun _ _ _ h => h) (yieldsIf_load_mid (by rfl) 68 (.tmp 7) rfl g 0 rfl NL _ (fun w' h => h.range) Try.underlying68 rfl HNj.out) (by assumption) ?_
          simp only [Act.put, List.setIfInBounds_toArray, List.set_cons_zero, List.set_cons_succ]
          refine anyH_take (i := 1) (v := .pointer (some ⟨q, 0, none⟩)) (some 50) rfl rfl (by kernel_rfl) (by kernel_rfl) (by kernel_rfl) (fun _ _ _ h => h) (Or.inl ⟨by rfl, fun w' hw => by go_simp⟩) (by assumption) ?_
          simp only [Act.put, List.setIfInBounds_toArray, List.set_cons_zero, List.set_cons_succ]
          refine wpAnyH_ready (rs := [2]) (by kernel_rfl) (by simp) ?_
          refine AllReadyH.cons rfl (fun K hK => ?_) AllReadyH.nil
          go_simp
          go_at_call 40
          refine Calls.mono (rdone_s q b A c s3 (w9.drewN 1) (hst9.low ⟨Nat.le_refl _, fun _ _ => rfl⟩)) ?_
          rintro e wx ⟨rfl, kk, hwx⟩
          have hNX : Arr wx g 68 NL := by rw [hwx]; exact hN9
          have hRX : Arr wx w.heap.size 68 RZ := by rw [hwx]; exact hR9
          have hbX : Below w.heap.size w wx := by rw [hwx]; exact Below.dN (Below.dN hb9 1) kk
          have hOX : Owns wx (g + 1) 5 (.slice A1 k c1) told := by rw [hwx]; exact hO9
          have hUX : Owns wx (g + 1) 5 (.slice A2 n2 c2) val := by rw [hwx]; exact hU9
          clear hwx hN9 hR9 hb9 hO9 hU9 hst9
          obtain ⟨WX, hWX⟩ : ∃ W, W = wx := ⟨_, rfl⟩
          subst hWX
          dsimp only
          go_wp2_with fail
          refine hK.out _ _ hNX (fun hHeldx => ?_)
          clear hK K
          try simp only [Act.put, List.setIfInBounds_toArray, List.set_cons_zero, List.set_cons_succ]
          have hfin : Hid (ReadP (WX.setCells w.heap.size 0 NL) d r (.tuple #[.agg NL.toArray, .bool r])) := by
            have hOn : Only (fun k => k = w.heap.size) WX (WX.setCells w.heap.size 0 NL) := Only.setCells (R := fun k => k = w.heap.size) rfl NL 0 WX (Only.refl _ _)
            have hOF : Owns (WX.setCells w.heap.size 0 NL) (g + 1) 5 (.slice A1 k c1) told := hOX.apart hOn.grown (fun k hk e => by have := (hOX.lt k hk).1; injection e with e; omega)
            have hUF : Owns (WX.setCells w.heap.size 0 NL) (g + 1) 5 (.slice A2 n2 c2) val := hUX.apart hOn.grown (fun k hk e => by have := (hUX.lt k hk).1; injection e with e; omega)
            refine ⟨NL, true, A1, k, c1, A2, n2, c2, hs0, ks0, rfl, HNL.out, hok0, fun _ => ?_⟩
            rw [HdE.out]
            exact ⟨rfl, H1.out.symm, h11, h12, hOF.bs.2, fun _ => ⟨H2.out.symm, h21, h22, hUF.bs.2⟩, fun h => by cases h⟩
          have hth : WX.there w.heap.size 0 NL.toArray.size := Arr.thereP hRX (by rw [← HNz.out, List.size_toArray]; exact Nat.le_refl _)
          have hRY := Arr.setCells NL 0 RZ WX hRX (by have := HNz.out; simp only [List.size_toArray] at this; omega)
          rw [List.take_zero, List.nil_append] at hRY
          have hOY : Only (fun k => k = w.heap.size) WX (WX.setCells w.heap.size 0 NL) := Only.setCells (R := fun k => k = w.heap.size) rfl NL 0 WX (Only.refl _ _)
          obtain ⟨WY, hWY⟩ : ∃ W, W = WX.setCells w.heap.size 0 NL := ⟨_, rfl⟩
          rw [← hWY] at hRY hOY
          have HWY := Lib.hid hWY
          clear hWY
          have hNY : Arr WY g 68 NL := hNX.only hOY (by omega)
          have hfin' := hfin.out
          rw [← HWY.out] at hfin'
          have hfin := Lib.hid hfin'
          clear hfin'
          cases dn with
          | false =>
            obtain rfl : false = r := by simpa using Hres.out
            refine anyH_take (i := 3) (v := .bool false) (some 52) rfl rfl (by kernel_rfl) (by kernel_rfl) (by kernel_rfl) (fun _ _ _ h => h) (Or.inl ⟨by rfl, fun w' hw => by (have hr := Hdn.out; go_simp)⟩) (by assumption) ?_
            simp only [Act.put, List.setIfInBounds_toArray, List.set_cons_zero, List.set_cons_succ]
            refine anyH_take (i := 4) (v := .bool false) (some 53) rfl rfl (by kernel_rfl) (by kernel_rfl) (by kernel_rfl) (fun _ _ _ h => h) (Or.inl ⟨by rfl, fun w' hw => by go_simp⟩) (by assumption) ?_
            simp only [Act.put, List.setIfInBounds_toArray, List.set_cons_zero, List.set_cons_succ]
            refine anyH_take (i := 5) (v := undef) (some 54) rfl rfl (by kernel_rfl) (by kernel_rfl) (by kernel_rfl) (fun _ _ _ h => h) (Or.inr ⟨by rfl, rfl⟩) (by assumption) ?_
            simp only [Act.put, List.setIfInBounds_toArray, List.set_cons_zero, List.set_cons_succ]
            refine anyH_take (i := 6) (v := undef) (some 55) rfl rfl (by kernel_rfl) (by kernel_rfl) (by kernel_rfl) (fun _ _ _ h => h) (Or.inr ⟨by rfl, rfl⟩) (by assumption) ?_
            simp only [Act.put, List.setIfInBounds_toArray, List.set_cons_zero, List.set_cons_succ]
            refine anyH_take (i := 7) (v := undef) (some 56) rfl rfl (by kernel_rfl) (by kernel_rfl) (by kernel_rfl) (fun _ _ _ h => h) (Or.inr ⟨by rfl, rfl⟩) (by assumption) ?_
            simp only [Act.put, List.setIfInBounds_toArray, List.set_cons_zero, List.set_cons_succ]
            refine anyH_take (i := 8) (v := undef) (some 57) rfl rfl (by kernel_rfl) (by kernel_rfl) (by kernel_rfl) (fun _ _ _ h => h) (Or.inr ⟨by rfl, rfl⟩) (by assumption) ?_
            simp only [Act.put, List.setIfInBounds_toArray, List.set_cons_zero, List.set_cons_succ]
            refine anyH_take (i := 9) (v := undef) (some 58) rfl rfl (by kernel_rfl) (by kernel_rfl) (by kernel_rfl) (fun _ _ _ h => h) (Or.inr ⟨by rfl, rfl⟩) (by assumption) ?_
            simp only [Act.put, List.setIfInBounds_toArray, List.set_cons_zero, List.set_cons_succ]
            refine anyH_take (i := 10) (v := .bool false) (some 59) rfl rfl (by kernel_rfl) (by kernel_rfl) (by kernel_rfl) (fun _ _ _ h => h) (Or.inl ⟨by rfl, fun w' hw => by go_simp⟩) (by assumption) ?_
            simp only [Act.put, List.setIfInBounds_toArray, List.set_cons_zero, List.set_cons_succ]
            refine wpAnyH_ready (rs := [11]) (by kernel_rfl) (by simp) ?_
            refine AllReadyH.cons rfl (fun K hK => ?_) AllReadyH.nil
            rw [if_pos (by rfl)]
            refine store_toP rfl 68 _ _ rfl w.heap.size 0 NL.toArray rfl rfl hth HNi.out HN1.out ?_
            try rw [show NL.toArray.toList = NL from rfl]
            rw [← HWY.out]
            refine hK.out _ _ hNY (fun hHeldx => ?_)
            clear hK K
            try simp only [Act.put, List.setIfInBounds_toArray, List.set_cons_zero, List.set_cons_succ]
            refine anyH_take (i := 12) (v := .bool false) (some 5) rfl rfl (by kernel_rfl) (by kernel_rfl) (by kernel_rfl) (fun _ _ _ h => h) (Or.inl ⟨by rfl, fun w' hw => by go_simp⟩) (by assumption) ?_
            simp only [Act.put, List.setIfInBounds_toArray, List.set_cons_zero, List.set_cons_succ]
            refine wpAnyH_done (by kernel_rfl) ?_ _
            clear hHeld hHeldx
            go_wp2_with fail
            obtain ⟨V, hV⟩ : ∃ V, V = Value.tuple #[.agg NL.toArray, .bool false] := ⟨_, rfl⟩
            refine bodyPost_ret (v := V) ?hx1 ?h2 ?h3
            case hx1 => rw [hV]; exact results_cell2P (fn := Try.f24) (by rfl) _ _ w.heap.size 68 NL.toArray (0, 0) _ (by rfl) _ (by rfl) hRY Try.underlying68 rfl HNi.out
            case h2 => rfl
            case h3 => exact ⟨V, rfl, by rw [hV]; exact hfin.out, hbX.trans (hOY.below hbX.size (fun k hk => by omega))⟩
          | true =>
            cases f1 with
            | false =>
              obtain rfl : false = r := by simpa using Hres.out
              refine anyH_take (i := 3) (v := .bool true) (some 52) rfl rfl (by kernel_rfl) (by kernel_rfl) (by kernel_rfl) (fun _ _ _ h => h) (Or.inl ⟨by rfl, fun w' hw => by (have hr := Hdn.out; go_simp)⟩) (by assumption) ?_
              simp only [Act.put, List.setIfInBounds_toArray, List.set_cons_zero, List.set_cons_succ]
              refine anyH_take (i := 4) (v := .bool true) (some 53) rfl rfl (by kernel_rfl) (by kernel_rfl) (by kernel_rfl) (fun _ _ _ h => h) (Or.inl ⟨by rfl, fun w' hw => by go_simp⟩) (by assumption) ?_
              simp only [Act.put, List.setIfInBounds_toArray, List.set_cons_zero, List.set_cons_succ]
              refine anyH_take (i := 5) (v := .pointer (some ⟨g, 1, none⟩)) (some 54) rfl rfl (by kernel_rfl) (by kernel_rfl) (by kernel_rfl) (fun _ _ _ h => h) (Or.inl ⟨by rfl, fun w' hw => by go_simp⟩) (by assumption) ?_
              simp only [Act.put, List.setIfInBounds_toArray, List.set_cons_zero, List.set_cons_succ]
              refine anyH_take (i := 6) (v := .slice A1 k c1) (some 55) rfl rfl (by kernel_rfl) (by kernel_rfl) (by kernel_rfl) (fun _ _ _ h => h) (Or.inl ⟨by rfl, fun w' hw => by (have hc := Hc1.out w' hw; go_simp)⟩) (by assumption) ?_
              simp only [Act.put, List.setIfInBounds_toArray, List.set_cons_zero, List.set_cons_succ]
              refine anyH_take (i := 7) (v := .int .i64 (k : Nat)) (some 56) rfl rfl (by kernel_rfl) (by kernel_rfl) (by kernel_rfl) (fun _ _ _ h => h) (Or.inl ⟨by rfl, fun w' hw => by go_simp⟩) (by assumption) ?_
              simp only [Act.put, List.setIfInBounds_toArray, List.set_cons_zero, List.set_cons_succ]
              refine anyH_take (i := 8) (v := .int .i64 (left : Nat)) (some 57) rfl rfl (by kernel_rfl) (by kernel_rfl) (by kernel_rfl) (fun _ _ _ h => h) (Or.inl ⟨by rfl, fun w' hw => by go_simp⟩) (by assumption) ?_
              simp only [Act.put, List.setIfInBounds_toArray, List.set_cons_zero, List.set_cons_succ]
              refine anyH_take (i := 9) (v := .bool false) (some 58) rfl rfl (by kernel_rfl) (by kernel_rfl) (by kernel_rfl) (fun _ _ _ h => h) (Or.inl ⟨by rfl, fun w' hw => by (have hr := hf1; go_simp)⟩) (by assumption) ?_
              simp only [Act.put, List.setIfInBounds_toArray, List.set_cons_zero, List.set_cons_succ]
              refine anyH_take (i := 10) (v := .bool false) (some 59) rfl rfl (by kernel_rfl) (by kernel_rfl) (by kernel_rfl) (fun _ _ _ h => h) (Or.inl ⟨by rfl, fun w' hw => by go_simp⟩) (by assumption) ?_
              simp only [Act.put, List.setIfInBounds_toArray, List.set_cons_zero, List.set_cons_succ]
              refine wpAnyH_ready (rs := [11]) (by kernel_rfl) (by simp) ?_
              refine AllReadyH.cons rfl (fun K hK => ?_) AllReadyH.nil
              rw [if_pos (by rfl)]
              refine store_toP rfl 68 _ _ rfl w.heap.size 0 NL.toArray rfl rfl hth HNi.out HN1.out ?_
              try rw [show NL.toArray.toList = NL from rfl]
              rw [← HWY.out]
              refine hK.out _ _ hNY (fun hHeldx => ?_)
              clear hK K
              try simp only [Act.put, List.setIfInBounds_toArray, List.set_cons_zero, List.set_cons_succ]
              refine anyH_take (i := 12) (v := .bool false) (some 5) rfl rfl (by kernel_rfl) (by kernel_rfl) (by kernel_rfl) (fun _ _ _ h => h) (Or.inl ⟨by rfl, fun w' hw => by go_simp⟩) (by assumption) ?_
              simp only [Act.put, List.setIfInBounds_toArray, List.set_cons_zero, List.set_cons_succ]
              refine wpAnyH_done (by kernel_rfl) ?_ _
              clear hHeld hHeldx
              go_wp2_with fail
              obtain ⟨V, hV⟩ : ∃ V, V = Value.tuple #[.agg NL.toArray, .bool false] := ⟨_, rfl⟩
              refine bodyPost_ret (v := V) ?hx1 ?h2 ?h3
              case hx1 => rw [hV]; exact results_cell2P (fn := Try.f24) (by rfl) _ _ w.heap.size 68 NL.toArray (0, 0) _ (by rfl) _ (by rfl) hRY Try.underlying68 rfl HNi.out
              case h2 => rfl
              case h3 => exact ⟨V, rfl, by rw [hV]; exact hfin.out, hbX.trans (hOY.below hbX.size (fun k hk => by omega))⟩
            | true =>
              obtain rfl : true = r := by simpa using Hres.out
              refine anyH_take (i := 3) (v := .bool true) (some 52) rfl rfl (by kernel_rfl) (by kernel_rfl) (by kernel_rfl) (fun _ _ _ h => h) (Or.inl ⟨by rfl, fun w' hw => by (have hr := Hdn.out; go_simp)⟩) (by assumption) ?_
              simp only [Act.put, List.setIfInBounds_toArray, List.set_cons_zero, List.set_cons_succ]
              refine anyH_take (i := 4) (v := .bool true) (some 53) rfl rfl (by kernel_rfl) (by kernel_rfl) (by kernel_rfl) (fun _ _ _ h => h) (Or.inl ⟨by rfl, fun w' hw => by go_simp⟩) (by assumption) ?_
              simp only [Act.put, List.setIfInBounds_toArray, List.set_cons_zero, List.set_cons_succ]
              refine anyH_take (i := 5) (v := .pointer (some ⟨g, 1, none⟩)) (some 54) rfl rfl (by kernel_rfl) (by kernel_rfl) (by kernel_rfl) (fun _ _ _ h => h) (Or.inl ⟨by rfl, fun w' hw => by go_simp⟩) (by assumption) ?_
              simp only [Act.put, List.setIfInBounds_toArray, List.set_cons_zero, List.set_cons_succ]
              refine anyH_take (i := 6) (v := .slice A1 k c1) (some 55) rfl rfl (by kernel_rfl) (by kernel_rfl) (by kernel_rfl) (fun _ _ _ h => h) (Or.inl ⟨by rfl, fun w' hw => by (have hc := Hc1.out w' hw; go_simp)⟩) (by assumption) ?_
              simp only [Act.put, List.setIfInBounds_toArray, List.set_cons_zero, List.set_cons_succ]
              refine anyH_take (i := 7) (v := .int .i64 (k : Nat)) (some 56) rfl rfl (by kernel_rfl) (by kernel_rfl) (by kernel_rfl) (fun _ _ _ h => h) (Or.inl ⟨by rfl, fun w' hw => by go_simp⟩) (by assumption) ?_
              simp only [Act.put, List.setIfInBounds_toArray, List.set_cons_zero, List.set_cons_succ]
              refine anyH_take (i := 8) (v := .int .i64 (left : Nat)) (some 57) rfl rfl (by kernel_rfl) (by kernel_rfl) (by kernel_rfl) (fun _ _ _ h => h) (Or.inl ⟨by rfl, fun w' hw => by go_simp⟩) (by assumption) ?_
              simp only [Act.put, List.setIfInBounds_toArray, List.set_cons_zero, List.set_cons_succ]
              refine anyH_take (i := 9) (v := .bool true) (some 58) rfl rfl (by kernel_rfl) (by kernel_rfl) (by kernel_rfl) (fun _ _ _ h => h) (Or.inl ⟨by rfl, fun w' hw => by (have hr := hf1; go_simp)⟩) (by assumption) ?_
              simp only [Act.put, List.setIfInBounds_toArray, List.set_cons_zero, List.set_cons_succ]
              refine anyH_take (i := 10) (v := .bool true) (some 59) rfl rfl (by kernel_rfl) (by kernel_rfl) (by kernel_rfl) (fun _ _ _ h => h) (Or.inl ⟨by rfl, fun w' hw => by go_simp⟩) (by assumption) ?_
              simp only [Act.put, List.setIfInBounds_toArray, List.set_cons_zero, List.set_cons_succ]
              refine wpAnyH_ready (rs := [11]) (by kernel_rfl) (by simp) ?_
              refine AllReadyH.cons rfl (fun K hK => ?_) AllReadyH.nil
              rw [if_pos (by rfl)]
              refine store_toP rfl 68 _ _ rfl w.heap.size 0 NL.toArray rfl rfl hth HNi.out HN1.out ?_
              try rw [show NL.toArray.toList = NL from rfl]
              rw [← HWY.out]
              refine hK.out _ _ hNY (fun hHeldx => ?_)
              clear hK K
              try simp only [Act.put, List.setIfInBounds_toArray, List.set_cons_zero, List.set_cons_succ]
              refine anyH_take (i := 12) (v := .bool true) (some 5) rfl rfl (by kernel_rfl) (by kernel_rfl) (by kernel_rfl) (fun _ _ _ h => h) (Or.inl ⟨by rfl, fun w' hw => by go_simp⟩) (by assumption) ?_
              simp only [Act.put, List.setIfInBounds_toArray, List.set_cons_zero, List.set_cons_succ]
              refine wpAnyH_done (by kernel_rfl) ?_ _
              clear hHeld hHeldx
              go_wp2_with fail
              obtain ⟨V, hV⟩ : ∃ V, V = Value.tuple #[.agg NL.toArray, .bool true] := ⟨_, rfl⟩
              refine bodyPost_ret (v := V) ?hx1 ?h2 ?h3
              case hx1 => rw [hV]; exact results_cell2P (fn := Try.f24) (by rfl) _ _ w.heap.size 68 NL.toArray (0, 0) _ (by rfl) _ (by rfl) hRY Try.underlying68 rfl HNi.out
              case h2 => rfl
              case h3 => exact ⟨V, rfl, by rw [hV]; exact hfin.out, hbX.trans (hOY.below hbX.size (fun k hk => by omega))⟩
        | false =>
          obtain ⟨mask, s3, hm⟩ : ∃ mask s3, numS 65535 s2 = (mask, s3) := ⟨_, _, rfl⟩
          have Hm := Lib.hid hm
          have hm16 : mask ≤ 65535 := by have := numS_le 65535 s2; rw [hm] at this; exact this
          have hkd0 : kd ≠ 0 := by have := Hlf.out; rw [beq_eq_false_iff_ne] at this; omega
          have hdE : d = ⟨false, told, [], mask, s3, kidS mask s3 16⟩ := by
            rw [← Hd.out]
            unfold ndR
            rw [Hk.out]
            simp only
            rw [show ((64 : Nat) : Int) = 64 from rfl, Ht.out, if_neg hkd0]
            simp only
            rw [hm]
          have HdE := Lib.hid hdE
          clear hm hkd0 hdE
          go_wp2_with fail
          go_at_call 38
          refine Calls.mono (rnum_s q 65535 b A c s2 mask s3 Hm.out w7 hst7 (by omega)) ?_
          rintro e w8 ⟨rfl, hst8, ht8⟩
          have hN8 : Arr w8 g 68 (rnC false (.slice A1 k c1) (.slice none 0 0) (hasF mask 0) (ksF mask s3 0)) := by
            rw [hasF_zero, ksF_zero, ← Hhs0.out, ← Hks0.out]
            exact hN7.turnP ht8 (by omega)
          have hR8 := hR7.turnP ht8 (by omega)
          have hb8 : Below w.heap.size w w8 := hb7.trans (ht8.below hb7.size (Nat.le_of_lt hwq))
          have hO8 : Owns w8 (g + 1) 5 (.slice A1 k c1) told := hO7.apart ht8 (fun k hk e => by have := (hO7.lt k hk).1; injection e with e; omega)
          clear hst7 ht8 hN7 hR7 hb7 hO7 hT7 h70 h71 hwr
          dsimp only
          go_upto_region 18 with fail
          go_loopw [9, 10, 11] (fun m cn i wr => ∃ j : Nat, j ≤ 16 ∧ i = .int .i64 j ∧ cn = .int .i64 (popM mask j : Nat) ∧ m = .int .u64 (mask / 2 ^ j : Nat) ∧ RSt wr q b A c (kidS mask s3 j) ∧ Arr wr g 68 (rnC false (.slice A1 k c1) (.slice none 0 0) (hasF mask j) (ksF mask s3 j)) ∧ Arr wr w.heap.size 68 RZ ∧ Below w.heap.size w wr ∧ Owns wr (g + 1) 5 (.slice A1 k c1) told) (fun _ _ i _ => 16 - (intOf i).toNat)
          case atStart => exact ⟨0, by omega, rfl, rfl, by rw [Nat.pow_zero, Nat.div_one], hst8, hN8, hR8, hb8, hO8⟩
          case round =>
            clear hst8 hN8 hR8 hb8 hO8
            obtain ⟨j, hj16, rfl, rfl, rfl, hst, hN, hR, hbw, hO⟩ := hrel
            have hok := hk_ok mask s3 j
            have hpl := popM_le mask j
            obtain ⟨pj, hpj⟩ : ∃ pj, popM mask j = pj := ⟨_, rfl⟩
            obtain ⟨mj, hmj⟩ : ∃ mj, mask / 2 ^ j = mj := ⟨_, rfl⟩
            rw [hpj] at hpl ⊢
            rw [hmj]
            have Hpj := Lib.hid hpj
            have Hmj := Lib.hid hmj
            have hmj64 : mj ≤ 65535 := by rw [← hmj]; exact Nat.le_trans (Nat.div_le_self _ _) hm16
            clear hpj hmj
            by_cases hlt : j < 16
            · have hd1 : decide ((j : Int) < (16 : Int)) = true := by simp; omega
              have htest : ((mj : Int).tmod 2 == 1) = bitM mask j := by
                have := bit_test mask j
                rw [← this, ← Hmj.out]
                simp
              have htest2 : ((mj : Int) % 2 == 1) = bitM mask j := by
                rw [← htest, Int.tmod_eq_emod_of_nonneg (by omega)]
              obtain ⟨m2, hm2⟩ : ∃ m2, mj / 2 = m2 := ⟨_, rfl⟩
              have hq1 : (mj : Int) / 2 = (m2 : Int) := by omega
              have hq2 : (mj : Int).tdiv 2 = (m2 : Int) := by rw [Int.tdiv_eq_ediv_of_nonneg (by omega)]; exact hq1
              have Hm2 : Hid (m2 = mask / 2 ^ (j + 1)) := by show _ = _; rw [← hm2, ← Hmj.out, Nat.pow_succ, Nat.div_div_eq_div_mul]
              clear hm2
              cases hbit : bitM mask j with
              | false =>
                rw [hbit] at htest htest2
                have hst' : RSt wr q b A c (kidS mask s3 (j + 1)) := by rw [kidS_succ, hbit]; exact hst
                have hN' : Arr wr g 68 (rnC false (.slice A1 k c1) (.slice none 0 0) (hasF mask (j + 1)) (ksF mask s3 (j + 1))) := by rw [hasF_skip hbit, ksF_skip hbit]; exact hN
                have Hp' : Hid (popM mask (j + 1) = pj) := by show _ = _; rw [popM_succ, hbit, Hpj.out]; simp
                clear hst hN hbit
                go_wp2_with fail
                go_roundw
                case rel => exact ⟨j + 1, by omega, by go_num, by rw [Hp'.out], by rw [← Hm2.out], hst', hN', hR, hbw, hO⟩
                case measure => simp [intOf]; omega
              | true =>
                rw [hbit] at htest htest2
                have h3 : wr.cell? ⟨g, 3 + j, none⟩ = some (.bool ((hasF mask j).getD j false)) := by rw [hN.cell]; exact rnC_has hok hlt
                have f3 := hN.frozen (3 + j)
                obtain ⟨b3, hb3⟩ : ∃ b3, (hasF mask j).getD j false = b3 := ⟨_, rfl⟩
                rw [hb3] at h3
                obtain ⟨wa, hwa⟩ : ∃ x, x = wr.setCell ⟨g, 3 + j, none⟩ (.bool true) := ⟨_, rfl⟩
                have hNa : Arr wa g 68 (rnC false (.slice A1 k c1) (.slice none 0 0) (hasF mask (j + 1)) (ksF mask s3 j)) := by
                  rw [hwa, ← hasF_put hbit, ← rnC_setHas hok hlt]; exact hN.set (3 + j) _
                have hba : Only (fun k => k = g) wr wa := by rw [hwa]; exact (Only.refl (fun k => k = g) wr).setCell (p := ⟨g, 3 + j, none⟩) (.inl rfl) _
                have hRa : Arr wa w.heap.size 68 RZ := hR.only hba (by omega)
                have hbwa : Below w.heap.size w wa := hbw.trans (hba.below hbw.size (fun k hk => by omega))
                have hsta : RSt wa q b A c (kidS mask s3 j) := hst.low ⟨hba.size, fun k hk => hba.block k (by have := hst.lt; omega) (by omega)⟩
                have hOa : Owns wa (g + 1) 5 (.slice A1 k c1) told := hO.apart hba.grown (fun k hk e => by have := (hO.lt k hk).1; injection e with e; omega)
                have hoka : RnOk (hasF mask (j + 1)) (ksF mask s3 j) := ⟨(hk_ok mask s3 (j + 1)).h16, hok.k16, hok.k32⟩
                have Hwa := Lib.hid hwa
                have hKD := kidD_length mask s3 j
                obtain ⟨DL, hDL⟩ : ∃ DL, DL = Lib.byteCells (kidD mask s3 j) := ⟨_, rfl⟩
                have hdl : DL.length = 32 := by rw [hDL, Lib.byteCells_length, hKD]
                have Hdi := Lib.hid (show (Try.prog.info? 24).map (·.size) = some DL.toArray.size by rw [List.size_toArray, hdl]; kernel_rfl)
                have Hd1 := Lib.hid (show DL.toArray.all (·.oneCell') = true by rw [hDL]; simpa using byteCells_one _)
                have Hdl := Lib.hid hdl
                have HDL := Lib.hid hDL
                have Hbit := Lib.hid hbit
                have Hok := Lib.hid hok
                have Hoka := Lib.hid hoka
                clear hwa hst hN hR hbw hO hba hb3 hDL hdl hKD hbit hok hoka
                go_wp2_with (first | fail)
                rw [← Hwa.out]
                clear h3 f3 Hwa
                go_at_call 41
                refine Calls.mono (rdig_s q b A c (kidS mask s3 j) DL HDL.out wa hsta) ?_
                rintro e wb ⟨rfl, hstb, htb⟩
                have hNb := hNa.turnP htb (by omega)
                have hRb := hRa.turnP htb (by omega)
                have hbwb : Below w.heap.size w wb := hbwa.trans (htb.below hbwa.size (Nat.le_of_lt hwq))
                have hOb : Owns wb (g + 1) 5 (.slice A1 k c1) told := hOa.apart htb (fun k hk e => by have := (hOa.lt k hk).1; injection e with e; omega)
                clear hsta htb hNa hRa hbwa hOa
                dsimp only
                have hth : wb.there g (19 + j * 32) DL.toArray.size := fun i hi => by
                  rw [List.size_toArray, Hdl.out] at hi
                  refine ⟨?_, hNb.frozen _⟩
                  rw [hNb.cell, List.getElem?_eq_getElem (by rw [rnC_length Hoka.out]; omega)]
                  rfl
                have hNc := Arr.setIn DL (19 + j * 32) _ wb hNb (by rw [Hdl.out, rnC_length Hoka.out]; omega)
                rw [Hdl.out, HDL.out, rnC_setKid Hoka.out hlt _ (kidD_length _ _ _), ksF_put Hbit.out, ← HDL.out] at hNc
                have hOc : Only (fun k => k = g) wb (wb.setCells g (19 + j * 32) DL) := Only.setCells (R := fun k => k = g) rfl DL (19 + j * 32) wb (Only.refl _ _)
                obtain ⟨wc, hwc⟩ : ∃ x, x = wb.setCells g (19 + j * 32) DL := ⟨_, rfl⟩
                rw [← hwc] at hNc hOc
                have hRc : Arr wc w.heap.size 68 RZ := hRb.only hOc (by omega)
                have hbwc : Below w.heap.size w wc := hbwb.trans (hOc.below hbwb.size (fun k hk => by omega))
                have hstc : RSt wc q b A c (kidS mask s3 (j + 1)) := by
                  rw [kidS_succ, Hbit.out, if_pos rfl]
                  exact hstb.low ⟨hOc.size, fun k hk => hOc.block k (by have := hstb.lt; omega) (by omega)⟩
                have hOwc : Owns wc (g + 1) 5 (.slice A1 k c1) told := hOb.apart hOc.grown (fun k hk e => by have := (hOb.lt k hk).1; injection e with e; omega)
                have Hp' : Hid (popM mask (j + 1) = pj + 1) := by show _ = _; rw [popM_succ, Hbit.out, Hpj.out]; simp
                have Hwc := Lib.hid hwc
                clear hwc hNb hRb hbwb hstb hOb hOc
                go_wp2_with (refine wpList_store_mid rfl 24 _ _ rfl g (19 + j * 32) DL.toArray rfl rfl hth Hdi.out Hd1.out ?_; rw [show DL.toArray.toList = DL from rfl, ← Hwc.out])
                go_roundw
                case rel => exact ⟨j + 1, by omega, by go_num, by rw [Hp'.out]; go_num, by rw [← Hm2.out], hstc, hNc, hRc, hbwc, hOwc⟩
                case measure => simp [intOf]; omega
            · obtain rfl : j = 16 := by omega
              have hd1 : decide (((16 : Nat) : Int) < (16 : Int)) = false := by simp
              have hokF := hk_ok mask s3 16
              go_upto_region 25 with fail
              obtain ⟨NL, hNL⟩ : ∃ NL, NL = rnC false (.slice A1 k c1) (.slice none 0 0) (hasF mask 16) (ksF mask s3 16) := ⟨_, rfl⟩
              rw [← hNL] at hN
              have HNi := Lib.hid (show (Try.prog.info? 68).map (·.size) = some NL.toArray.size by rw [List.size_toArray, hNL, rnC_length hokF]; exact rnSize)
              have HNj := Lib.hid (show (Try.prog.info? 68).map (·.size) = some NL.length by rw [hNL, rnC_length hokF]; exact rnSize)
              have HN1 := Lib.hid (show NL.toArray.all (·.oneCell') = true by rw [hNL]; exact all_oneCell_toArray (rnC_one rfl rfl))
              have HNz := Lib.hid (show RZ.toArray.size = NL.toArray.size by rw [List.size_toArray, List.size_toArray, hNL, HRZ0.out, rnC_length hok0, rnC_length hokF])
              have Hc1 : Hid (∀ w' : World, Arr w' g 68 NL → w'.cell? ⟨g, 1, none⟩ = some (.slice A1 k c1)) := fun w' h => by rw [h.cell, hNL]; rfl
              have HNL := Lib.hid hNL
              obtain ⟨sF, hsF⟩ : ∃ sF, kidS mask s3 16 = sF := ⟨_, rfl⟩
              rw [hsF] at hst
              have HsF := Lib.hid hsF
              obtain ⟨dn, hdn⟩ : ∃ dn, (doneF sF.1 sF.2 == 0) = dn := ⟨_, rfl⟩
              obtain ⟨f1, hf1⟩ : ∃ f1, decide (k < left) = f1 := ⟨_, rfl⟩
              obtain ⟨f2, hf2⟩ : ∃ f2, decide ((1 : Int) < (pj : Int)) = f2 := ⟨_, rfl⟩
              have Hres : Hid ((dn && f1 && f2) = r) := by
                show _ = _
                have e2 : decide (1 < popM mask 16) = f2 := by rw [← hf2, Hpj.out, decide_eq_decide]; omega
                rw [← Hr.out, HdE.out, ← hdn, ← hf1, ← e2]
                unfold NdR.ok NdR.fits
                simp only [Bool.false_eq_true, if_false]
                rw [Hnt.out, Bool.and_true, H1.out, hsF, Bool.and_assoc, Bool.and_comm]
              have Hdn := Lib.hid hdn
              clear hNL hdn hsF
              refine wp_region_held_drew (S := fun w' => Arr w' g 68 NL) (by kernel_rfl) (hN.drewN 1) (fun hHeld => ?_)
              refine anyH_take (i := 0) (some 81) rfl rfl (by kernel_rfl) (by kernel_rfl) (by kernel_rfl) (fun _ _ _ h => h) (yieldsIf_load_mid (by rfl) 68 (.tmp 7) rfl g 0 rfl NL _ (fun w' h => h.range) Try.underlying68 rfl HNj.out) (by assumption) ?_
              simp only [Act.put, List.setIfInBounds_toArray, List.set_cons_zero, List.set_cons_succ]
              refine anyH_take (i := 1) (v := .pointer (some ⟨q, 0, none⟩)) (some 82) rfl rfl (by kernel_rfl) (by kernel_rfl) (by kernel_rfl) (fun _ _ _ h => h) (Or.inl ⟨by rfl, fun w' hw => by go_simp⟩) (by assumption) ?_
              simp only [Act.put, List.setIfInBounds_toArray, List.set_cons_zero, List.set_cons_succ]
              refine wpAnyH_ready (rs := [2]) (by kernel_rfl) (by simp) ?_
              refine AllReadyH.cons rfl (fun K hK => ?_) AllReadyH.nil
              go_simp
              go_at_call 40
              refine Calls.mono (rdone_s q b A c sF (wr.drewN 1) (hst.low ⟨Nat.le_refl _, fun _ _ => rfl⟩)) ?_
              rintro e wx ⟨rfl, kk, hwx⟩
              have hNX : Arr wx g 68 NL := by rw [hwx]; exact hN
              have hRX : Arr wx w.heap.size 68 RZ := by rw [hwx]; exact hR
              have hbX : Below w.heap.size w wx := by rw [hwx]; exact Below.dN (Below.dN hbw 1) kk
              have hOX : Owns wx (g + 1) 5 (.slice A1 k c1) told := by rw [hwx]; exact hO
              clear hwx hN hR hbw hO hst
              obtain ⟨WX, hWX⟩ : ∃ W, W = wx := ⟨_, rfl⟩
              subst hWX
              dsimp only
              go_wp2_with fail
              refine hK.out _ _ hNX (fun hHeldx => ?_)
              clear hK K
              try simp only [Act.put, List.setIfInBounds_toArray, List.set_cons_zero, List.set_cons_succ]
              have hfin : Hid (ReadP (WX.setCells w.heap.size 0 NL) d r (.tuple #[.agg NL.toArray, .bool r])) := by
                have hOn : Only (fun k => k = w.heap.size) WX (WX.setCells w.heap.size 0 NL) := Only.setCells (R := fun k => k = w.heap.size) rfl NL 0 WX (Only.refl _ _)
                have hOF : Owns (WX.setCells w.heap.size 0 NL) (g + 1) 5 (.slice A1 k c1) told := hOX.apart hOn.grown (fun k hk e => by have := (hOX.lt k hk).1; injection e with e; omega)
                refine ⟨NL, false, A1, k, c1, none, 0, 0, hasF mask 16, ksF mask s3 16, rfl, HNL.out, hk_ok mask s3 16, fun _ => ?_⟩
                rw [HdE.out]
                exact ⟨rfl, H1.out.symm, h11, h12, hOF.bs.2, (fun h => by cases h), fun _ => ⟨rfl, rfl⟩⟩
              have hth : WX.there w.heap.size 0 NL.toArray.size := Arr.thereP hRX (by rw [← HNz.out, List.size_toArray]; exact Nat.le_refl _)
              have hRY := Arr.setCells NL 0 RZ WX hRX (by have := HNz.out; simp only [List.size_toArray] at this; omega)
              rw [List.take_zero, List.nil_append] at hRY
              have hOY : Only (fun k => k = w.heap.size) WX (WX.setCells w.heap.size 0 NL) := Only.setCells (R := fun k => k = w.heap.size) rfl NL 0 WX (Only.refl _ _)
              obtain ⟨WY, hWY⟩ : ∃ W, W = WX.setCells w.heap.size 0 NL := ⟨_, rfl⟩
              rw [← hWY] at hRY hOY
              have HWY := Lib.hid hWY
              clear hWY
              have hNY : Arr WY g 68 NL := hNX.only hOY (by omega)
              have hfin' := hfin.out
              rw [← HWY.out] at hfin'
              have hfin := Lib.hid hfin'
              clear hfin'
              cases dn with
              | false =>
                obtain rfl : false = r := by simpa using Hres.out
                refine anyH_take (i := 3) (v := .bool false) (some 84) rfl rfl (by kernel_rfl) (by kernel_rfl) (by kernel_rfl) (fun _ _ _ h => h) (Or.inl ⟨by rfl, fun w' hw => by (have hr := Hdn.out; go_simp)⟩) (by assumption) ?_
                simp only [Act.put, List.setIfInBounds_toArray, List.set_cons_zero, List.set_cons_succ]
                refine anyH_take (i := 4) (v := .bool false) (some 85) rfl rfl (by kernel_rfl) (by kernel_rfl) (by kernel_rfl) (fun _ _ _ h => h) (Or.inl ⟨by rfl, fun w' hw => by go_simp⟩) (by assumption) ?_
                simp only [Act.put, List.setIfInBounds_toArray, List.set_cons_zero, List.set_cons_succ]
                refine anyH_take (i := 5) (v := undef) (some 86) rfl rfl (by kernel_rfl) (by kernel_rfl) (by kernel_rfl) (fun _ _ _ h => h) (Or.inr ⟨by rfl, rfl⟩) (by assumption) ?_
                simp only [Act.put, List.setIfInBounds_toArray, List.set_cons_zero, List.set_cons_succ]
                refine anyH_take (i := 6) (v := undef) (some 87) rfl rfl (by kernel_rfl) (by kernel_rfl) (by kernel_rfl) (fun _ _ _ h => h) (Or.inr ⟨by rfl, rfl⟩) (by assumption) ?_
                simp only [Act.put, List.setIfInBounds_toArray, List.set_cons_zero, List.set_cons_succ]
                refine anyH_take (i := 7) (v := undef) (some 88) rfl rfl (by kernel_rfl) (by kernel_rfl) (by kernel_rfl) (fun _ _ _ h => h) (Or.inr ⟨by rfl, rfl⟩) (by assumption) ?_
                simp only [Act.put, List.setIfInBounds_toArray, List.set_cons_zero, List.set_cons_succ]
                refine anyH_take (i := 8) (v := undef) (some 89) rfl rfl (by kernel_rfl) (by kernel_rfl) (by kernel_rfl) (fun _ _ _ h => h) (Or.inr ⟨by rfl, rfl⟩) (by assumption) ?_
                simp only [Act.put, List.setIfInBounds_toArray, List.set_cons_zero, List.set_cons_succ]
                refine anyH_take (i := 9) (v := undef) (some 90) rfl rfl (by kernel_rfl) (by kernel_rfl) (by kernel_rfl) (fun _ _ _ h => h) (Or.inr ⟨by rfl, rfl⟩) (by assumption) ?_
                simp only [Act.put, List.setIfInBounds_toArray, List.set_cons_zero, List.set_cons_succ]
                refine anyH_take (i := 10) (v := .bool false) (some 91) rfl rfl (by kernel_rfl) (by kernel_rfl) (by kernel_rfl) (fun _ _ _ h => h) (Or.inl ⟨by rfl, fun w' hw => by go_simp⟩) (by assumption) ?_
                simp only [Act.put, List.setIfInBounds_toArray, List.set_cons_zero, List.set_cons_succ]
                refine anyH_take (i := 11) (v := .bool false) (some 92) rfl rfl (by kernel_rfl) (by kernel_rfl) (by kernel_rfl) (fun _ _ _ h => h) (Or.inl ⟨by rfl, fun w' hw => by go_simp⟩) (by assumption) ?_
                simp only [Act.put, List.setIfInBounds_toArray, List.set_cons_zero, List.set_cons_succ]
                refine anyH_take (i := 12) (v := undef) (some 93) rfl rfl (by kernel_rfl) (by kernel_rfl) (by kernel_rfl) (fun _ _ _ h => h) (Or.inr ⟨by rfl, rfl⟩) (by assumption) ?_
                simp only [Act.put, List.setIfInBounds_toArray, List.set_cons_zero, List.set_cons_succ]
                refine anyH_take (i := 13) (v := undef) (some 94) rfl rfl (by kernel_rfl) (by kernel_rfl) (by kernel_rfl) (fun _ _ _ h => h) (Or.inr ⟨by rfl, rfl⟩) (by assumption) ?_
                simp only [Act.put, List.setIfInBounds_toArray, List.set_cons_zero, List.set_cons_succ]
                refine anyH_take (i := 14) (v := .bool false) (some 95) rfl rfl (by kernel_rfl) (by kernel_rfl) (by kernel_rfl) (fun _ _ _ h => h) (Or.inl ⟨by rfl, fun w' hw => by go_simp⟩) (by assumption) ?_
                simp only [Act.put, List.setIfInBounds_toArray, List.set_cons_zero, List.set_cons_succ]
                refine wpAnyH_ready (rs := [15]) (by kernel_rfl) (by simp) ?_
                refine AllReadyH.cons rfl (fun K hK => ?_) AllReadyH.nil
                rw [if_pos (by rfl)]
                refine store_toP rfl 68 _ _ rfl w.heap.size 0 NL.toArray rfl rfl hth HNi.out HN1.out ?_
                try rw [show NL.toArray.toList = NL from rfl]
                rw [← HWY.out]
                refine hK.out _ _ hNY (fun hHeldx => ?_)
                clear hK K
                try simp only [Act.put, List.setIfInBounds_toArray, List.set_cons_zero, List.set_cons_succ]
                refine anyH_take (i := 16) (v := .bool false) (some 5) rfl rfl (by kernel_rfl) (by kernel_rfl) (by kernel_rfl) (fun _ _ _ h => h) (Or.inl ⟨by rfl, fun w' hw => by go_simp⟩) (by assumption) ?_
                simp only [Act.put, List.setIfInBounds_toArray, List.set_cons_zero, List.set_cons_succ]
                refine wpAnyH_done (by kernel_rfl) ?_ _
                clear hHeld hHeldx
                go_wp2_with fail
                obtain ⟨V, hV⟩ : ∃ V, V = Value.tuple #[.agg NL.toArray, .bool false] := ⟨_, rfl⟩
                refine bodyPost_ret (v := V) ?hx1 ?h2 ?h3
                case hx1 => rw [hV]; exact results_cell2P (fn := Try.f24) (by rfl) _ _ w.heap.size 68 NL.toArray (0, 0) _ (by rfl) _ (by rfl) hRY Try.underlying68 rfl HNi.out
                case h2 => rfl
                case h3 => exact ⟨V, rfl, by rw [hV]; exact hfin.out, hbX.trans (hOY.below hbX.size (fun k hk => by omega))⟩
              | true =>
                cases f1 with
                | false =>
                  obtain rfl : false = r := by simpa using Hres.out
                  refine anyH_take (i := 3) (v := .bool true) (some 84) rfl rfl (by kernel_rfl) (by kernel_rfl) (by kernel_rfl) (fun _ _ _ h => h) (Or.inl ⟨by rfl, fun w' hw => by (have hr := Hdn.out; go_simp)⟩) (by assumption) ?_
                  simp only [Act.put, List.setIfInBounds_toArray, List.set_cons_zero, List.set_cons_succ]
                  refine anyH_take (i := 4) (v := .bool true) (some 85) rfl rfl (by kernel_rfl) (by kernel_rfl) (by kernel_rfl) (fun _ _ _ h => h) (Or.inl ⟨by rfl, fun w' hw => by go_simp⟩) (by assumption) ?_
                  simp only [Act.put, List.setIfInBounds_toArray, List.set_cons_zero, List.set_cons_succ]
                  refine anyH_take (i := 5) (v := .pointer (some ⟨g, 1, none⟩)) (some 86) rfl rfl (by kernel_rfl) (by kernel_rfl) (by kernel_rfl) (fun _ _ _ h => h) (Or.inl ⟨by rfl, fun w' hw => by go_simp⟩) (by assumption) ?_
                  simp only [Act.put, List.setIfInBounds_toArray, List.set_cons_zero, List.set_cons_succ]
                  refine anyH_take (i := 6) (v := .slice A1 k c1) (some 87) rfl rfl (by kernel_rfl) (by kernel_rfl) (by kernel_rfl) (fun _ _ _ h => h) (Or.inl ⟨by rfl, fun w' hw => by (have hc := Hc1.out w' hw; go_simp)⟩) (by assumption) ?_
                  simp only [Act.put, List.setIfInBounds_toArray, List.set_cons_zero, List.set_cons_succ]
                  refine anyH_take (i := 7) (v := .int .i64 (k : Nat)) (some 88) rfl rfl (by kernel_rfl) (by kernel_rfl) (by kernel_rfl) (fun _ _ _ h => h) (Or.inl ⟨by rfl, fun w' hw => by go_simp⟩) (by assumption) ?_
                  simp only [Act.put, List.setIfInBounds_toArray, List.set_cons_zero, List.set_cons_succ]
                  refine anyH_take (i := 8) (v := .int .i64 (left : Nat)) (some 89) rfl rfl (by kernel_rfl) (by kernel_rfl) (by kernel_rfl) (fun _ _ _ h => h) (Or.inl ⟨by rfl, fun w' hw => by go_simp⟩) (by assumption) ?_
                  simp only [Act.put, List.setIfInBounds_toArray, List.set_cons_zero, List.set_cons_succ]
                  refine anyH_take (i := 9) (v := .bool false) (some 90) rfl rfl (by kernel_rfl) (by kernel_rfl) (by kernel_rfl) (fun _ _ _ h => h) (Or.inl ⟨by rfl, fun w' hw => by (have hr := hf1; go_simp)⟩) (by assumption) ?_
                  simp only [Act.put, List.setIfInBounds_toArray, List.set_cons_zero, List.set_cons_succ]
                  refine anyH_take (i := 10) (v := .bool false) (some 91) rfl rfl (by kernel_rfl) (by kernel_rfl) (by kernel_rfl) (fun _ _ _ h => h) (Or.inl ⟨by rfl, fun w' hw => by go_simp⟩) (by assumption) ?_
                  simp only [Act.put, List.setIfInBounds_toArray, List.set_cons_zero, List.set_cons_succ]
                  refine anyH_take (i := 11) (v := .bool false) (some 92) rfl rfl (by kernel_rfl) (by kernel_rfl) (by kernel_rfl) (fun _ _ _ h => h) (Or.inl ⟨by rfl, fun w' hw => by go_simp⟩) (by assumption) ?_
                  simp only [Act.put, List.setIfInBounds_toArray, List.set_cons_zero, List.set_cons_succ]
                  refine anyH_take (i := 12) (v := undef) (some 93) rfl rfl (by kernel_rfl) (by kernel_rfl) (by kernel_rfl) (fun _ _ _ h => h) (Or.inr ⟨by rfl, rfl⟩) (by assumption) ?_
                  simp only [Act.put, List.setIfInBounds_toArray, List.set_cons_zero, List.set_cons_succ]
                  refine anyH_take (i := 13) (v := undef) (some 94) rfl rfl (by kernel_rfl) (by kernel_rfl) (by kernel_rfl) (fun _ _ _ h => h) (Or.inr ⟨by rfl, rfl⟩) (by assumption) ?_
                  simp only [Act.put, List.setIfInBounds_toArray, List.set_cons_zero, List.set_cons_succ]
                  refine anyH_take (i := 14) (v := .bool false) (some 95) rfl rfl (by kernel_rfl) (by kernel_rfl) (by kernel_rfl) (fun _ _ _ h => h) (Or.inl ⟨by rfl, fun w' hw => by go_simp⟩) (by assumption) ?_
                  simp only [Act.put, List.setIfInBounds_toArray, List.set_cons_zero, List.set_cons_succ]
                  refine wpAnyH_ready (rs := [15]) (by kernel_rfl) (by simp) ?_
                  refine AllReadyH.cons rfl (fun K hK => ?_) AllReadyH.nil
                  rw [if_pos (by rfl)]
                  refine store_toP rfl 68 _ _ rfl w.heap.size 0 NL.toArray rfl rfl hth HNi.out HN1.out ?_
                  try rw [show NL.toArray.toList = NL from rfl]
                  rw [← HWY.out]
                  refine hK.out _ _ hNY (fun hHeldx => ?_)
                  clear hK K
                  try simp only [Act.put, List.setIfInBounds_toArray, List.set_cons_zero, List.set_cons_succ]
                  refine anyH_take (i := 16) (v := .bool false) (some 5) rfl rfl (by kernel_rfl) (by kernel_rfl) (by kernel_rfl) (fun _ _ _ h => h) (Or.inl ⟨by rfl, fun w' hw => by go_simp⟩) (by assumption) ?_
                  simp only [Act.put, List.setIfInBounds_toArray, List.set_cons_zero, List.set_cons_succ]
                  refine wpAnyH_done (by kernel_rfl) ?_ _
                  clear hHeld hHeldx
                  go_wp2_with fail
                  obtain ⟨V, hV⟩ : ∃ V, V = Value.tuple #[.agg NL.toArray, .bool false] := ⟨_, rfl⟩
                  refine bodyPost_ret (v := V) ?hx1 ?h2 ?h3
                  case hx1 => rw [hV]; exact results_cell2P (fn := Try.f24) (by rfl) _ _ w.heap.size 68 NL.toArray (0, 0) _ (by rfl) _ (by rfl) hRY Try.underlying68 rfl HNi.out
                  case h2 => rfl
                  case h3 => exact ⟨V, rfl, by rw [hV]; exact hfin.out, hbX.trans (hOY.below hbX.size (fun k hk => by omega))⟩
                | true =>
                  cases f2 with
                  | false =>
                    obtain rfl : false = r := by simpa using Hres.out
                    refine anyH_take (i := 3) (v := .bool true) (some 84) rfl rfl (by kernel_rfl) (by kernel_rfl) (by kernel_rfl) (fun _ _ _ h => h) (Or.inl ⟨by rfl, fun w' hw => by (have hr := Hdn.out; go_simp)⟩) (by assumption) ?_
                    simp only [Act.put, List.setIfInBounds_toArray, List.set_cons_zero, List.set_cons_succ]
                    refine anyH_take (i := 4) (v := .bool true) (some 85) rfl rfl (by kernel_rfl) (by kernel_rfl) (by kernel_rfl) (fun _ _ _ h => h) (Or.inl ⟨by rfl, fun w' hw => by go_simp⟩) (by assumption) ?_
                    simp only [Act.put, List.setIfInBounds_toArray, List.set_cons_zero, List.set_cons_succ]
                    refine anyH_take (i := 5) (v := .pointer (some ⟨g, 1, none⟩)) (some 86) rfl rfl (by kernel_rfl) (by kernel_rfl) (by kernel_rfl) (fun _ _ _ h => h) (Or.inl ⟨by rfl, fun w' hw => by go_simp⟩) (by assumption) ?_
                    simp only [Act.put, List.setIfInBounds_toArray, List.set_cons_zero, List.set_cons_succ]
                    refine anyH_take (i := 6) (v := .slice A1 k c1) (some 87) rfl rfl (by kernel_rfl) (by kernel_rfl) (by kernel_rfl) (fun _ _ _ h => h) (Or.inl ⟨by rfl, fun w' hw => by (have hc := Hc1.out w' hw; go_simp)⟩) (by assumption) ?_
                    simp only [Act.put, List.setIfInBounds_toArray, List.set_cons_zero, List.set_cons_succ]
                    refine anyH_take (i := 7) (v := .int .i64 (k : Nat)) (some 88) rfl rfl (by kernel_rfl) (by kernel_rfl) (by kernel_rfl) (fun _ _ _ h => h) (Or.inl ⟨by rfl, fun w' hw => by go_simp⟩) (by assumption) ?_
                    simp only [Act.put, List.setIfInBounds_toArray, List.set_cons_zero, List.set_cons_succ]
                    refine anyH_take (i := 8) (v := .int .i64 (left : Nat)) (some 89) rfl rfl (by kernel_rfl) (by kernel_rfl) (by kernel_rfl) (fun _ _ _ h => h) (Or.inl ⟨by rfl, fun w' hw => by go_simp⟩) (by assumption) ?_
                    simp only [Act.put, List.setIfInBounds_toArray, List.set_cons_zero, List.set_cons_succ]
                    refine anyH_take (i := 9) (v := .bool true) (some 90) rfl rfl (by kernel_rfl) (by kernel_rfl) (by kernel_rfl) (fun _ _ _ h => h) (Or.inl ⟨by rfl, fun w' hw => by (have hr := hf1; go_simp)⟩) (by assumption) ?_
                    simp only [Act.put, List.setIfInBounds_toArray, List.set_cons_zero, List.set_cons_succ]
                    refine anyH_take (i := 10) (v := .bool true) (some 91) rfl rfl (by kernel_rfl) (by kernel_rfl) (by kernel_rfl) (fun _ _ _ h => h) (Or.inl ⟨by rfl, fun w' hw => by go_simp⟩) (by assumption) ?_
                    simp only [Act.put, List.setIfInBounds_toArray, List.set_cons_zero, List.set_cons_succ]
                    refine anyH_take (i := 11) (v := .bool true) (some 92) rfl rfl (by kernel_rfl) (by kernel_rfl) (by kernel_rfl) (fun _ _ _ h => h) (Or.inl ⟨by rfl, fun w' hw => by go_simp⟩) (by assumption) ?_
                    simp only [Act.put, List.setIfInBounds_toArray, List.set_cons_zero, List.set_cons_succ]
                    refine anyH_take (i := 12) (v := .int .i64 (pj : Nat)) (some 93) rfl rfl (by kernel_rfl) (by kernel_rfl) (by kernel_rfl) (fun _ _ _ h => h) (Or.inl ⟨by rfl, fun w' hw => by go_simp⟩) (by assumption) ?_
                    simp only [Act.put, List.setIfInBounds_toArray, List.set_cons_zero, List.set_cons_succ]
                    refine anyH_take (i := 13) (v := .bool false) (some 94) rfl rfl (by kernel_rfl) (by kernel_rfl) (by kernel_rfl) (fun _ _ _ h => h) (Or.inl ⟨by rfl, fun w' hw => by (have hr := hf2; go_simp)⟩) (by assumption) ?_
                    simp only [Act.put, List.setIfInBounds_toArray, List.set_cons_zero, List.set_cons_succ]
                    refine anyH_take (i := 14) (v := .bool false) (some 95) rfl rfl (by kernel_rfl) (by kernel_rfl) (by kernel_rfl) (fun _ _ _ h => h) (Or.inl ⟨by rfl, fun w' hw => by go_simp⟩) (by assumption) ?_
                    simp only [Act.put, List.setIfInBounds_toArray, List.set_cons_zero, List.set_cons_succ]
                    refine wpAnyH_ready (rs := [15]) (by kernel_rfl) (by simp) ?_
                    refine AllReadyH.cons rfl (fun K hK => ?_) AllReadyH.nil
                    rw [if_pos (by rfl)]
                    refine store_toP rfl 68 _ _ rfl w.heap.size 0 NL.toArray rfl rfl hth HNi.out HN1.out ?_
                    try rw [show NL.toArray.toList = NL from rfl]
                    rw [← HWY.out]
                    refine hK.out _ _ hNY (fun hHeldx => ?_)
                    clear hK K
                    try simp only [Act.put, List.setIfInBounds_toArray, List.set_cons_zero, List.set_cons_succ]
                    refine anyH_take (i := 16) (v := .bool false) (some 5) rfl rfl (by kernel_rfl) (by kernel_rfl) (by kernel_rfl) (fun _ _ _ h => h) (Or.inl ⟨by rfl, fun w' hw => by go_simp⟩) (by assumption) ?_
                    simp only [Act.put, List.setIfInBounds_toArray, List.set_cons_zero, List.set_cons_succ]
                    refine wpAnyH_done (by kernel_rfl) ?_ _
                    clear hHeld hHeldx
                    go_wp2_with fail
                    obtain ⟨V, hV⟩ : ∃ V, V = Value.tuple #[.agg NL.toArray, .bool false] := ⟨_, rfl⟩
                    refine bodyPost_ret (v := V) ?hx1 ?h2 ?h3
                    case hx1 => rw [hV]; exact results_cell2P (fn := Try.f24) (by rfl) _ _ w.heap.size 68 NL.toArray (0, 0) _ (by rfl) _ (by rfl) hRY Try.underlying68 rfl HNi.out
                    case h2 => rfl
                    case h3 => exact ⟨V, rfl, by rw [hV]; exact hfin.out, hbX.trans (hOY.below hbX.size (fun k hk => by omega))⟩
                  | true =>
                    obtain rfl : true = r := by simpa using Hres.out
                    refine anyH_take (i := 3) (v := .bool true) (some 84) rfl rfl (by kernel_rfl) (by kernel_rfl) (by kernel_rfl) (fun _ _ _ h => h) (Or.inl ⟨by rfl, fun w' hw => by (have hr := Hdn.out; go_simp)⟩) (by assumption) ?_
                    simp only [Act.put, List.setIfInBounds_toArray, List.set_cons_zero, List.set_cons_succ]
                    refine anyH_take (i := 4) (v := .bool true) (some 85) rfl rfl (by kernel_rfl) (by kernel_rfl) (by kernel_rfl) (fun _ _ _ h => h) (Or.inl ⟨by rfl, fun w' hw => by go_simp⟩) (by assumption) ?_
                    simp only [Act.put, List.setIfInBounds_toArray, List.set_cons_zero, List.set_cons_succ]
                    refine anyH_take (i := 5) (v := .pointer (some ⟨g, 1, none⟩)) (some 86) rfl rfl (by kernel_rfl) (by kernel_rfl) (by kernel_rfl) (fun _ _ _ h => h) (Or.inl ⟨by rfl, fun w' hw => by go_simp⟩) (by assumption) ?_
                    simp only [Act.put, List.setIfInBounds_toArray, List.set_cons_zero, List.set_cons_succ]
                    refine anyH_take (i := 6) (v := .slice A1 k c1) (some 87) rfl rfl (by kernel_rfl) (by kernel_rfl) (by kernel_rfl) (fun _ _ _ h => h) (Or.inl ⟨by rfl, fun w' hw => by (have hc := Hc1.out w' hw; go_simp)⟩) (by assumption) ?_
                    simp only [Act.put, List.setIfInBounds_toArray, List.set_cons_zero, List.set_cons_succ]
                    refine anyH_take (i := 7) (v := .int .i64 (k : Nat)) (some 88) rfl rfl (by kernel_rfl) (by kernel_rfl) (by kernel_rfl) (fun _ _ _ h => h) (Or.inl ⟨by rfl, fun w' hw => by go_simp⟩) (by assumption) ?_
                    simp only [Act.put, List.setIfInBounds_toArray, List.set_cons_zero, List.set_cons_succ]
                    refine anyH_take (i := 8) (v := .int .i64 (left : Nat)) (some 89) rfl rfl (by kernel_rfl) (by kernel_rfl) (by kernel_rfl) (fun _ _ _ h => h) (Or.inl ⟨by rfl, fun w' hw => by go_simp⟩) (by assumption) ?_
                    simp only [Act.put, List.setIfInBounds_toArray, List.set_cons_zero, List.set_cons_succ]
                    refine anyH_take (i := 9) (v := .bool true) (some 90) rfl rfl (by kernel_rfl) (by kernel_rfl) (by kernel_rfl) (fun _ _ _ h => h) (Or.inl ⟨by rfl, fun w' hw => by (have hr := hf1; go_simp)⟩) (by assumption) ?_
                    simp only [Act.put, List.setIfInBounds_toArray, List.set_cons_zero, List.set_cons_succ]
                    refine anyH_take (i := 10) (v := .bool true) (some 91) rfl rfl (by kernel_rfl) (by kernel_rfl) (by kernel_rfl) (fun _ _ _ h => h) (Or.inl ⟨by rfl, fun w' hw => by go_simp⟩) (by assumption) ?_
                    simp only [Act.put, List.setIfInBounds_toArray, List.set_cons_zero, List.set_cons_succ]
                    refine anyH_take (i := 11) (v := .bool true) (some 92) rfl rfl (by kernel_rfl) (by kernel_rfl) (by kernel_rfl) (fun _ _ _ h => h) (Or.inl ⟨by rfl, fun w' hw => by go_simp⟩) (by assumption) ?_
                    simp only [Act.put, List.setIfInBounds_toArray, List.set_cons_zero, List.set_cons_succ]
                    refine anyH_take (i := 12) (v := .int .i64 (pj : Nat)) (some 93) rfl rfl (by kernel_rfl) (by kernel_rfl) (by kernel_rfl) (fun _ _ _ h => h) (Or.inl ⟨by rfl, fun w' hw => by go_simp⟩) (by assumption) ?_
                    simp only [Act.put, List.setIfInBounds_toArray, List.set_cons_zero, List.set_cons_succ]
                    refine anyH_take (i := 13) (v := .bool true) (some 94) rfl rfl (by kernel_rfl) (by kernel_rfl) (by kernel_rfl) (fun _ _ _ h => h) (Or.inl ⟨by rfl, fun w' hw => by (have hr := hf2; go_simp)⟩) (by assumption) ?_
                    simp only [Act.put, List.setIfInBounds_toArray, List.set_cons_zero, List.set_cons_succ]
                    refine anyH_take (i := 14) (v := .bool true) (some 95) rfl rfl (by kernel_rfl) (by kernel_rfl) (by kernel_rfl) (fun _ _ _ h => h) (Or.inl ⟨by rfl, fun w' hw => by go_simp⟩) (by assumption) ?_
                    simp only [Act.put, List.setIfInBounds_toArray, List.set_cons_zero, List.set_cons_succ]
                    refine wpAnyH_ready (rs := [15]) (by kernel_rfl) (by simp) ?_
                    refine AllReadyH.cons rfl (fun K hK => ?_) AllReadyH.nil
                    rw [if_pos (by rfl)]
                    refine store_toP rfl 68 _ _ rfl w.heap.size 0 NL.toArray rfl rfl hth HNi.out HN1.out ?_
                    try rw [show NL.toArray.toList = NL from rfl]
                    rw [← HWY.out]
                    refine hK.out _ _ hNY (fun hHeldx => ?_)
                    clear hK K
                    try simp only [Act.put, List.setIfInBounds_toArray, List.set_cons_zero, List.set_cons_succ]
                    refine anyH_take (i := 16) (v := .bool true) (some 5) rfl rfl (by kernel_rfl) (by kernel_rfl) (by kernel_rfl) (fun _ _ _ h => h) (Or.inl ⟨by rfl, fun w' hw => by go_simp⟩) (by assumption) ?_
                    simp only [Act.put, List.setIfInBounds_toArray, List.set_cons_zero, List.set_cons_succ]
                    refine wpAnyH_done (by kernel_rfl) ?_ _
                    clear hHeld hHeldx
                    go_wp2_with fail
                    obtain ⟨V, hV⟩ : ∃ V, V = Value.tuple #[.agg NL.toArray, .bool true] := ⟨_, rfl⟩
                    refine bodyPost_ret (v := V) ?hx1 ?h2 ?h3
                    case hx1 => rw [hV]; exact results_cell2P (fn := Try.f24) (by rfl) _ _ w.heap.size 68 NL.toArray (0, 0) _ (by rfl) _ (by rfl) hRY Try.underlying68 rfl HNi.out
                    case h2 => rfl
                    case h3 => exact ⟨V, rfl, by rw [hV]; exact hfin.out, hbX.trans (hOY.below hbX.size (fun k hk => by omega))⟩
end Go.Proofs.Ytlailhjpfadpcaa

/-
  A volume, behind its name, taken of bytes.
-/
import Derived.Test.YtcajhndhjlfmaaaVrMath
import Derived.Test.YtcajhndhjlfmaaaVrP
import Derived.Test.YtcajhndhjlfmaaaVrFl
namespace Go.Proofs.Ytcajhndhjlfmaaa
open Go.RowKit
set_option linter.unusedVariables false
set_option linter.unusedSimpArgs false

set_option maxRecDepth 100000
theorem insC_last : ∀ (acc : List Cl) (c : Cl), (∀ a ∈ acc, a.1 < c.1) → insC c acc = acc ++ [c]
  | [], c, _ => rfl
  | a :: r, c, h => by
    have h1 := h a List.mem_cons_self
    unfold insC
    rw [if_neg (by omega), insC_last r c fun x hx => h x (List.mem_cons_of_mem _ hx)]
    rfl
theorem putC_last {acc : List Cl} {n : Nat} {f : List UInt8} (h : Rise acc) (hl : lastC acc < ((n : Nat) : Int)) : putC acc n f = acc ++ [(n, f)] := by
  have hr := rise_snoc (c := (n, f)) h hl
  have ha : ∀ a ∈ acc, a.1 < n := fun a ha => by
    unfold Rise at hr
    rw [List.pairwise_append] at hr
    exact hr.2.2 a ha (n, f) (by simp)
  unfold putC delC
  rw [List.filter_eq_self.2 fun c hc => by have := ha c hc; simp; omega]
  exact insC_last acc (n, f) ha
def VTakePost (lo p : Nat) (s : St) (w : World) (e : Ending) (w' : World) : Prop :=
  Turn p w w' ∧ ((takeV s = none ∧ ∃ x, e = .returned (.tuple #[x, .bool false])) ∨
    ∃ q f cs t vb bb, takeV s = some ((q, f, cs), t) ∧ e = .returned (.tuple #[.pointer (some ⟨vb, 0, none⟩), .bool true]) ∧ Arr w' vb 93 [.int .i64 ((q : Nat) : Int), .bool f, .map (some bb)] ∧ w'.ownsMap Try.prog 3 digR bb cs.length (cellsD cs) ∧ w.heap.size ≤ vb ∧ w.heap.size ≤ bb ∧ PInL lo w' p t.1 t.2)

set_option maxHeartbeats 8000000 in
theorem take_any (lo p : Nat) (s : St) (w : World) (h : PInL lo w p s.1 s.2) :
    Calls Try.prog 32 #[.pointer (some ⟨p, 0, none⟩)] w (VTakePost lo p s w) := by
  have hpw := h.lt
  obtain ⟨td, htd⟩ : ∃ z, (numS 2097153 s).1 = z := ⟨_, rfl⟩
  obtain ⟨s1, hs1⟩ : ∃ z, (numS 2097153 s).2 = z := ⟨_, rfl⟩
  obtain ⟨q, hq⟩ : ∃ z, td / 2 = z := ⟨_, rfl⟩
  obtain ⟨f, hf⟩ : ∃ z, decide (td % 2 = 1) = z := ⟨_, rfl⟩
  obtain ⟨m, hm⟩ : ∃ z, (numS q s1).1 = z := ⟨_, rfl⟩
  obtain ⟨s2, hs2⟩ : ∃ z, (numS q s1).2 = z := ⟨_, rfl⟩
  have htd2 : td ≤ 2097153 := by rw [← htd]; exact numS_le _ _
  have hmq : m ≤ q := by rw [← hm]; exact numS_le _ _
  have hq20 : q ≤ 1048576 := by omega
  obtain ⟨R, hR⟩ : ∃ z, cellsS m ([], s2) = z := ⟨_, rfl⟩
  have HR := Lib.hid hR
  have Htk := Lib.hid (show takeV s = takeG q f R by
    unfold takeV
    rw [htd, hs1, hq, hf, hm, hs2, hR])
  have Hn1 := Lib.hid (number_fl p 2097153 s w h (by omega))
  rw [htd, hs1] at Hn1
  have Hn2 := Lib.hid (fun (w : World) (h : PInL lo w p s1.1 s1.2) => show Calls Try.prog 30 #[.pointer (some ⟨p, 0, none⟩), .int .u64 (q : Nat)] w fun e w' => e = .returned (.int .u64 (m : Nat)) ∧ PInL lo w' p s2.1 s2.2 ∧ Turn p w w' by have := number_fl p q s1 w h (by omega); rw [hm, hs2] at this; exact this)
  have hmk := @run_makeMap Try.prog
  have hqi : (td : Int) / 2 = (q : Int) := by omega
  have Hqe := Lib.hid (show ((td : Int) % 2 == 1) = f by rw [← hf, Bool.eq_iff_iff]; simp; omega)
  clear htd hs1 hq hf hm hs2 hR h
  go_enter Try.func32, Try.ntmps32
  go_wp2_with fail
  refine Calls.mono Hn1.out ?_
  rintro e w1 ⟨rfl, hP1, ht1⟩
  go_upto_region 3 with fail
  rw [show ((td : Int) % 2 == 1) = f from Hqe.out]
  obtain ⟨bb, hbb⟩ : ∃ z, z = w1.heap.size := ⟨_, rfl⟩
  rw [← hbb]
  obtain ⟨w2, hw2⟩ : ∃ z, z = (w1.alloc (.map #[] 0)).alloc (.cells #[.int .i64 (q : Nat), .bool f, .map (some bb)] 93) := ⟨_, rfl⟩
  rw [← hw2]
  have hb12 : Below w1.heap.size w1 w2 := by rw [hw2]; exact ((Below.refl _ _).alloc (Nat.le_refl _) _).alloc (by simp) _
  have hv2 : Arr w2 (bb + 1) 93 [.int .i64 (q : Nat), .bool f, .map (some bb)] := by
    have := Arr.new (w1.alloc (.map #[] 0)) 93 [.int .i64 (q : Nat), .bool f, .map (some bb)]
    rw [hw2, hbb]
    rw [hbb] at this
    simpa using this
  have hm2 : w2.ownsMap Try.prog 3 digR bb 0 (cellsD []) := by
    rw [hw2, hbb]
    exact (World.ownsMap_made (H := Unit) w1 Try.prog 3 digR).alloc _
  have ht12 : Turn p w w2 := ht1.trans ⟨hb12.os, hb12.tape, hb12.output, hb12.size, fun i hi _ => hb12.block i hi⟩
  have hP2 : PInL lo w2 p s1.1 s1.2 := hP1.kept fun i hi => hb12.block i (by have := hP1.lt; omega)
  have hbw : w.heap.size ≤ bb := by rw [hbb]; exact ht1.size
  have hpb : p < bb := by omega
  clear hw2 hb12 hP1 ht1 hbb
  have hd0 := hv2.cell 0
  simp only [List.getElem?_cons_zero] at hd0
  go_wp2_with fail
  refine Calls.mono (Hn2.out w2 hP2) ?_
  rintro e w3 ⟨rfl, hP3, ht3⟩
  have hv3 : Arr w3 (bb + 1) 93 [.int .i64 (q : Nat), .bool f, .map (some bb)] := (ht3.block _ hv2.lt (fun e => by injection e; omega)).trans hv2
  have hm3 := World.ownsMap.at_ hm2 (ht3.block _ (World.ownsMap.lt hm2) (fun e => by injection e; omega))
  have ht3w : Turn p w w3 := ht12.trans ht3
  clear hv2 hm2 ht12 ht3 hP2 hd0 Hn1 Hn2 Hqe hmk
  go_wp2_with fail
  go_loopw [6, 27] (fun lv i wr => ∃ (k : Nat) (acc : List Cl) (s4 : St), k ≤ m ∧ i = .int .u64 (k : Nat) ∧ lv = .int .i64 (lastC acc) ∧ Arr wr (bb + 1) 93 [.int .i64 (q : Nat), .bool f, .map (some bb)] ∧ wr.ownsMap Try.prog 3 digR bb acc.length (cellsD acc) ∧ PInL lo wr p s4.1 s4.2 ∧ Hid (cellsS (m - k) (acc, s4) = R) ∧ Hid (Rise acc ∧ acc.length = k) ∧ Turn p w wr) (fun _ i _ => m - (Go.RowKit.intOf i).toNat)
  case atStart => exact ⟨0, [], s2, Nat.zero_le _, rfl, rfl, hv3, hm3, hP3, Lib.hid HR.out, Lib.hid ⟨List.Pairwise.nil, rfl⟩, ht3w⟩
  case round =>
    clear hv3 hm3 hP3 ht3w
    obtain ⟨k, acc, s4, hk, rfl, rfl, hv, hmp, hP, Hrun, Hrl, ht⟩ := hrel
    have hrw : w.heap.size ≤ wr.heap.size := ht.size
    by_cases hlt : k < m
    · have hd1 : decide ((k : Int) < (m : Int)) = true := by simp; omega
      have hd2 : decide (k < m) = true := by simp; omega
      have hrun := Hrun.out
      rw [show m - k = (m - (k + 1)) + 1 by omega] at hrun
      unfold cellsS at hrun
      dsimp only at hrun
      obtain ⟨nn, hnn⟩ : ∃ z, (numS 1048575 s4).1 = z := ⟨_, rfl⟩
      obtain ⟨s5, hs5⟩ : ∃ z, (numS 1048575 s4).2 = z := ⟨_, rfl⟩
      obtain ⟨d, hd⟩ : ∃ z, (digS s5).1 = z := ⟨_, rfl⟩
      obtain ⟨s6, hs6⟩ : ∃ z, (digS s5).2 = z := ⟨_, rfl⟩
      have hcs : cellS s4 = ((nn, d), s6) := by unfold cellS; rw [hs5, hnn, hd, hs6]
      rw [hcs] at hrun
      dsimp only at hrun
      have Hr := Lib.hid hrun
      have hn20 : nn ≤ 1048575 := by rw [← hnn]; exact numS_le _ _
      have hd32 : d.length = 32 := by rw [← hd]; exact digS_length _
      have Hnum := Lib.hid (number_fl p 1048575 s4 wr hP (by omega))
      rw [hnn, hs5] at Hnum
      have Hdig := Lib.hid (fun (w : World) (h : PInL lo w p s5.1 s5.2) => digest_fl p s5 w h)
      rw [hd, hs6] at Hdig
      obtain ⟨DL, hDL⟩ : ∃ z, z = Lib.byteCells d := ⟨_, rfl⟩
      rw [← hDL] at Hdig
      have HDi := Lib.hid (show (Try.prog.info? 62).map (·.size) = some DL.toArray.size ∧ (Lib.byteCells zeros).toArray.size = DL.toArray.size by rw [hDL, List.size_toArray, List.size_toArray, Lib.byteCells_length, Lib.byteCells_length, hd32]; exact ⟨digInfo, rfl⟩)
      have HDn := Lib.hid (show (Try.prog.info? 62).map (·.size) = some DL.length by rw [hDL, Lib.byteCells_length, hd32]; exact digInfo)
      have HD1 := Lib.hid (show DL.toArray.all (·.oneCell') = true by rw [hDL]; exact dig_one _)
      have Hrd := Lib.hid (show digR (.agg DL.toArray) = some (.lit (.string d), []) by rw [hDL]; exact digR_mk hd32)
      have Hd32 := Lib.hid hd32
      clear hrun Hrun hnn hs5 hd hs6 hcs hP hDL hd32
      go_wp2_with fail
      refine Calls.mono Hnum.out ?_
      rintro e w4 ⟨rfl, hP4, ht4⟩
      go_wp2_with fail
      refine Calls.mono (Hdig.out w4 hP4) ?_
      rintro e w5 ⟨rfl, hP5, ht5⟩
      have hv5 : Arr w5 (bb + 1) 93 [.int .i64 (q : Nat), .bool f, .map (some bb)] := by
        have h4 := (ht4.block _ hv.lt (fun e => by injection e; omega)).trans hv
        exact (ht5.block _ (Nat.lt_of_lt_of_le hv.lt ht4.size) (fun e => by injection e; omega)).trans h4
      have hm5 : w5.ownsMap Try.prog 3 digR bb acc.length (cellsD acc) := by
        have h4 := World.ownsMap.at_ hmp (ht4.block _ (World.ownsMap.lt hmp) (fun e => by injection e; omega))
        exact World.ownsMap.at_ h4 (ht5.block _ (World.ownsMap.lt h4) (fun e => by injection e; omega))
      have ht5w := ht.trans (ht4.trans ht5)
      have hrw5 : w.heap.size ≤ w5.heap.size := ht5w.size
      clear Hnum Hdig hP4 ht4 ht5 ht hv hmp
      go_upto_region 7 with (first | (change wpList _ _ _ _ _ (w5.alloc (.cells (Lib.byteCells zeros).toArray 62)); refine wpList_store_row rfl _ _ _ rfl w5.heap.size DL.toArray rfl rfl 62 (Lib.byteCells zeros).toArray (heap_alloc_new w5 _) HDi.out.1 HDi.out.2 HD1.out ?_; obtain ⟨w6, hw6⟩ : ∃ x, x = (w5.alloc (.cells (Lib.byteCells zeros).toArray 62)).setRow w5.heap.size DL.toArray := ⟨_, rfl⟩; rw [← hw6]; obtain ⟨hP6, hb6⟩ := alloc_row w5 62 (Lib.byteCells zeros).toArray DL; rw [← hw6] at hP6 hb6; clear hw6))
      obtain ⟨gd, hgd⟩ : ∃ z, z = w5.heap.size := ⟨_, rfl⟩
      rw [← hgd] at hP6 ⊢
      have hP6x : PInL lo w6 p s6.1 s6.2 := hP5.kept fun i hi => hb6.block i (by have := hP5.lt; omega)
      have hv6 := hv5.up hb6
      have hm6 := World.ownsMap.at_ hm5 (hb6.block _ (World.ownsMap.lt hm5))
      have ht6 : Turn p w w6 := ht5w.trans ⟨hb6.os, hb6.tape, hb6.output, hb6.size, fun i hi _ => hb6.block i hi⟩
      have hgb : gd ≠ bb := by have := World.ownsMap.lt hm5; omega
      have hpg : p < gd := by omega
      obtain ⟨lc, hlc⟩ : ∃ z, lastC acc = z := ⟨_, rfl⟩
      rw [hlc] at Hr ⊢
      have Hlc := Lib.hid hlc
      clear hP5 hv5 hm5 ht5w hb6 hgd hlc
      go_wp2_with fail
      refine Calls.mono (wrong_in p s6.1 s6.2 w6 hP6x) ?_
      rintro e w7 ⟨rfl, hwx⟩
      subst hwx
      obtain ⟨wf, hwf⟩ : ∃ z, s6.2 = z := ⟨_, rfl⟩
      rw [hwf] at Hr ⊢
      have Hwf := Lib.hid hwf
      clear hwf
      cases wf with
      | true =>
        have Hno := Lib.hid (show takeV s = none by rw [Htk.out, ← Hr.out, if_pos (.inl rfl)]; rfl)
        clear hP6 hv6 hm6 Hr
        go_wp2_with fail
        go_ret2
        exact ⟨ht6, .inl ⟨Hno.out, _, rfl⟩⟩
      | false =>
        by_cases hle : (nn : Int) ≤ lc
        · have hd3 : decide ((nn : Int) ≤ lc) = true := by simpa using hle
          have Hno := Lib.hid (show takeV s = none by rw [Htk.out, ← Hr.out, if_pos (.inr hle)]; rfl)
          clear hP6 hv6 hm6 Hr hle
          go_wp2_with fail
          go_ret2
          exact ⟨ht6, .inl ⟨Hno.out, _, rfl⟩⟩
        · have hd3 : decide ((nn : Int) ≤ lc) = false := by simpa using hle
          have Hnx := Lib.hid (show cellsS (m - (k + 1)) (acc ++ [(nn, d)], s6) = R by rw [← Hr.out, if_neg (by simpa using hle)])
          have Hput := Lib.hid (putC_last (f := d) Hrl.out.1 (show lastC acc < ((nn : Nat) : Int) by rw [Hlc.out]; omega))
          have Hrise := Lib.hid (show Rise (acc ++ [(nn, d)]) ∧ (acc ++ [(nn, d)]).length = k + 1 from ⟨rise_snoc (c := (nn, d)) Hrl.out.1 (show lastC acc < ((nn : Nat) : Int) by rw [Hlc.out]; omega), by rw [List.length_append, Hrl.out.2]; rfl⟩)
          have hroom : acc.length < maxLen := by rw [Hrl.out.2]; unfold maxLen; omega
          have Hkey := Lib.hid (keyOf_num (n := (nn : Nat)) (by omega) (by omega))
          clear Hr hle
          go_upto_region 9 with fail
          refine wp_region_held_drew (S := (fun w' => Arr w' (bb + 1) 93 [.int .i64 (q : Nat), .bool f, .map (some bb)] ∧ Arr w' gd 62 DL)) (by kernel_rfl) ⟨hv6, hP6⟩ (fun hHeld => ?_)
          refine anyH_take (i := 0) (v := (.pointer (some ⟨bb + 1, 0, none⟩))) (some 41) rfl rfl (by kernel_rfl) (by kernel_rfl) (by kernel_rfl) (fun _ _ _ h => h) (Or.inl ⟨by rfl, fun w' hw => by (go_simp)⟩) (by assumption) ?_
          simp only [Act.put, List.setIfInBounds_toArray, List.set_cons_zero, List.set_cons_succ]
          refine anyH_take (i := 1) (v := (.pointer (some ⟨bb + 1, 0, none⟩))) (some 42) rfl rfl (by kernel_rfl) (by kernel_rfl) (by kernel_rfl) (fun _ _ _ h => h) (Or.inl ⟨by rfl, fun w' hw => by (go_simp)⟩) (by assumption) ?_
          simp only [Act.put, List.setIfInBounds_toArray, List.set_cons_zero, List.set_cons_succ]
          refine anyH_take (i := 2) (v := (.pointer (some ⟨bb + 1, 2, none⟩))) (some 43) rfl rfl (by kernel_rfl) (by kernel_rfl) (by kernel_rfl) (fun _ _ _ h => h) (Or.inl ⟨by rfl, fun w' hw => by (go_simp)⟩) (by assumption) ?_
          simp only [Act.put, List.setIfInBounds_toArray, List.set_cons_zero, List.set_cons_succ]
          refine anyH_take (i := 3) (v := (.map (some bb))) (some 44) rfl rfl (by kernel_rfl) (by kernel_rfl) (by kernel_rfl) (fun _ _ _ h => h) (Or.inl ⟨by rfl, fun w' hw => by (have hcc := hw.1.cell 2; simp only [List.getElem?_cons_succ, List.getElem?_cons_zero] at hcc; go_simp)⟩) (by assumption) ?_
          simp only [Act.put, List.setIfInBounds_toArray, List.set_cons_zero, List.set_cons_succ]
          refine anyH_take (i := 4) (v := (.int .i64 (nn : Nat))) (some 45) rfl rfl (by kernel_rfl) (by kernel_rfl) (by kernel_rfl) (fun _ _ _ h => h) (Or.inl ⟨by rfl, fun w' hw => by (go_simp)⟩) (by assumption) ?_
          simp only [Act.put, List.setIfInBounds_toArray, List.set_cons_zero, List.set_cons_succ]
          refine anyH_take (i := 5) (some 46) rfl rfl (by kernel_rfl) (by kernel_rfl) (by kernel_rfl) (fun _ _ _ h => h) (yieldsIf_load_mid (by rfl) 62 (.tmp 8) rfl gd 0 rfl DL _ (fun w' h => (h.2).range) Try.underlying62 rfl HDn.out) (by assumption) ?_
          simp only [Act.put, List.setIfInBounds_toArray, List.set_cons_zero, List.set_cons_succ]
          refine wpAnyH_ready (rs := [6]) (by kernel_rfl) (by simp) ?_
          refine AllReadyH.cons rfl (fun K hK => ?_) AllReadyH.nil
          rw [if_pos (by rfl)]
          refine wp_mapUpdate_to rfl _ _ _ 91 rfl 3 62 intKeyed Try.underlying91 digR bb acc.length (cellsD acc) rfl (World.ownsMap.at_ hm6 (by rfl)) hroom _ _ _ rfl rfl Hkey.out _ [] Hrd.out ?_
          intro w8 hown hg8
          rw [cellsD_put] at hown
          have hS8 : Arr w8 (bb + 1) 93 [.int .i64 (q : Nat), .bool f, .map (some bb)] ∧ Arr w8 gd 62 DL := ⟨(hg8.block _ hv6.lt (fun e => by injection e; omega)).trans hv6, (hg8.block _ hP6.lt (fun e => by injection e; omega)).trans hP6⟩
          refine hK.out _ _ hS8 (fun hHeldq => ?_)
          clear hK K hHeldq
          try simp only [Act.put, List.setIfInBounds_toArray, List.set_cons_zero, List.set_cons_succ]
          refine wpAnyH_done (by kernel_rfl) ?_ _
          have hown8 := World.ownsMap.tight hown
          rw [cellsD_size, Hput.out] at hown8
          have ht8 : Turn p w w8 := by
            have h68 := hg8
            exact ⟨h68.os.trans ht6.os, h68.tape.trans ht6.tape, h68.output.trans ht6.output, Nat.le_trans ht6.size h68.size, fun i hi hn => (h68.block i (show i < w6.heap.size by have := ht6.size; omega) (fun e => by injection e; omega)).trans (ht6.block i hi hn)⟩
          have hP8 : PInL lo w8 p s6.1 false := by
            have h68 := hg8
            rw [← Hwf.out]
            exact hP6x.kept fun i hi => h68.block i (show i < w6.heap.size by have := hP6x.lt; omega) (fun e => by injection e; omega)
          have hv8 := hS8.1
          clear hHeld hown hg8 hS8 hP6 hv6 hm6 ht6 hP6x
          go_wp2_with fail
          go_roundw
          case rel => exact ⟨k + 1, acc ++ [(nn, d)], s6, by omega, by go_num, by rw [lastC_snoc], hv8, hown8, by rw [Hwf.out]; exact hP8, Hnx, Hrise, ht8⟩
          case measure => simp [Go.RowKit.intOf]; omega
    · obtain rfl : k = m := by omega
      have hd1 : decide ((k : Int) < (k : Int)) = false := by simp
      have hd2 : decide (k < k) = false := by simp
      have Hfin := Lib.hid (show R = some (acc, s4) by rw [← Hrun.out, Nat.sub_self]; rfl)
      go_wp2_with fail
      refine Calls.mono (wrong_in p s4.1 s4.2 wr hP) ?_
      rintro e w7 ⟨rfl, hwx⟩
      subst hwx
      obtain ⟨wf, hwf⟩ : ∃ z, s4.2 = z := ⟨_, rfl⟩
      rw [hwf]
      cases wf with
      | true =>
        have Hno := Lib.hid (show takeV s = none by rw [Htk.out, Hfin.out]; unfold takeG; dsimp only; rw [if_pos hwf])
        clear hwf
        go_wp2_with fail
        go_ret2
        exact ⟨ht, .inl ⟨Hno.out, _, rfl⟩⟩
      | false =>
        have Hyes := Lib.hid (show takeV s = some ((q, f, acc), s4) by rw [Htk.out, Hfin.out]; unfold takeG; dsimp only; rw [if_neg (by rw [hwf]; simp)])
        clear hwf
        go_wp2_with fail
        go_ret2
        exact ⟨ht, .inr ⟨q, f, acc, s4, bb + 1, bb, Hyes.out, rfl, hv, hmp, by omega, hbw, hP⟩⟩

end Go.Proofs.Ytcajhndhjlfmaaa

/-
  settle.
-/
import Derived.Test.YtkpgbgiamekhaacSettleMath
import Derived.Test.YtkpgbgiamekhaacMem
namespace Go.Proofs.Ytkpgbgiamekhaac
open Go.RowKit
set_option linter.unusedVariables false
set_option linter.unusedSimpArgs false

theorem byteSize : (Try.prog.info? 5).map (·.size) = some 1 := by kernel_rfl
theorem wrSize : (Try.prog.info? 84).map (·.size) = some 66 := by kernel_rfl
theorem alloc_row (w : World) (T : TypeId) (Z : Array Value) (V : List Value) : Arr ((w.alloc (.cells Z T)).setRow w.heap.size V.toArray) w.heap.size T V ∧ Below w.heap.size w ((w.alloc (.cells Z T)).setRow w.heap.size V.toArray) := by
  have h := Arr.new w T Z.toList
  refine ⟨by simpa using h.setRow V, ?_⟩
  have := ((Only.refl (fun _ => False) w).alloc (.cells Z T)).setRow (g := w.heap.size) (.inr (Nat.le_refl _)) V.toArray
  exact this.below (Nat.le_refl _) (fun k h => h.elim)

theorem bs_only {w w' : World} {B : Nat} {A : Option Addr} {l : List UInt8} {R : Nat → Prop} (h : Bs w B A l) (hO : Only R w w') (hB : B ≤ w.heap.size) (hA : 0 < l.length → ∀ p : Addr, A = some p → ¬ R p.block) : Bs w' B A l := fun hp => by
  obtain ⟨b, off, e, hb, hc⟩ := h hp
  exact ⟨b, off, e, hb, fun j hj => by rw [World.cell?_of_block (hO.block b (Nat.lt_of_lt_of_le hb hB) (hA hp _ e))]; exact hc j hj⟩

def SettlePost (F : Nat → Prop) (k n : Nat) (S L : List (List UInt8)) (fu : Bool) (left : Int) (w : World) (e : Ending) (w' : World) : Prop :=
  e = .returned (.tuple #[]) ∧ Disk w' (newF F w w') k n S L [] fu left ∧ Only F w w'

theorem settle_post {w wr w9 : World} {F : Nat → Prop} {k gs gl bm : Nat} {vw : Value} {base nm n : Nat} {S L : List (List UInt8)} {W : List WrF} {D : DataW Unit} {fu : Bool} {left : Int} (hD : DkW wr F k gs gl bm vw base nm n S L W D fu left) (hO : Only F w wr) (hF : ∀ b, F b → b < w.heap.size)
    (hk : Arr w9 k 81 [.slice (some ⟨gs, 0, none⟩) n n, .slice (some ⟨gl, 0, none⟩) n n, .slice none 0 0, .map (some wr.heap.size), .bool fu, .int .i64 left]) (hm : w9.heap[wr.heap.size]? = some (.map #[] 0)) (hO9 : Only (fun b => b = k) wr w9) (hz : w9.heap.size = wr.heap.size + 1) :
    SettlePost F k n S L fu left w (.returned (.tuple #[])) w9 := by
  have hlt : ∀ b, F b → b < wr.heap.size := hD.Flt
  have hws := hO.size
  have hmade : w9.ownsGroups (H := Unit) Try.prog 3 (wr.heap.size + 1) 3 .i64 wr.heap.size 0 (.map []) :=
    ⟨#[], 0, hm, ⟨by simp, Go.MapKept.stamped_empty 0, by simp⟩, Nat.le_refl _, rfl, Nat.lt_succ_self _, by simp, by simp⟩
  have hempty : ∀ (Q : Nat → Prop) es clock, w9.heap[wr.heap.size]? = some (.map es clock) → ∀ x ∈ es.toList, ∀ g, x.val.ownBlock = some g → Q g := fun Q es clock he x hx => by
    rw [hm] at he
    cases he
    simp at hx
  have hnF : ∀ b, F b → b ≠ wr.heap.size := fun b hF e => by have := hlt b hF; omega
  have hk0 := hnF k hD.Fk
  have hs0 := hnF gs hD.Fs
  have hl0 := hnF gl hD.Fl
  refine ⟨rfl, ⟨gs, gl, wr.heap.size, .slice none 0 0, wr.heap.size + 1, 0, .map [], ⟨hk, hD.hs.only hO9 (fun e => hD.ks e.symm), hD.hl.only hO9 (fun e => hD.kl e.symm), World.ownsRow_nil _ _ _ _, hmade, fun es clock he x hx g hg _ => hempty (fun _ => False) es clock he x hx g hg, hD.n1, hD.n2, hD.lS, hD.lL, hD.s64, hD.l64, by simp, by simp, by simp, by omega, hD.f0, hD.f1, .inl hD.Fk, .inl hD.Fs, .inl hD.Fl, .inr ⟨hws, by omega⟩, fun j hj => by simp [Value.ownBlock] at hj, hempty _, fun b hb => ?_, hD.ks, hD.kl, hk0, hD.sl, hs0, hl0, by simp [Value.ownBlock], by simp [Value.ownBlock], by simp [Value.ownBlock], by simp [Value.ownBlock]⟩, ⟨fun kl h => by simp [Maps.has_eq] at h, by simp⟩, by simp, by simp⟩, hO.then hO9 (fun i hi => .inl (hi ▸ hD.Fk))⟩
  rcases hb with hb | hb
  · have := hlt b hb; omega
  · exact hb.2

set_option maxHeartbeats 16000000 in
set_option maxRecDepth 100000 in
theorem settle_sync (F : Nat → Prop) (k n : Nat) (S L : List (List UInt8)) (W : List WrF) (fu : Bool) (left : Int) (w : World) (h : Disk w F k n S L W fu left) :
    Calls Try.prog 40 #[.pointer (some ⟨k, 0, none⟩), .func (.func 41) #[] #[]] w (SettlePost F k n (seenF W S (lstF (fun _ => 64) W L W.length)) (lstF (fun _ => 64) W L W.length) fu left w) := by
  obtain ⟨gs, gl, bm, vw, base, nm, D, hD, hK, hnm, hgone⟩ := h
  have hn2 := hD.n2
  have hkw := hD.Flt k hD.Fk
  obtain ⟨KF, hKF⟩ : ∃ KF : Nat → Nat, KF = (fun _ => 64) := ⟨_, rfl⟩
  have hK64 : ∀ j, KF j ≤ 64 := fun j => by rw [hKF]; exact Nat.le_refl _
  rw [← hKF]
  have HKF := Lib.hid hKF
  clear hKF
  obtain ⟨Aw, cw, hvw⟩ := hD.vw_form
  obtain ⟨m, hm⟩ : ∃ m, W.length = m := ⟨_, rfl⟩
  rw [hm] at hvw ⊢
  subst hvw
  have Hm := Lib.hid hm
  have hmN : m ≤ 100000 := by rw [← hm]; exact hD.wN
  have hwI := hD.wIn
  rw [← hD.lL] at hwI
  have h64 := fun j hj => lstF_64 (KF := KF) (W := W) (L := L) hK64 hD.l64 hwI j hj
  rw [hm] at h64
  have H64 := Lib.hid h64
  have HwI := Lib.hid hwI
  have HlL := Lib.hid hD.lL
  have Hgone := Lib.hid hgone
  have hc2 := hD.c2
  have hzv : ∀ w, (zeroValue 84).run Try.prog w = .ok (.agg wrZ.toArray) w := fun w => by kernel_rfl
  clear hm h64 hwI hgone
  go_enter Try.func40, Try.ntmps40
  go_wp2_with fail
  go_loopw [4, 14] (fun c s wr => ∃ j : Nat, c = .int .i64 j ∧ s = .int .i64 j ∧ j ≤ m ∧ DkW wr F k gs gl bm (.slice Aw m cw) base nm n S (lstF KF W L j) W D fu left ∧ Only F w wr) (fun _ s _ => m - (intOf s).toNat)
  case atStart => exact ⟨0, rfl, rfl, Nat.zero_le _, hD, Only.refl _ _⟩
  case round =>
    obtain ⟨j, rfl, rfl, hjm, hDr, hOr⟩ := hrel
    clear hc2
    obtain ⟨wq, hwq⟩ : ∃ x, x = wr := ⟨_, rfl⟩
    subst hwq
    by_cases hlt : j < m
    · have hjW : j < W.length := by rw [Hm.out]; exact hlt
      obtain ⟨gw, c', e, hgw, hwr⟩ := hDr.wr_at hjW
      injection e with e1 e2 e3
      subst e1
      have hx := hDr.wIn _ (wrAt_mem hjW)
      have hgn := Hgone.out _ (wrAt_mem hjW)
      have hst : lstF KF W L (j + 1) = (lstF KF W L j).set (wrAt W j).1 (cutW (KF j) (wrAt W j).2.1 ((lstF KF W L j).getD (wrAt W j).1 [])) := rfl
      obtain ⟨x, hxe⟩ : ∃ x, wrAt W j = x := ⟨_, rfl⟩
      rw [hxe] at hwr hx hgn hst
      obtain ⟨Lj, hLj⟩ : ∃ l, lstF KF W L j = l := ⟨_, rfl⟩
      rw [hLj] at hDr hst
      obtain ⟨XL, hXL⟩ : ∃ l, l = wrOne x := ⟨_, rfl⟩
      have HXl := Lib.hid (show XL.length = 66 by rw [hXL]; exact wrOne_length hx.2)
      have HXi := Lib.hid (show (Try.prog.info? 84).map (·.size) = some XL.toArray.size by rw [List.size_toArray, HXl.out]; exact wrSize)
      have HXz := Lib.hid (show (Try.prog.info? 84).map (·.size) = some XL.length by rw [HXl.out]; exact wrSize)
      have HX1 := Lib.hid (show XL.toArray.all (·.oneCell') = true by rw [hXL]; exact all_oneCell_toArray (wrOne_cell x))
      have HXs := Lib.hid (show wrZ.toArray.size = XL.toArray.size by rw [List.size_toArray, List.size_toArray, HXl.out]; rfl)
      rw [← hXL] at hwr
      have h0 := wrOne_0 x
      have h65 := wrOne_65 hx.2
      rw [hgn] at h65
      rw [← hXL] at h0 h65
      have HXL := Lib.hid hXL
      have HLj := Lib.hid hLj
      have Hst := Lib.hid hst
      have Hx64 := Lib.hid hx.2
      obtain ⟨at_, hat⟩ : ∃ q, x.1 = q := ⟨_, rfl⟩
      rw [hat] at h0
      have hatn : at_ < n := by rw [← hat]; exact hx.1
      have Hat := Lib.hid hat
      have hjI : (j : Int) < (m : Int) := by omega
      clear hXL hLj hst hxe hx hgn hat e2 e3
      go_wp2_with (first | (refine wpList_load_mid rfl _ _ rfl gw (j * 66) rfl XL _ hwr Try.underlying84 rfl HXz.out ?_) | (change wpList _ _ _ _ _ (wq.alloc (.cells wrZ.toArray 84)); refine wpList_store_row rfl _ _ _ rfl wq.heap.size XL.toArray rfl rfl 84 wrZ.toArray (heap_alloc_new wq _) HXi.out HXs.out HX1.out ?_; obtain ⟨w1, hw1⟩ : ∃ x, x = (wq.alloc (.cells wrZ.toArray 84)).setRow wq.heap.size XL.toArray := ⟨_, rfl⟩; rw [← hw1]; obtain ⟨hX1, hb1⟩ := alloc_row wq 84 wrZ.toArray XL; rw [← hw1] at hX1 hb1; clear hw1; have h65' : w1.cell? ⟨wq.heap.size, 65, none⟩ = some (.bool false) := by rw [hX1.cell]; exact h65))
      have hD1 := hDr.kept hb1.size (fun b hF => hb1.block b (hDr.Flt b hF))
      have hO1 : Only F w w1 := hOr.step hb1
      refine Calls.mono (sync_keep j w1) ?_
      rintro e w2 ⟨rfl, hb2⟩
      have hX2 := hX1.up hb2
      have hD2 := hD1.kept hb2.size (fun b hF => hb2.block b (hD1.Flt b hF))
      have hO2 := hO1.step hb2
      have hgx : ¬ F wq.heap.size := fun e => Nat.lt_irrefl _ (hDr.Flt _ e)
      have Hkj := Lib.hid (hK64 j)
      have Hkf := Lib.hid (congrFun HKF.out j)
      clear hDr hOr hb1 hO1 hD1 hX1 hb2 h65' hwr
      obtain ⟨K, hKj⟩ : ∃ K, KF j = K := ⟨_, rfl⟩
      rw [show (64 : Nat) = K by rw [← hKj, Hkf.out]]
      have hKle : K ≤ 64 := by rw [← hKj]; exact Hkj.out
      have HKj := Lib.hid hKj
      clear hKj
      have c1 := hD2.c1
      have cx : w2.cell? ⟨wq.heap.size, 0, none⟩ = some (.int .i64 (at_ : Nat)) := by rw [hX2.cell]; exact h0
      have hatI : (at_ : Int) < (n : Int) := by omega
      have hKI : (K : Int) ≤ 64 := by omega
      go_wp2_with fail
      go_still_tail 12, (by kernel_rfl)
      have hD3 := hD2.drew
      have hX3 := hX2.drewN 1
      have hO3 : Only F w w2.drew := hO2.drewN 1
      change wpList _ _ _ _ _ w2.drew
      obtain ⟨w3, hw3⟩ : ∃ x, x = w2.drew := ⟨_, rfl⟩
      rw [← hw3] at hD3 hO3 ⊢
      have hX3' : Arr w3 wq.heap.size 84 XL := by rw [hw3]; exact hX3
      have hsrc : ∀ i v, (Lib.byteCells (x.2.1.take K))[i]? = some v → w3.cell? ((⟨wq.heap.size, 1, none⟩ : Addr).add i) = some v := fun i v hv => by
        have hadd : (⟨wq.heap.size, 1, none⟩ : Addr).add i = ⟨wq.heap.size, 1 + i, none⟩ := by unfold Addr.add; split <;> simp_all
        rw [hadd, hX3'.cell, HXL.out]
        refine wrOne_mid ?_
        have hi := (List.getElem?_eq_some_iff.1 hv).1
        rw [Lib.byteCells_length, List.length_take] at hi
        have : Lib.byteCells (x.2.1.take K) = (Lib.byteCells x.2.1).take K := by unfold Lib.byteCells; rw [List.map_take]
        rw [this, List.getElem?_take_of_lt (by omega)] at hv
        exact hv
      have hcl : (Lib.byteCells (x.2.1.take K)).length = K := by rw [Lib.byteCells_length, List.length_take, Hx64.out]; omega
      have hfit : at_ * 64 + (Lib.byteCells (x.2.1.take K)).length ≤ (secC Lj).length := by rw [hcl, secC_length hD3.l64, hD3.lL]; omega
      have hspl := splice_sec hD3.l64 (i := at_) (by rw [hD3.lL]; exact hatn) x.2.1 Hx64.out K hKle
      have hst := Hst.out
      rw [Hat.out, HKj.out] at hst
      rw [← hst] at hspl
      clear c1 cx hX2 hD2 hO2 hX3 hw3 hX3'
      go_wp2_with (refine wpList_copy_any rfl _ _ 23 23 rfl 5 Try.underlying23 byteSize _ _ _ _ _ _ rfl rfl gl (at_ * 64) (secC Lj) 30 hD3.hl (Lib.byteCells (x.2.1.take K)) (by rw [hcl]; simp) (fun _ => ⟨rfl, _, rfl, hsrc⟩) hfit (byteCells_one _) ?_; intro w4 hcur hw4)
      have hg4 := hw4.1
      have hs4 := hw4.2
      rw [hspl] at hcur
      have hne : ∀ {b : Nat}, b ≠ gl → some b ≠ some gl := fun h e => h (by injection e)
      have hD4 : DkW w4 F k gs gl bm (.slice (some ⟨gw, 0, none⟩) m cw) base nm n S (lstF KF W L (j + 1)) W D fu left := hD3.turn (by omega) (fun b hF _ _ h3 => hg4.block b (hD3.Flt b hF) (hne h3)) ((hg4.block k (hD3.Flt k hD3.Fk) (hne hD3.kl)).trans hD3.hk) ((hg4.block gs (hD3.Flt gs hD3.Fs) (hne hD3.sl)).trans hD3.hs) hcur.out hD3.lS (by rw [lstF_length]; exact HlL.out) hD3.s64 (H64.out (j + 1) (by omega)) hD3.f0 hD3.f1
      have hO4 : Only F w w4 := hO3.then (World.grownBy.only hg4 (R := F) (fun g hg => by injection hg with hg; exact hg ▸ hD3.Fl)) (fun i hi => .inl hi)
      clear hD3 hO3 hcur hw4 hg4 hs4 hspl hst hsrc
      go_roundw
      case rel => exact ⟨j + 1, by go_num, by go_num, by omega, hD4, hO4⟩
      case measure => simp [intOf]; omega
    · obtain rfl : j = m := by omega
      have hlt2 : ¬ (j : Int) < (j : Int) := by omega
      have hcm3 := hDr.c3
      have hown : wq.ownsMap Try.prog 3 (rowElem (H := Unit) wq base 3 .i64) bm nm D := by
        obtain ⟨es, clock, he, Ft, hsz, hDe, _⟩ := hDr.hm
        exact ⟨es, clock, he, Ft, hsz, hDe⟩
      obtain ⟨R0, hR0⟩ : ∃ R, R = rowElem (H := Unit) wq base 3 .i64 := ⟨_, rfl⟩
      rw [← hR0] at hown
      clear hR0
      obtain ⟨L', hL'⟩ : ∃ l, lstF KF W L j = l := ⟨_, rfl⟩
      rw [hL'] at hDr ⊢
      have HKs := Lib.hid hK
      have HLe := Lib.hid hL'
      have hIs := hown.isMap
      have hkeys := hK.1
      clear hL' hK
      go_wp2_with (at_range; refine wpList_range_own _ rfl _ 79 rfl 3 82 sec_int_keyed Try.underlying79 R0 bm nm D rfl hown ?_; intro w0 hrg0 hg0 hs0)
      have hD0 := hDr.kept hg0.size (fun b hF => hg0.block b (hDr.Flt b hF) (by simp))
      have hO0 : Only F w w0 := hOr.then (World.grownBy.only hg0 (R := F) (fun g hg => by cases hg)) (fun i hi => .inl hi)
      obtain ⟨r, hr⟩ : ∃ r, r = wq.heap.size := ⟨_, rfl⟩
      rw [← hr] at hrg0 ⊢
      have hrw : w.heap.size ≤ r := by rw [hr]; exact hOr.size
      have hrF : ∀ b, F b → b ≠ r := fun b hF e => by have := hDr.Flt b hF; omega
      have hS0 := midF_start D S L'
      rw [← hS0] at hD0
      clear hr hDr hown hOr hcm3 hS0 hg0 hs0
      try go_frame
      go_loopw [8] (fun _ wr => ∃ left0 cnt, wr.ranges Try.prog 3 R0 bm r nm D left0 cnt ∧ DkW wr F k gs gl bm (.slice Aw j cw) base nm n (midF D left0 S L') L' W D fu left ∧ Only F w wr) (fun _ wr => wr.rangeLeft bm r)
      case atStart => exact ⟨_, _, hrg0, hD0, hO0⟩
      case round =>
        clear hrg0 hD0 hO0
        obtain ⟨left0, cnt, hrg, hDl, hOl⟩ := hrel
        go_wp2_with (at_next; refine wpList_next_ranges _ rfl _ rfl 3 sec_int_keyed R0 (Value.int .i64) id (fun key kl h => by obtain ⟨x, e, _⟩ := Go.Maps.keyOf_int_inv Try.underlying3 h; exact ⟨x, e⟩) (fun v y _ => ⟨v, rfl⟩) bm r nm D left0 cnt rfl hrg ?_ ?_)
        · intro hcnt hno
          have hend := midF_end (S := S) (L := L') hno HKs.out
          rw [hend] at hDl
          clear hrg hno hkeys hcnt
          go_wp2_with fail
          refine Calls.mono (forget_any k _ _ _ _ _ _ wr hDl.hk) ?_
          rintro e w9 ⟨rfl, hk9, hm9, hO9, hz9⟩
          go_wp2_with fail
          go_end0
          have hLe := HLe.out
          subst hLe
          exact settle_post hDl hOl hD.Flt hk9 hm9 hO9 hz9
        · intro z c kl y1 y2 w1 cnt1 hkey hlk hRc hatk hrg1 hlt1 hg1 hs1 hen
          obtain ⟨z', ez, rfl, hwf⟩ := Go.Maps.keyOf_int_inv Try.underlying3 hkey
          injection ez with _ ez
          subst ez
          have hhas := Go.Maps.has_true_of_atKey hatk
          obtain ⟨a, ea, x, hxW, hxa⟩ := hkeys _ hhas
          injection ea with _ ea
          subst ea
          have han : a < n := by rw [← hxa, ← HlL.out]; exact (HwI.out x hxW).1
          have hlS : S.length = n := hD.lS
          have Hstep := Lib.hid (midF_step (left := left0) (S := S) (L := L') (sec_int_keyed.key hkey) hhas (by rw [hlS]; exact han))
          have hD1 := hDl.kept hg1.size (fun b hF => hg1.block b (hDl.Flt b hF) (fun e => hrF b hF (by injection e)))
          have hO1 : Only F w w1 := hOl.then (World.grownBy.only hg1 (R := fun b => b = r) (fun g hg => by injection hg with hg; exact hg.symm)) (fun i hi => .inr (by rw [hi]; exact hrw))
          obtain ⟨T, hT⟩ : ∃ t, L'.getD a [] = t := ⟨_, rfl⟩
          have hT64 : T.length = 64 := by rw [← hT]; exact hD1.l64 _ (by simp [List.getD, show a < L'.length by rw [hD1.lL]; exact han])
          obtain ⟨TL, hTL⟩ : ∃ l, l = Lib.byteCells T := ⟨_, rfl⟩
          have HTl := Lib.hid (show TL.length = 64 by rw [hTL, Lib.byteCells_length]; exact hT64)
          have HTi := Lib.hid (show (Try.prog.info? 30).map (·.size) = some TL.toArray.size by rw [List.size_toArray, HTl.out]; exact secInfo)
          have HTz := Lib.hid (show (Try.prog.info? 30).map (·.size) = some TL.length by rw [HTl.out]; exact secInfo)
          have HT1 := Lib.hid (show TL.toArray.all (·.oneCell') = true by rw [hTL]; exact sec_one _)
          have hTr : ∀ {w' : World}, Arr w' gl 30 (secC L') → w'.rangeAt gl (a * 64) TL := fun h => by rw [hTL, ← hT]; exact h.secAt hD1.l64 (by rw [hD1.lL]; exact han)
          obtain ⟨wd, hwd⟩ : ∃ x, x = w1.drew := ⟨_, rfl⟩
          have hDd : DkW wd F k gs gl bm (.slice Aw j cw) base nm n (midF D left0 S L') L' W D fu left := by rw [hwd]; exact hD1.drew
          have hOd : Only F w wd := by rw [hwd]; exact hO1.drewN 1
          have hrgd : wd.ranges Try.prog 3 R0 bm r nm D (fun x => left0 x && !x.sameKey (.int .i64 (a : Nat))) cnt1 := by rw [hwd]; exact hrg1
          have hoff : a * 64 + 64 ≤ (secC (midF D left0 S L')).length := by rw [secC_length hDd.s64, hDd.lS]; omega
          have hth : wd.there gs (a * 64) TL.toArray.size := by rw [List.size_toArray, HTl.out]; exact there_of_arr hDd.hs hoff
          obtain ⟨wt, hwt⟩ : ∃ x, x = wd.setCells gs (a * 64) TL := ⟨_, rfl⟩
          have hAt : Arr wt gs 30 (secC ((midF D left0 S L').set a T)) := by
            rw [hwt, ← secC_set hDd.s64 (by rw [hDd.lS]; exact han) T hT64, ← hTL]
            exact Arr.setIn TL (a * 64) _ wd hDd.hs (by rw [HTl.out]; exact hoff)
          have hOs : Only (fun b => b = gs) wd wt := by rw [hwt]; exact Only.setIn (R := fun b => b = gs) rfl TL (a * 64) wd (Only.refl _ _)
          have hszt : wt.heap.size = wd.heap.size := by rw [hwt]; exact setCells_size _ _ _ _
          have hDt : DkW wt F k gs gl bm (.slice Aw j cw) base nm n ((midF D left0 S L').set a T) L' W D fu left := hDd.see hT64 hszt hAt hOs
          have hOt : Only F w wt := hOd.then hOs (fun i hi => .inl (hi ▸ hDd.Fs))
          have hgt : wd.grownBy wt (some gs) := ⟨hOs.os, hOs.tape, hOs.output, hOs.size, fun i hi hn => hOs.block i hi (fun e => hn (by rw [e]))⟩
          have hrgt := hrgd.kept hgt (fun e => hDd.sm (by injection e with e; exact e.symm)) (fun e => hrF gs hDd.Fs (by injection e with e; exact e.symm))
          rw [hT] at Hstep
          have haI : (a : Int) < (n : Int) := by omega
          have hc1 := hD1.drew
          clear hTL hkey hhas hxW hxa hlk hRc hatk hT hAt hOs hgt hszt hO1 hOd hrgd hrg1
          go_wp2_with fail
          refine wp_region_held_drew (S := fun w' => w'.cell? ⟨k, 0, none⟩ = some (.slice (some ⟨gs, 0, none⟩) n n) ∧ w'.cell? ⟨k, 1, none⟩ = some (.slice (some ⟨gl, 0, none⟩) n n) ∧ w'.rangeAt gl (a * 64) TL) (by kernel_rfl) ⟨hc1.c0, hc1.c1, hTr hc1.hl⟩ (fun hHeld => ?_)
          rw [← hwd]
          try rw [← hwd] at hHeld
          clear hwd hc1
          refine anyH_take (i := 0) (v := .pointer (some ⟨k, 0, none⟩)) (some 48) rfl rfl (by kernel_rfl) (by kernel_rfl) (by kernel_rfl) (fun _ _ _ h => h) (Or.inl ⟨by rfl, fun _ hw => by rfl⟩) (by assumption) ?_
          simp only [Act.put, List.setIfInBounds_toArray, List.set_cons_zero, List.set_cons_succ]
          refine anyH_take (i := 1) (v := .pointer (some ⟨k, 0, none⟩)) (some 49) rfl rfl (by kernel_rfl) (by kernel_rfl) (by kernel_rfl) (fun _ _ _ h => h) (Or.inl ⟨by rfl, fun _ hw => by go_simp⟩) (by assumption) ?_
          simp only [Act.put, List.setIfInBounds_toArray, List.set_cons_zero, List.set_cons_succ]
          refine anyH_take (i := 2) (v := .pointer (some ⟨k, 0, none⟩)) (some 50) rfl rfl (by kernel_rfl) (by kernel_rfl) (by kernel_rfl) (fun _ _ _ h => h) (Or.inl ⟨by rfl, fun _ hw => by go_simp⟩) (by assumption) ?_
          simp only [Act.put, List.setIfInBounds_toArray, List.set_cons_zero, List.set_cons_succ]
          refine anyH_take (i := 3) (v := .slice (some ⟨gs, 0, none⟩) n n) (some 51) rfl rfl (by kernel_rfl) (by kernel_rfl) (by kernel_rfl) (fun _ _ _ h => h) (Or.inl ⟨by rfl, fun _ hw => by (have hw2 := hw.1; go_simp)⟩) (by assumption) ?_
          simp only [Act.put, List.setIfInBounds_toArray, List.set_cons_zero, List.set_cons_succ]
          refine anyH_take (i := 4) (v := .int .i64 (a : Nat)) (some 52) rfl rfl (by kernel_rfl) (by kernel_rfl) (by kernel_rfl) (fun _ _ _ h => h) (Or.inl ⟨by rfl, fun _ hw => by rfl⟩) (by assumption) ?_
          simp only [Act.put, List.setIfInBounds_toArray, List.set_cons_zero, List.set_cons_succ]
          refine anyH_take (i := 5) (v := .pointer (some ⟨k, 0, none⟩)) (some 53) rfl rfl (by kernel_rfl) (by kernel_rfl) (by kernel_rfl) (fun _ _ _ h => h) (Or.inl ⟨by rfl, fun _ hw => by rfl⟩) (by assumption) ?_
          simp only [Act.put, List.setIfInBounds_toArray, List.set_cons_zero, List.set_cons_succ]
          refine anyH_take (i := 6) (v := .pointer (some ⟨k, 0, none⟩)) (some 54) rfl rfl (by kernel_rfl) (by kernel_rfl) (by kernel_rfl) (fun _ _ _ h => h) (Or.inl ⟨by rfl, fun _ hw => by go_simp⟩) (by assumption) ?_
          simp only [Act.put, List.setIfInBounds_toArray, List.set_cons_zero, List.set_cons_succ]
          refine anyH_take (i := 7) (v := .pointer (some ⟨k, 1, none⟩)) (some 55) rfl rfl (by kernel_rfl) (by kernel_rfl) (by kernel_rfl) (fun _ _ _ h => h) (Or.inl ⟨by rfl, fun _ hw => by go_simp⟩) (by assumption) ?_
          simp only [Act.put, List.setIfInBounds_toArray, List.set_cons_zero, List.set_cons_succ]
          refine anyH_take (i := 8) (v := .slice (some ⟨gl, 0, none⟩) n n) (some 56) rfl rfl (by kernel_rfl) (by kernel_rfl) (by kernel_rfl) (fun _ _ _ h => h) (Or.inl ⟨by rfl, fun _ hw => by (have hw2 := hw.2.1; go_simp)⟩) (by assumption) ?_
          simp only [Act.put, List.setIfInBounds_toArray, List.set_cons_zero, List.set_cons_succ]
          refine anyH_take (i := 9) (v := .int .i64 (a : Nat)) (some 57) rfl rfl (by kernel_rfl) (by kernel_rfl) (by kernel_rfl) (fun _ _ _ h => h) (Or.inl ⟨by rfl, fun _ hw => by rfl⟩) (by assumption) ?_
          simp only [Act.put, List.setIfInBounds_toArray, List.set_cons_zero, List.set_cons_succ]
          refine anyH_take (i := 10) (v := .pointer (some ⟨gl, a * 64, none⟩)) (some 58) rfl rfl (by kernel_rfl) (by kernel_rfl) (by kernel_rfl) (fun _ _ _ h => h) (Or.inl ⟨by rfl, fun _ hw => by go_simp⟩) (by assumption) ?_
          simp only [Act.put, List.setIfInBounds_toArray, List.set_cons_zero, List.set_cons_succ]
          refine anyH_take (i := 11) (some 59) rfl rfl (by kernel_rfl) (by kernel_rfl) (by kernel_rfl) (fun _ _ _ h => h) (yieldsIf_load_mid (by rfl) 30 (.tmp 58) rfl gl (a * 64) rfl TL _ (fun _ h => h.2.2) Try.underlying30 rfl HTz.out) (by assumption) ?_
          simp only [Act.put, List.setIfInBounds_toArray, List.set_cons_zero, List.set_cons_succ]
          refine anyH_take (i := 12) (v := .pointer (some ⟨gs, a * 64, none⟩)) (some 60) rfl rfl (by kernel_rfl) (by kernel_rfl) (by kernel_rfl) (fun _ _ _ h => h) (Or.inl ⟨by rfl, fun _ hw => by go_simp⟩) (by assumption) ?_
          simp only [Act.put, List.setIfInBounds_toArray, List.set_cons_zero, List.set_cons_succ]
          refine wpAnyH_ready (rs := [13]) (by kernel_rfl) (by simp) ?_
          refine AllReadyH.cons rfl (fun KC hKC => ?_) AllReadyH.nil
          rw [if_pos (by rfl)]
          refine wp_store_to rfl 30 _ _ rfl gs (a * 64) TL.toArray rfl rfl hth HTi.out HT1.out ?_
          try rw [show TL.toArray.toList = TL from rfl]
          refine hKC.out _ _ ⟨(hwt ▸ hDt).c0, (hwt ▸ hDt).c1, hTr (hwt ▸ hDt).hl⟩ (fun hHeld61 => ?_)
          clear hKC KC
          try simp only [Act.put, List.setIfInBounds_toArray, List.set_cons_zero, List.set_cons_succ]
          try rw [← hwt]
          refine wpAnyH_done (by kernel_rfl) ?_ _
          clear hHeld
          go_wp2_with fail
          go_roundw
          case rel => exact ⟨_, _, hrgt, by rw [Hstep.out]; exact hDt, hOt⟩
          case measure => rw [hrgt.left_eq, hrg.left_eq]; omega


set_option maxHeartbeats 4000000 in
theorem crash_keep (picks : List UInt8) (A : Option Addr) (lp cp gp i B : Nat) (w : World) (hc : w.cell? ⟨gp, 0, none⟩ = some (.slice A lp cp)) (hb : Bs w B A picks) (hl : picks.length = lp) (hm : lp ≤ 9223372036854775807) (hi : i ≤ 1000000) :
    Calls Try.prog 43 #[.int .i64 (i : Nat), .pointer (some ⟨gp, 0, none⟩)] w fun e w' => e = .returned (.int .i64 (keptF picks i : Nat)) ∧ Below w.heap.size w w' := by
  have Hl := Lib.hid hl
  clear hl
  go_enter Try.func43, Try.ntmps43
  go_wp2_with fail
  by_cases h0 : lp = 0
  · subst h0
    refine Calls.mono (kept_none A cp i w) ?_
    rintro e w1 ⟨rfl, hb1⟩
    have hz := Lib.hid (show keptF picks i = 0 by unfold keptF pickF; rw [if_pos Hl.out]; rfl)
    go_wp2_with fail
    go_ret
    exact ⟨by rw [hz.out]; rfl, hb1⟩
  · refine Calls.mono (kept_some picks A lp cp i w B hb Hl.out (by omega) hm hi) ?_
    rintro e w1 ⟨rfl, hb1⟩
    go_wp2_with fail
    go_ret
    exact ⟨rfl, hb1⟩

set_option maxHeartbeats 16000000 in
set_option maxRecDepth 100000 in
theorem settle_crash (F : Nat → Prop) (k n : Nat) (S L : List (List UInt8)) (W : List WrF) (fu : Bool) (left : Int) (w : World) (h : Disk w F k n S L W fu left) (picks : List UInt8) (Ap : Option Addr) (lp cp gp : Nat) (hgp : gp < w.heap.size) (hgF : ¬ F gp) (hA : 0 < picks.length → ∀ p : Addr, Ap = some p → ¬ F p.block) (hcp : w.cell? ⟨gp, 0, none⟩ = some (.slice Ap lp cp)) (hbs : Bs w w.heap.size Ap picks) (hpl : picks.length = lp) (hpm : lp ≤ 9223372036854775807) :
    Calls Try.prog 40 #[.pointer (some ⟨k, 0, none⟩), .func (.func 43) #[] #[.pointer (some ⟨gp, 0, none⟩)]] w (SettlePost F k n (seenF W S (lstF (keptF picks) W L W.length)) (lstF (keptF picks) W L W.length) fu left w) := by
  obtain ⟨gs, gl, bm, vw, base, nm, D, hD, hK, hnm, hgone⟩ := h
  have hn2 := hD.n2
  have hkw := hD.Flt k hD.Fk
  obtain ⟨KF, hKF⟩ : ∃ KF : Nat → Nat, KF = (keptF picks) := ⟨_, rfl⟩
  have hK64 : ∀ j, KF j ≤ 64 := fun j => by rw [hKF]; exact keptF_le picks j
  rw [← hKF]
  have HKF := Lib.hid hKF
  clear hKF
  obtain ⟨Aw, cw, hvw⟩ := hD.vw_form
  obtain ⟨m, hm⟩ : ∃ m, W.length = m := ⟨_, rfl⟩
  rw [hm] at hvw ⊢
  subst hvw
  have Hm := Lib.hid hm
  have hmN : m ≤ 100000 := by rw [← hm]; exact hD.wN
  have hwI := hD.wIn
  rw [← hD.lL] at hwI
  have h64 := fun j hj => lstF_64 (KF := KF) (W := W) (L := L) hK64 hD.l64 hwI j hj
  rw [hm] at h64
  have H64 := Lib.hid h64
  have HwI := Lib.hid hwI
  have HlL := Lib.hid hD.lL
  have Hgone := Lib.hid hgone
  have hc2 := hD.c2
  have hzv : ∀ w, (zeroValue 84).run Try.prog w = .ok (.agg wrZ.toArray) w := fun w => by kernel_rfl
  clear hm h64 hwI hgone
  go_enter Try.func40, Try.ntmps40
  go_wp2_with fail
  go_loopw [4, 14] (fun c s wr => ∃ j : Nat, c = .int .i64 j ∧ s = .int .i64 j ∧ j ≤ m ∧ DkW wr F k gs gl bm (.slice Aw m cw) base nm n S (lstF KF W L j) W D fu left ∧ Only F w wr) (fun _ s _ => m - (intOf s).toNat)
  case atStart => exact ⟨0, rfl, rfl, Nat.zero_le _, hD, Only.refl _ _⟩
  case round =>
    obtain ⟨j, rfl, rfl, hjm, hDr, hOr⟩ := hrel
    clear hc2
    obtain ⟨wq, hwq⟩ : ∃ x, x = wr := ⟨_, rfl⟩
    subst hwq
    by_cases hlt : j < m
    · have hjW : j < W.length := by rw [Hm.out]; exact hlt
      obtain ⟨gw, c', e, hgw, hwr⟩ := hDr.wr_at hjW
      injection e with e1 e2 e3
      subst e1
      have hx := hDr.wIn _ (wrAt_mem hjW)
      have hgn := Hgone.out _ (wrAt_mem hjW)
      have hst : lstF KF W L (j + 1) = (lstF KF W L j).set (wrAt W j).1 (cutW (KF j) (wrAt W j).2.1 ((lstF KF W L j).getD (wrAt W j).1 [])) := rfl
      obtain ⟨x, hxe⟩ : ∃ x, wrAt W j = x := ⟨_, rfl⟩
      rw [hxe] at hwr hx hgn hst
      obtain ⟨Lj, hLj⟩ : ∃ l, lstF KF W L j = l := ⟨_, rfl⟩
      rw [hLj] at hDr hst
      obtain ⟨XL, hXL⟩ : ∃ l, l = wrOne x := ⟨_, rfl⟩
      have HXl := Lib.hid (show XL.length = 66 by rw [hXL]; exact wrOne_length hx.2)
      have HXi := Lib.hid (show (Try.prog.info? 84).map (·.size) = some XL.toArray.size by rw [List.size_toArray, HXl.out]; exact wrSize)
      have HXz := Lib.hid (show (Try.prog.info? 84).map (·.size) = some XL.length by rw [HXl.out]; exact wrSize)
      have HX1 := Lib.hid (show XL.toArray.all (·.oneCell') = true by rw [hXL]; exact all_oneCell_toArray (wrOne_cell x))
      have HXs := Lib.hid (show wrZ.toArray.size = XL.toArray.size by rw [List.size_toArray, List.size_toArray, HXl.out]; rfl)
      rw [← hXL] at hwr
      have h0 := wrOne_0 x
      have h65 := wrOne_65 hx.2
      rw [hgn] at h65
      rw [← hXL] at h0 h65
      have HXL := Lib.hid hXL
      have HLj := Lib.hid hLj
      have Hst := Lib.hid hst
      have Hx64 := Lib.hid hx.2
      obtain ⟨at_, hat⟩ : ∃ q, x.1 = q := ⟨_, rfl⟩
      rw [hat] at h0
      have hatn : at_ < n := by rw [← hat]; exact hx.1
      have Hat := Lib.hid hat
      have hjI : (j : Int) < (m : Int) := by omega
      clear hXL hLj hst hxe hx hgn hat e2 e3
      go_wp2_with (first | (refine wpList_load_mid rfl _ _ rfl gw (j * 66) rfl XL _ hwr Try.underlying84 rfl HXz.out ?_) | (change wpList _ _ _ _ _ (wq.alloc (.cells wrZ.toArray 84)); refine wpList_store_row rfl _ _ _ rfl wq.heap.size XL.toArray rfl rfl 84 wrZ.toArray (heap_alloc_new wq _) HXi.out HXs.out HX1.out ?_; obtain ⟨w1, hw1⟩ : ∃ x, x = (wq.alloc (.cells wrZ.toArray 84)).setRow wq.heap.size XL.toArray := ⟨_, rfl⟩; rw [← hw1]; obtain ⟨hX1, hb1⟩ := alloc_row wq 84 wrZ.toArray XL; rw [← hw1] at hX1 hb1; clear hw1; have h65' : w1.cell? ⟨wq.heap.size, 65, none⟩ = some (.bool false) := by rw [hX1.cell]; exact h65))
      have hD1 := hDr.kept hb1.size (fun b hF => hb1.block b (hDr.Flt b hF))
      have hO1 : Only F w w1 := hOr.step hb1
      refine Calls.mono (crash_keep picks Ap lp cp gp j w.heap.size w1 (by rw [World.cell?_of_block (hO1.block gp hgp hgF)]; exact hcp) (bs_only hbs hO1 (Nat.le_refl _) hA) hpl hpm (by omega)) ?_
      rintro e w2 ⟨rfl, hb2⟩
      have hX2 := hX1.up hb2
      have hD2 := hD1.kept hb2.size (fun b hF => hb2.block b (hD1.Flt b hF))
      have hO2 := hO1.step hb2
      have hgx : ¬ F wq.heap.size := fun e => Nat.lt_irrefl _ (hDr.Flt _ e)
      have Hkj := Lib.hid (hK64 j)
      have Hkf := Lib.hid (congrFun HKF.out j)
      clear hDr hOr hb1 hO1 hD1 hX1 hb2 h65' hwr
      obtain ⟨K, hKj⟩ : ∃ K, KF j = K := ⟨_, rfl⟩
      rw [Hkf.out.symm.trans hKj]
      have hKle : K ≤ 64 := by rw [← hKj]; exact Hkj.out
      have HKj := Lib.hid hKj
      clear hKj
      have c1 := hD2.c1
      have cx : w2.cell? ⟨wq.heap.size, 0, none⟩ = some (.int .i64 (at_ : Nat)) := by rw [hX2.cell]; exact h0
      have hatI : (at_ : Int) < (n : Int) := by omega
      have hKI : (K : Int) ≤ 64 := by omega
      go_wp2_with fail
      go_still_tail 12, (by kernel_rfl)
      have hD3 := hD2.drew
      have hX3 := hX2.drewN 1
      have hO3 : Only F w w2.drew := hO2.drewN 1
      change wpList _ _ _ _ _ w2.drew
      obtain ⟨w3, hw3⟩ : ∃ x, x = w2.drew := ⟨_, rfl⟩
      rw [← hw3] at hD3 hO3 ⊢
      have hX3' : Arr w3 wq.heap.size 84 XL := by rw [hw3]; exact hX3
      have hsrc : ∀ i v, (Lib.byteCells (x.2.1.take K))[i]? = some v → w3.cell? ((⟨wq.heap.size, 1, none⟩ : Addr).add i) = some v := fun i v hv => by
        have hadd : (⟨wq.heap.size, 1, none⟩ : Addr).add i = ⟨wq.heap.size, 1 + i, none⟩ := by unfold Addr.add; split <;> simp_all
        rw [hadd, hX3'.cell, HXL.out]
        refine wrOne_mid ?_
        have hi := (List.getElem?_eq_some_iff.1 hv).1
        rw [Lib.byteCells_length, List.length_take] at hi
        have : Lib.byteCells (x.2.1.take K) = (Lib.byteCells x.2.1).take K := by unfold Lib.byteCells; rw [List.map_take]
        rw [this, List.getElem?_take_of_lt (by omega)] at hv
        exact hv
      have hcl : (Lib.byteCells (x.2.1.take K)).length = K := by rw [Lib.byteCells_length, List.length_take, Hx64.out]; omega
      have hfit : at_ * 64 + (Lib.byteCells (x.2.1.take K)).length ≤ (secC Lj).length := by rw [hcl, secC_length hD3.l64, hD3.lL]; omega
      have hspl := splice_sec hD3.l64 (i := at_) (by rw [hD3.lL]; exact hatn) x.2.1 Hx64.out K hKle
      have hst := Hst.out
      rw [Hat.out, HKj.out] at hst
      rw [← hst] at hspl
      clear c1 cx hX2 hD2 hO2 hX3 hw3 hX3'
      go_wp2_with (refine wpList_copy_any rfl _ _ 23 23 rfl 5 Try.underlying23 byteSize _ _ _ _ _ _ rfl rfl gl (at_ * 64) (secC Lj) 30 hD3.hl (Lib.byteCells (x.2.1.take K)) (by rw [hcl]; simp) (fun _ => ⟨rfl, _, rfl, hsrc⟩) hfit (byteCells_one _) ?_; intro w4 hcur hw4)
      have hg4 := hw4.1
      have hs4 := hw4.2
      rw [hspl] at hcur
      have hne : ∀ {b : Nat}, b ≠ gl → some b ≠ some gl := fun h e => h (by injection e)
      have hD4 : DkW w4 F k gs gl bm (.slice (some ⟨gw, 0, none⟩) m cw) base nm n S (lstF KF W L (j + 1)) W D fu left := hD3.turn (by omega) (fun b hF _ _ h3 => hg4.block b (hD3.Flt b hF) (hne h3)) ((hg4.block k (hD3.Flt k hD3.Fk) (hne hD3.kl)).trans hD3.hk) ((hg4.block gs (hD3.Flt gs hD3.Fs) (hne hD3.sl)).trans hD3.hs) hcur.out hD3.lS (by rw [lstF_length]; exact HlL.out) hD3.s64 (H64.out (j + 1) (by omega)) hD3.f0 hD3.f1
      have hO4 : Only F w w4 := hO3.then (World.grownBy.only hg4 (R := F) (fun g hg => by injection hg with hg; exact hg ▸ hD3.Fl)) (fun i hi => .inl hi)
      clear hD3 hO3 hcur hw4 hg4 hs4 hspl hst hsrc
      go_roundw
      case rel => exact ⟨j + 1, by go_num, by go_num, by omega, hD4, hO4⟩
      case measure => simp [intOf]; omega
    · obtain rfl : j = m := by omega
      have hlt2 : ¬ (j : Int) < (j : Int) := by omega
      have hcm3 := hDr.c3
      have hown : wq.ownsMap Try.prog 3 (rowElem (H := Unit) wq base 3 .i64) bm nm D := by
        obtain ⟨es, clock, he, Ft, hsz, hDe, _⟩ := hDr.hm
        exact ⟨es, clock, he, Ft, hsz, hDe⟩
      obtain ⟨R0, hR0⟩ : ∃ R, R = rowElem (H := Unit) wq base 3 .i64 := ⟨_, rfl⟩
      rw [← hR0] at hown
      clear hR0
      obtain ⟨L', hL'⟩ : ∃ l, lstF KF W L j = l := ⟨_, rfl⟩
      rw [hL'] at hDr ⊢
      have HKs := Lib.hid hK
      have HLe := Lib.hid hL'
      have hIs := hown.isMap
      have hkeys := hK.1
      clear hL' hK
      go_wp2_with (at_range; refine wpList_range_own _ rfl _ 79 rfl 3 82 sec_int_keyed Try.underlying79 R0 bm nm D rfl hown ?_; intro w0 hrg0 hg0 hs0)
      have hD0 := hDr.kept hg0.size (fun b hF => hg0.block b (hDr.Flt b hF) (by simp))
      have hO0 : Only F w w0 := hOr.then (World.grownBy.only hg0 (R := F) (fun g hg => by cases hg)) (fun i hi => .inl hi)
      obtain ⟨r, hr⟩ : ∃ r, r = wq.heap.size := ⟨_, rfl⟩
      rw [← hr] at hrg0 ⊢
      have hrw : w.heap.size ≤ r := by rw [hr]; exact hOr.size
      have hrF : ∀ b, F b → b ≠ r := fun b hF e => by have := hDr.Flt b hF; omega
      have hS0 := midF_start D S L'
      rw [← hS0] at hD0
      clear hr hDr hown hOr hcm3 hS0 hg0 hs0
      try go_frame
      go_loopw [8] (fun _ wr => ∃ left0 cnt, wr.ranges Try.prog 3 R0 bm r nm D left0 cnt ∧ DkW wr F k gs gl bm (.slice Aw j cw) base nm n (midF D left0 S L') L' W D fu left ∧ Only F w wr) (fun _ wr => wr.rangeLeft bm r)
      case atStart => exact ⟨_, _, hrg0, hD0, hO0⟩
      case round =>
        clear hrg0 hD0 hO0
        obtain ⟨left0, cnt, hrg, hDl, hOl⟩ := hrel
        go_wp2_with (at_next; refine wpList_next_ranges _ rfl _ rfl 3 sec_int_keyed R0 (Value.int .i64) id (fun key kl h => by obtain ⟨x, e, _⟩ := Go.Maps.keyOf_int_inv Try.underlying3 h; exact ⟨x, e⟩) (fun v y _ => ⟨v, rfl⟩) bm r nm D left0 cnt rfl hrg ?_ ?_)
        · intro hcnt hno
          have hend := midF_end (S := S) (L := L') hno HKs.out
          rw [hend] at hDl
          clear hrg hno hkeys hcnt
          go_wp2_with fail
          refine Calls.mono (forget_any k _ _ _ _ _ _ wr hDl.hk) ?_
          rintro e w9 ⟨rfl, hk9, hm9, hO9, hz9⟩
          go_wp2_with fail
          go_end0
          have hLe := HLe.out
          subst hLe
          exact settle_post hDl hOl hD.Flt hk9 hm9 hO9 hz9
        · intro z c kl y1 y2 w1 cnt1 hkey hlk hRc hatk hrg1 hlt1 hg1 hs1 hen
          obtain ⟨z', ez, rfl, hwf⟩ := Go.Maps.keyOf_int_inv Try.underlying3 hkey
          injection ez with _ ez
          subst ez
          have hhas := Go.Maps.has_true_of_atKey hatk
          obtain ⟨a, ea, x, hxW, hxa⟩ := hkeys _ hhas
          injection ea with _ ea
          subst ea
          have han : a < n := by rw [← hxa, ← HlL.out]; exact (HwI.out x hxW).1
          have hlS : S.length = n := hD.lS
          have Hstep := Lib.hid (midF_step (left := left0) (S := S) (L := L') (sec_int_keyed.key hkey) hhas (by rw [hlS]; exact han))
          have hD1 := hDl.kept hg1.size (fun b hF => hg1.block b (hDl.Flt b hF) (fun e => hrF b hF (by injection e)))
          have hO1 : Only F w w1 := hOl.then (World.grownBy.only hg1 (R := fun b => b = r) (fun g hg => by injection hg with hg; exact hg.symm)) (fun i hi => .inr (by rw [hi]; exact hrw))
          obtain ⟨T, hT⟩ : ∃ t, L'.getD a [] = t := ⟨_, rfl⟩
          have hT64 : T.length = 64 := by rw [← hT]; exact hD1.l64 _ (by simp [List.getD, show a < L'.length by rw [hD1.lL]; exact han])
          obtain ⟨TL, hTL⟩ : ∃ l, l = Lib.byteCells T := ⟨_, rfl⟩
          have HTl := Lib.hid (show TL.length = 64 by rw [hTL, Lib.byteCells_length]; exact hT64)
          have HTi := Lib.hid (show (Try.prog.info? 30).map (·.size) = some TL.toArray.size by rw [List.size_toArray, HTl.out]; exact secInfo)
          have HTz := Lib.hid (show (Try.prog.info? 30).map (·.size) = some TL.length by rw [HTl.out]; exact secInfo)
          have HT1 := Lib.hid (show TL.toArray.all (·.oneCell') = true by rw [hTL]; exact sec_one _)
          have hTr : ∀ {w' : World}, Arr w' gl 30 (secC L') → w'.rangeAt gl (a * 64) TL := fun h => by rw [hTL, ← hT]; exact h.secAt hD1.l64 (by rw [hD1.lL]; exact han)
          obtain ⟨wd, hwd⟩ : ∃ x, x = w1.drew := ⟨_, rfl⟩
          have hDd : DkW wd F k gs gl bm (.slice Aw j cw) base nm n (midF D left0 S L') L' W D fu left := by rw [hwd]; exact hD1.drew
          have hOd : Only F w wd := by rw [hwd]; exact hO1.drewN 1
          have hrgd : wd.ranges Try.prog 3 R0 bm r nm D (fun x => left0 x && !x.sameKey (.int .i64 (a : Nat))) cnt1 := by rw [hwd]; exact hrg1
          have hoff : a * 64 + 64 ≤ (secC (midF D left0 S L')).length := by rw [secC_length hDd.s64, hDd.lS]; omega
          have hth : wd.there gs (a * 64) TL.toArray.size := by rw [List.size_toArray, HTl.out]; exact there_of_arr hDd.hs hoff
          obtain ⟨wt, hwt⟩ : ∃ x, x = wd.setCells gs (a * 64) TL := ⟨_, rfl⟩
          have hAt : Arr wt gs 30 (secC ((midF D left0 S L').set a T)) := by
            rw [hwt, ← secC_set hDd.s64 (by rw [hDd.lS]; exact han) T hT64, ← hTL]
            exact Arr.setIn TL (a * 64) _ wd hDd.hs (by rw [HTl.out]; exact hoff)
          have hOs : Only (fun b => b = gs) wd wt := by rw [hwt]; exact Only.setIn (R := fun b => b = gs) rfl TL (a * 64) wd (Only.refl _ _)
          have hszt : wt.heap.size = wd.heap.size := by rw [hwt]; exact setCells_size _ _ _ _
          have hDt : DkW wt F k gs gl bm (.slice Aw j cw) base nm n ((midF D left0 S L').set a T) L' W D fu left := hDd.see hT64 hszt hAt hOs
          have hOt : Only F w wt := hOd.then hOs (fun i hi => .inl (hi ▸ hDd.Fs))
          have hgt : wd.grownBy wt (some gs) := ⟨hOs.os, hOs.tape, hOs.output, hOs.size, fun i hi hn => hOs.block i hi (fun e => hn (by rw [e]))⟩
          have hrgt := hrgd.kept hgt (fun e => hDd.sm (by injection e with e; exact e.symm)) (fun e => hrF gs hDd.Fs (by injection e with e; exact e.symm))
          rw [hT] at Hstep
          have haI : (a : Int) < (n : Int) := by omega
          have hc1 := hD1.drew
          clear hTL hkey hhas hxW hxa hlk hRc hatk hT hAt hOs hgt hszt hO1 hOd hrgd hrg1
          go_wp2_with fail
          refine wp_region_held_drew (S := fun w' => w'.cell? ⟨k, 0, none⟩ = some (.slice (some ⟨gs, 0, none⟩) n n) ∧ w'.cell? ⟨k, 1, none⟩ = some (.slice (some ⟨gl, 0, none⟩) n n) ∧ w'.rangeAt gl (a * 64) TL) (by kernel_rfl) ⟨hc1.c0, hc1.c1, hTr hc1.hl⟩ (fun hHeld => ?_)
          rw [← hwd]
          try rw [← hwd] at hHeld
          clear hwd hc1
          refine anyH_take (i := 0) (v := .pointer (some ⟨k, 0, none⟩)) (some 48) rfl rfl (by kernel_rfl) (by kernel_rfl) (by kernel_rfl) (fun _ _ _ h => h) (Or.inl ⟨by rfl, fun _ hw => by rfl⟩) (by assumption) ?_
          simp only [Act.put, List.setIfInBounds_toArray, List.set_cons_zero, List.set_cons_succ]
          refine anyH_take (i := 1) (v := .pointer (some ⟨k, 0, none⟩)) (some 49) rfl rfl (by kernel_rfl) (by kernel_rfl) (by kernel_rfl) (fun _ _ _ h => h) (Or.inl ⟨by rfl, fun _ hw => by go_simp⟩) (by assumption) ?_
          simp only [Act.put, List.setIfInBounds_toArray, List.set_cons_zero, List.set_cons_succ]
          refine anyH_take (i := 2) (v := .pointer (some ⟨k, 0, none⟩)) (some 50) rfl rfl (by kernel_rfl) (by kernel_rfl) (by kernel_rfl) (fun _ _ _ h => h) (Or.inl ⟨by rfl, fun _ hw => by go_simp⟩) (by assumption) ?_
          simp only [Act.put, List.setIfInBounds_toArray, List.set_cons_zero, List.set_cons_succ]
          refine anyH_take (i := 3) (v := .slice (some ⟨gs, 0, none⟩) n n) (some 51) rfl rfl (by kernel_rfl) (by kernel_rfl) (by kernel_rfl) (fun _ _ _ h => h) (Or.inl ⟨by rfl, fun _ hw => by (have hw2 := hw.1; go_simp)⟩) (by assumption) ?_
          simp only [Act.put, List.setIfInBounds_toArray, List.set_cons_zero, List.set_cons_succ]
          refine anyH_take (i := 4) (v := .int .i64 (a : Nat)) (some 52) rfl rfl (by kernel_rfl) (by kernel_rfl) (by kernel_rfl) (fun _ _ _ h => h) (Or.inl ⟨by rfl, fun _ hw => by rfl⟩) (by assumption) ?_
          simp only [Act.put, List.setIfInBounds_toArray, List.set_cons_zero, List.set_cons_succ]
          refine anyH_take (i := 5) (v := .pointer (some ⟨k, 0, none⟩)) (some 53) rfl rfl (by kernel_rfl) (by kernel_rfl) (by kernel_rfl) (fun _ _ _ h => h) (Or.inl ⟨by rfl, fun _ hw => by rfl⟩) (by assumption) ?_
          simp only [Act.put, List.setIfInBounds_toArray, List.set_cons_zero, List.set_cons_succ]
          refine anyH_take (i := 6) (v := .pointer (some ⟨k, 0, none⟩)) (some 54) rfl rfl (by kernel_rfl) (by kernel_rfl) (by kernel_rfl) (fun _ _ _ h => h) (Or.inl ⟨by rfl, fun _ hw => by go_simp⟩) (by assumption) ?_
          simp only [Act.put, List.setIfInBounds_toArray, List.set_cons_zero, List.set_cons_succ]
          refine anyH_take (i := 7) (v := .pointer (some ⟨k, 1, none⟩)) (some 55) rfl rfl (by kernel_rfl) (by kernel_rfl) (by kernel_rfl) (fun _ _ _ h => h) (Or.inl ⟨by rfl, fun _ hw => by go_simp⟩) (by assumption) ?_
          simp only [Act.put, List.setIfInBounds_toArray, List.set_cons_zero, List.set_cons_succ]
          refine anyH_take (i := 8) (v := .slice (some ⟨gl, 0, none⟩) n n) (some 56) rfl rfl (by kernel_rfl) (by kernel_rfl) (by kernel_rfl) (fun _ _ _ h => h) (Or.inl ⟨by rfl, fun _ hw => by (have hw2 := hw.2.1; go_simp)⟩) (by assumption) ?_
          simp only [Act.put, List.setIfInBounds_toArray, List.set_cons_zero, List.set_cons_succ]
          refine anyH_take (i := 9) (v := .int .i64 (a : Nat)) (some 57) rfl rfl (by kernel_rfl) (by kernel_rfl) (by kernel_rfl) (fun _ _ _ h => h) (Or.inl ⟨by rfl, fun _ hw => by rfl⟩) (by assumption) ?_
          simp only [Act.put, List.setIfInBounds_toArray, List.set_cons_zero, List.set_cons_succ]
          refine anyH_take (i := 10) (v := .pointer (some ⟨gl, a * 64, none⟩)) (some 58) rfl rfl (by kernel_rfl) (by kernel_rfl) (by kernel_rfl) (fun _ _ _ h => h) (Or.inl ⟨by rfl, fun _ hw => by go_simp⟩) (by assumption) ?_
          simp only [Act.put, List.setIfInBounds_toArray, List.set_cons_zero, List.set_cons_succ]
          refine anyH_take (i := 11) (some 59) rfl rfl (by kernel_rfl) (by kernel_rfl) (by kernel_rfl) (fun _ _ _ h => h) (yieldsIf_load_mid (by rfl) 30 (.tmp 58) rfl gl (a * 64) rfl TL _ (fun _ h => h.2.2) Try.underlying30 rfl HTz.out) (by assumption) ?_
          simp only [Act.put, List.setIfInBounds_toArray, List.set_cons_zero, List.set_cons_succ]
          refine anyH_take (i := 12) (v := .pointer (some ⟨gs, a * 64, none⟩)) (some 60) rfl rfl (by kernel_rfl) (by kernel_rfl) (by kernel_rfl) (fun _ _ _ h => h) (Or.inl ⟨by rfl, fun _ hw => by go_simp⟩) (by assumption) ?_
          simp only [Act.put, List.setIfInBounds_toArray, List.set_cons_zero, List.set_cons_succ]
          refine wpAnyH_ready (rs := [13]) (by kernel_rfl) (by simp) ?_
          refine AllReadyH.cons rfl (fun KC hKC => ?_) AllReadyH.nil
          rw [if_pos (by rfl)]
          refine wp_store_to rfl 30 _ _ rfl gs (a * 64) TL.toArray rfl rfl hth HTi.out HT1.out ?_
          try rw [show TL.toArray.toList = TL from rfl]
          refine hKC.out _ _ ⟨(hwt ▸ hDt).c0, (hwt ▸ hDt).c1, hTr (hwt ▸ hDt).hl⟩ (fun hHeld61 => ?_)
          clear hKC KC
          try simp only [Act.put, List.setIfInBounds_toArray, List.set_cons_zero, List.set_cons_succ]
          try rw [← hwt]
          refine wpAnyH_done (by kernel_rfl) ?_ _
          clear hHeld
          go_wp2_with fail
          go_roundw
          case rel => exact ⟨_, _, hrgt, by rw [Hstep.out]; exact hDt, hOt⟩
          case measure => rw [hrgt.left_eq, hrg.left_eq]; omega


end Go.Proofs.Ytkpgbgiamekhaac

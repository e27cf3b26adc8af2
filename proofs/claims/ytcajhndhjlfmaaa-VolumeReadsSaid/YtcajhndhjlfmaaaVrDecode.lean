/-
  The volumes of bytes: the code's Decode.
-/
import Derived.Test.YtcajhndhjlfmaaaVrTake
import Derived.Test.YtcajhndhjlfmaaaGen
import Derived.Test.YtcajhndhjlfmaaaVrF
import Derived.Laws.Cover1
namespace Go.Proofs.Ytcajhndhjlfmaaa
open Go.RowKit
set_option linter.unusedVariables false
set_option linter.unusedSimpArgs false

set_option maxRecDepth 100000
/-- A volume more: its blocks are new, the set's map turns. -/
theorem SetQ.addT {w w1 w2 : World} {F : Nat → Prop} {s mb : Nat} {M : List Vm} (h : SetQ w F s mb M) {x : Vm} (hx : VmOk w1 x) (hsz1 : w.heap.size ≤ w1.heap.size) (hb : ∀ b, F b → w1.heap[b]? = w.heap[b]?) (h1 : w.heap.size ≤ x.vb) (h2 : w.heap.size ≤ x.bb) (hn : hasM M x.v.name = false)
    {n : Nat} (hm : w2.ownsMap Try.prog 9 ptrR mb n ((ptrD M).put (.string x.v.name.data.toList) (.lit (.int .i64 (x.vb : Nat))))) (hg : w1.grownBy w2 (some mb)) : SetQ w2 (newF F w w2) s mb (insM x M) := by
  have hmlt := h.Flt mb h.Fm
  have hkeep : ∀ b, F b → b ≠ mb → w2.heap[b]? = w.heap[b]? := fun b hF hne => by
    have := h.Flt b hF
    rw [hg.block b (by omega) fun e => hne (by injection e with e), hb b hF]
  have hsz : w.heap.size ≤ w2.heap.size := Nat.le_trans hsz1 hg.size
  have hxv : x.vb < w1.heap.size := hx.hv.lt
  have hxb : x.bb < w1.heap.size := World.ownsMap.lt hx.hc
  have hmap : ∀ {b : Nat} {T : TypeId} {c : List Value}, Arr w b T c → b ≠ mb := fun {b T c} ha e => by
    obtain ⟨es, clock, hb, _⟩ := h.hm
    rw [e] at ha
    have := ha.symm.trans hb
    cases this
  rw [ptrD_put hn] at hm
  have hm' := World.ownsMap.tight hm
  rw [ptrD_size] at hm'
  have hlt : ∀ m ∈ M, m.vb < w.heap.size ∧ m.bb < w.heap.size := fun m hm => ⟨h.Flt _ (h.Fv m hm).1, h.Flt _ (h.Fv m hm).2⟩
  have hno : ∀ c ∈ M, key c ≠ key x := fun c hc e => by
    unfold hasM at hn
    have := List.any_eq_false.1 hn c hc
    simp only [decide_eq_true_eq] at this
    exact this e
  refine { hs := (hkeep s h.Fs (hmap h.hs)).trans h.hs, hm := hm', vm := ?_, rs := insM_rise h.rs hno, dj := ?_, mne := ?_, Fs := .inl h.Fs, Fm := .inl h.Fm, Fv := ?_, Flt := newF_lt h.Flt hsz }
  · intro c hc
    rcases insM_mem.1 hc with rfl | hc
    · exact hx.kept (hg.block _ hxv fun e => by injection e with e; omega) (hg.block _ hxb fun e => by injection e with e; omega)
    · exact (h.vm c hc).kept (hkeep _ (h.Fv c hc).1 (hmap (h.vm c hc).hv)) (hkeep _ (h.Fv c hc).2 (h.mne c hc))
  · refine insM_pair (fun a b h => ⟨h.1.symm, h.2.symm⟩) h.dj fun c hc => ⟨?_, ?_⟩
    · have := (hlt c hc).1; omega
    · have := (hlt c hc).2; omega
  · intro c hc
    rcases insM_mem.1 hc with rfl | hc
    · omega
    · exact h.mne c hc
  · intro c hc
    rcases insM_mem.1 hc with rfl | hc
    · exact ⟨.inr ⟨h1, by have := hg.size; omega⟩, .inr ⟨h2, by have := hg.size; omega⟩⟩
    · exact ⟨.inl (h.Fv c hc).1, .inl (h.Fv c hc).2⟩

theorem wpList_convertD {P : Program} {ops : Array Oper} {rest : List Oper} {o : Oper} {a : Act} {w : World} {Q : Exit → Act → World → Prop} (hg : o.guard = none) (src dst : TypeId) (x : Operand) (ho : o.op = .convert src dst x) (X v : Value) (hx : a.eval x = X) (hr : (convert src dst X).run P w = .ok v w)
    (h : wpList P ops Q rest (a.put o.dst v) w) : wpList P ops Q (o :: rest) a w := by
  refine wpList_plain hg fun K hK => ?_
  unfold Oper.wp execOp
  simp only [ho, hx, Sem.run_bind, hr, Result.andThen_ok]
  exact hK _ _ h
theorem bytes_fl {lo : Nat} (p : Nat) (s : St) (w : World) (h : PInL lo w p s.1 s.2) :
    Calls Try.prog 31 #[.pointer (some ⟨p, 0, none⟩), .int .i64 20] w fun e w' => ∃ A c, e = .returned (.slice A (nmV s).1.length c) ∧ (nmV s).1.length ≤ c ∧ c ≤ maxLen ∧ Bs w' p A (nmV s).1 ∧ PInL lo w' p (nmV s).2.1 (nmV s).2.2 ∧ Turn p w w' := by
  refine (bytes_inL p 20 s.1 s.2 w h (by omega) (by omega)).mono ?_
  rintro e w1 ⟨A, c, rfl, h1, h2, h3, h4, h5, h6⟩
  exact ⟨A, c, rfl, h1, h2, h3, h4, h5⟩
theorem insV_last : ∀ (acc : List Vol) (x : Vol), (∀ a ∈ acc, bytesBefore (vkey a) (vkey x) = true) → insV x acc = acc ++ [x]
  | [], x, _ => rfl
  | a :: r, x, h => by
    have h1 := h a List.mem_cons_self
    unfold insV
    have h2 : ¬ bytesBefore (vkey x) (vkey a) = true := fun e => by
      rw [bytesBefore_lt] at e h1
      exact absurd (List.lt_trans h1 e) (List.lt_irrefl _)
    rw [if_neg h2, insV_last r x fun y hy => h y (List.mem_cons_of_mem _ hy)]
    rfl
theorem rise_all {acc : List Vol} {v : Vol} (h : RiseV (acc ++ [v])) : ∀ a ∈ acc, bytesBefore (vkey a) (vkey v) = true := fun a ha => by
  unfold RiseV at h
  rw [List.pairwise_append] at h
  exact h.2.2 a ha v (by simp)
theorem nm_lenD (s : St) : (nmV s).1.length ≤ 20 := by
  unfold nmV bytS bytesF
  rw [if_neg (by omega)]
  simp only [Int.reduceToNat]
  unfold cutF
  have h1 := numF_le' 20 s.1
  split
  · simp
  · rw [List.length_take]; omega
theorem bytesLess_beforeD : ∀ (x y : List UInt8), Op.bytesLess x y = bytesBefore x y
  | [], [] => rfl
  | _ :: _, [] => rfl
  | [], _ :: _ => rfl
  | a :: x, b :: y => by simp only [Op.bytesLess, bytesBefore, bytesLess_beforeD x y]

theorem ba_lessD (a b : ByteArray) : Op.bytesLess a.toList b.toList = bytesBefore a.data.toList b.data.toList := by
  rw [bytesLess_beforeD, ba_toList, ba_toList]

theorem before_leq : ∀ (a b : List UInt8), (bytesBefore a b || a == b) = !bytesBefore b a
  | [], [] => rfl
  | [], _ :: _ => rfl
  | _ :: _, [] => rfl
  | x :: a, y :: b => by
    have ih := before_leq a b
    unfold bytesBefore
    rcases Nat.lt_trichotomy x.toNat y.toNat with h | h | h
    · have h1 : x < y := UInt8.lt_iff_toNat_lt.2 h
      have h2 : ¬ y < x := fun e => by have := UInt8.lt_iff_toNat_lt.1 e; omega
      have h3 : ¬ y = x := fun e => by subst e; omega
      simp [h1, h2, h3]
    · have h1 : x = y := UInt8.toNat_inj.1 h
      subst h1
      have h2 : ¬ x < x := fun e => by have := UInt8.lt_iff_toNat_lt.1 e; omega
      simp only [h2, decide_false, beq_self_eq_true, Bool.true_and, Bool.false_or]
      rw [← ih]
      simp
    · have h1 : y < x := UInt8.lt_iff_toNat_lt.2 h
      have h2 : ¬ x < y := fun e => by have := UInt8.lt_iff_toNat_lt.1 e; omega
      have h3 : ¬ x = y := fun e => by subst e; omega
      simp [h1, h2, h3]
def VDecPost (n : Nat) (b : List UInt8) (w : World) (e : Ending) (w' : World) : Prop :=
  Below w.heap.size w w' ∧ ((decV n b = none ∧ e = .returned (.tuple #[.pointer none, .int .i64 3])) ∨
    ∃ L s F, decV n b = some L ∧ e = .returned (.tuple #[.pointer (some ⟨s, 0, none⟩), .int .i64 0]) ∧ SetL w' F s L ∧ ∀ b, F b → w.heap.size ≤ b)

set_option maxHeartbeats 8000000 in
theorem decode_any (A : Option Addr) (n c : Nat) (b : List UInt8) (hn : b.length = n) (hc : n ≤ c) (hm : c ≤ maxLen) (hlim : n ≤ 100000) (w : World) (hb : Bs w w.heap.size A b) :
    Calls Try.prog 6 #[.slice A n c] w (VDecPost n b w) := by
  have Hfrom := Lib.hid (from_anyL w.heap.size A c b w hb (by omega))
  rw [hn] at Hfrom
  obtain ⟨R, hR⟩ : ∃ z, decV n b = z := ⟨_, rfl⟩
  have HR := Lib.hid hR
  obtain ⟨N, hN⟩ : ∃ z, (numS n (b, false)).1 = z := ⟨_, rfl⟩
  obtain ⟨s1, hs1⟩ : ∃ z, (numS n (b, false)).2 = z := ⟨_, rfl⟩
  have HRv := Lib.hid (show finV (volsS N ([], s1)) = R by rw [← hR, ← hN, ← hs1]; rfl)
  have hNn : N ≤ n := by rw [← hN]; exact numS_le _ _
  have Hnum := Lib.hid (fun (lo p : Nat) (w : World) (h : PInL lo w p b false) => show Calls Try.prog 30 #[.pointer (some ⟨p, 0, none⟩), .int .u64 (n : Nat)] w fun e w' => e = .returned (.int .u64 (N : Nat)) ∧ PInL lo w' p s1.1 s1.2 ∧ Turn p w w' by have := number_fl p n (b, false) w h (by omega); rw [hN, hs1] at this; exact this)
  clear hb hN hs1 hR hn
  go_enter Try.func6, Try.ntmps6
  go_wp2_with fail
  refine Calls.mono Hfrom.out ?_
  rintro e w1 ⟨p, rfl, hp1, hP1, hb1⟩
  have hp1s := hP1.lt
  go_wp2_with fail
  refine Calls.mono (vnew_any w1) ?_
  rintro e w2 ⟨s, rfl, hs2, hS2, hb2⟩
  have hF2 : ∀ b, newF (fun _ => False) w1 w2 b → p < b := fun b h => h.elim (fun h => h.elim) fun h => by have := h.1; omega
  obtain ⟨F2, hFe⟩ : ∃ z, z = newF (fun _ => False) w1 w2 := ⟨_, rfl⟩
  rw [← hFe] at hF2 hS2
  have hP2 : PInL w.heap.size w2 p b false := hP1.kept fun i hi => hb2.block i (by omega)
  have hbw2 : Below w.heap.size w w2 := hb1.trans (hb2.mono hb1.size)
  clear hFe hP1 hb1 hb2 Hfrom
  go_wp2_with fail
  refine Calls.mono (Hnum.out _ p w2 hP2) ?_
  rintro e w3 ⟨rfl, hP3, ht3⟩
  have hS3 : SetL w3 F2 s [] := hS2.only (R := fun k => k = p) ⟨ht3.os, ht3.tape, ht3.output, ht3.size, fun i hi hn => ht3.block i hi (fun e => by injection e with e; exact hn (by omega))⟩ fun k hk e => by have := hF2 k hk; omega
  have hbw3 : Below w.heap.size w w3 := hbw2.trans (ht3.below hbw2.size hp1)
  clear hP2 ht3 hS2 hbw2 Hnum
  go_wp2_with fail
  go_loopw [6, 18] (fun lv i wr => ∃ (k : Nat) (acc : List Vol) (F : Nat → Prop) (s4 : St), k ≤ N ∧ i = .int .u64 (k : Nat) ∧ lv = .string ⟨(lastV acc).toArray⟩ ∧ SetL wr F s acc ∧ Hid (∀ b, F b → p < b) ∧ PInL w.heap.size wr p s4.1 s4.2 ∧ Hid (finV (volsS (N - k) (acc, s4)) = R) ∧ Hid (RiseV acc ∧ acc.length = k) ∧ Below w.heap.size w wr) (fun _ i _ => N - (Go.RowKit.intOf i).toNat)
  case atStart => exact ⟨0, [], F2, s1, Nat.zero_le _, rfl, rfl, hS3, Lib.hid hF2, hP3, Lib.hid HRv.out, Lib.hid ⟨List.Pairwise.nil, rfl⟩, hbw3⟩
  case round =>
    clear hS3 hF2 hP3 hbw3
    obtain ⟨k, acc, F, s4, hk, rfl, rfl, hS, HF, hP, Hrun, Hrl, hbw⟩ := hrel
    have hpr := hP.lt
    by_cases hlt : k < N
    · have hd1 : decide ((k : Int) < (N : Int)) = true := by simp; omega
      have hd2 : decide (k < N) = true := by simp; omega
      have hrun := Hrun.out
      rw [show N - k = (N - (k + 1)) + 1 by omega] at hrun
      unfold volsS at hrun
      dsimp only at hrun
      have hnl := nm_lenD s4
      have Hby := Lib.hid (bytes_fl p s4 wr hP)
      obtain ⟨nm, hnm⟩ : ∃ z, (nmV s4).1 = z := ⟨_, rfl⟩
      obtain ⟨s5, hs5⟩ : ∃ z, (nmV s4).2 = z := ⟨_, rfl⟩
      rw [hnm, hs5] at hrun Hby
      rw [hnm] at hnl
      obtain ⟨ln, hln⟩ : ∃ z, nm.length = z := ⟨_, rfl⟩
      rw [hln] at Hby hnl
      have Hln := Lib.hid hln
      have Hr := Lib.hid hrun
      have Htk := Lib.hid (fun (w' : World) (h : PInL w.heap.size w' p s5.1 s5.2) => take_any w.heap.size p s5 w' h)
      have HS := Lib.hid hS
      clear hrun Hrun hnm hs5 hP hln hS
      go_wp2_with fail
      refine Calls.mono Hby.out ?_
      rintro e w4 ⟨An, cn, rfl, hn1, hn2, hBs, hP4, ht4⟩
      have hcv := str_of_bs (P := Try.prog) cn hBs Hln.out 22 9 5 Try.underlying22 Try.underlying5 Try.underlying9
      go_upto_region 7 with (first | ((with_reducible refine wpList_at 22 (by rfl) ?_); refine wpList_convertD rfl _ _ _ rfl _ _ rfl hcv ?_))
      clear hcv hBs Hby
      go_wp2_with fail
      refine Calls.mono (Htk.out w4 hP4) ?_
      rintro e w5 ⟨ht5, hcase⟩
      have ht5w := ht4.trans ht5
      have HS5 := Lib.hid (HS.out.only (R := fun k => k = p) ⟨ht5w.os, ht5w.tape, ht5w.output, ht5w.size, fun i hi hn => ht5w.block i hi (fun e => by injection e with e; exact hn (by omega))⟩ fun k hk e => by have := HF.out k hk; omega)
      have hbw5 : Below w.heap.size w w5 := hbw.trans (ht5w.below hbw.size hp1)
      have HS4 := Lib.hid (HS.out.only (R := fun k => k = p) ⟨ht4.os, ht4.tape, ht4.output, ht4.size, fun i hi hn => ht4.block i hi (fun e => by injection e with e; exact hn (by omega))⟩ fun k hk e => by have := HF.out k hk; omega)
      have H45 := Lib.hid (show ∀ b, F b → b < w4.heap.size → w5.heap[b]? = w4.heap[b]? from fun b hb hlt => ht5.block b hlt fun e => by injection e with e; have := HF.out b hb; omega)
      have hs45 : w4.heap.size ≤ w5.heap.size := ht5.size
      have hp4 : p < w4.heap.size := hP4.lt
      clear ht4 ht5 hP4 hbw Htk HS5
      obtain ⟨lv, hlv⟩ : ∃ z, lastV acc = z := ⟨_, rfl⟩
      rw [hlv] at Hr ⊢
      have Hlv := Lib.hid hlv
      clear hlv
      rcases hcase with ⟨htn, x, rfl⟩ | ⟨q, f, cs, t, vb, bb, htk, rfl, hvb, hmb, hvl, hbl, hP5⟩
      · have Hno := Lib.hid (show R = none by rw [← Hr.out, htn]; rfl)
        clear htn Hr
        go_wp2_with fail
        go_ret2
        exact ⟨hbw5, .inl ⟨by rw [HR.out]; exact Hno.out, rfl⟩⟩
      · have Htv := Lib.hid htk
        rw [htk] at Hr
        dsimp only at Hr
        have hsz20 : (⟨nm.toArray⟩ : ByteArray).size ≤ maxLen := by
          have e : (⟨nm.toArray⟩ : ByteArray).size = nm.length := by simp [ByteArray.size]
          rw [e, Hln.out]; unfold maxLen; omega
        obtain ⟨nb, hnb⟩ : ∃ z, namedB nm = z := ⟨_, rfl⟩
        have Hmay := Lib.hid (mayName_any ⟨nm.toArray⟩ hsz20 w5 nb (by rw [← hnb]))
        obtain ⟨bf, hbf⟩ : ∃ z, bytesBefore lv nm = z := ⟨_, rfl⟩
        have hcmp : (Op.bytesLess nm lv || nm == lv) = !bf := by rw [bytesLess_beforeD, ← hbf]; exact before_leq nm lv
        rw [hnb, hbf] at Hr
        have Hnb := Lib.hid hnb
        have Hbf := Lib.hid hbf
        have Hszm := Lib.hid hsz20
        have Hvb := Lib.hid hvb
        have Hmb := Lib.hid hmb
        clear htk hnb hbf hsz20 hvb hmb
        go_wp2_with fail
        refine Calls.mono Hmay.out ?_
        rintro e w6 ⟨rfl, hwx⟩
        subst hwx
        cases nb with
        | false =>
          have Hno := Lib.hid (show R = none by rw [← Hr.out, if_pos (.inl rfl)]; rfl)
          clear Hr
          go_wp2_with fail
          go_ret2
          exact ⟨hbw5, .inl ⟨by rw [HR.out]; exact Hno.out, rfl⟩⟩
        | true =>
          cases bf with
          | false =>
            have Hno := Lib.hid (show R = none by rw [← Hr.out, if_pos (.inr rfl)]; rfl)
            clear Hr
            go_wp2_with fail
            go_ret2
            exact ⟨hbw5, .inl ⟨by rw [HR.out]; exact Hno.out, rfl⟩⟩
          | true =>
            have Hnx := Lib.hid (show finV (volsS (N - (k + 1)) (acc ++ [⟨⟨nm.toArray⟩, q, f, cs⟩], t)) = R by rw [← Hr.out, if_neg (by simp)])
            obtain ⟨k1, k2, k3, k4, k5, k6, k7⟩ := takeV_sound Htv.out
            have hvok : VolOk ⟨⟨nm.toArray⟩, q, f, cs⟩ := ⟨k4, k5, k6, k7, Hnb.out⟩
            have Hrs := Lib.hid (riseV_snoc (v := ⟨⟨nm.toArray⟩, q, f, cs⟩) Hrl.out.1 (by rw [Hlv.out]; exact Hbf.out))
            have Hlast := Lib.hid (show lastV (acc ++ [⟨⟨nm.toArray⟩, q, f, cs⟩]) = nm by rw [lastV_snoc]; rfl)
            have Hins := Lib.hid (insV_last acc ⟨⟨nm.toArray⟩, q, f, cs⟩ (rise_all Hrs.out))
            obtain ⟨M, ⟨mb, hQ⟩, hvs⟩ := HS4.out
            have hh : hasM M ⟨nm.toArray⟩ = false := by
              rw [← vs_has, hvs]
              cases hhv : hasV acc ⟨nm.toArray⟩ with
              | false => rfl
              | true =>
                unfold hasV at hhv
                obtain ⟨u, hu, e⟩ := List.any_eq_true.1 hhv
                have h1 := rise_all Hrs.out u hu
                have h2 : vkey u = nm := by simpa using e
                rw [h2] at h1
                have h3 : bytesBefore nm nm = true := h1
                rw [bytesBefore_lt] at h3
                exact absurd h3 (List.lt_irrefl _)
            have hvk : VmOk w5 ⟨⟨⟨nm.toArray⟩, q, f, cs⟩, vb, bb⟩ := ⟨Hvb.out, Hmb.out, hvok⟩
            have hFb : ∀ b, F b → w5.heap[b]? = w4.heap[b]? := fun b hb => H45.out b hb (hQ.Flt b hb)
            have hmbp : p < mb := HF.out mb hQ.Fm
            have hown : w5.ownsMap Try.prog 9 ptrR mb M.length (ptrD M) := World.ownsMap.at_ hQ.hm (hFb mb hQ.Fm)
            have hroom : M.length < maxLen := by have h1 := Hrl.out.2; rw [← hvs, vs_length] at h1; unfold maxLen; omega
            have hs5 : Arr w5 s 76 [.map (some mb)] := (hFb s hQ.Fs).trans hQ.hs
            have hc0 := hs5.cell 0
            simp only [List.getElem?_cons_zero] at hc0
            have Hadd := Lib.hid (fun (w8 : World) (n8 : Nat) h1 h2 => SetQ.addT (w2 := w8) (n := n8) hQ hvk hs45 hFb hvl hbl hh h1 h2)
            have Hvs := Lib.hid hvs
            have Hkey := Lib.hid (keyOf_name Hszm.out)
            clear hQ hvs hFb hvk hh hvok k1 k2 k3 k4 k5 k6 k7 hs5 Hr
            go_wp2_with (at_mapUpdate; refine wpList_mapUpdate_own _ rfl _ _ _ 74 rfl 9 70 strKeyed Try.underlying74 ptrR mb M.length (ptrD M) rfl hown hroom _ _ _ rfl rfl Hkey.out _ [] (ptrR_mk _) ?_)
            intro w8 hown8 hg8
            have hfin := Hadd.out w8 _ hown8 hg8
            have hP8 : PInL w.heap.size w8 p t.1 t.2 := hP5.kept fun i hi => hg8.block i (by omega) (fun e => by injection e; omega)
            have hb8 : Below w.heap.size w w8 := hbw5.grown hg8 hbw5.size fun g hg => by injection hg with hg; omega
            have hS8 : SetL w8 (newF F w4 w8) s (acc ++ [⟨⟨nm.toArray⟩, q, f, cs⟩]) := ⟨_, ⟨mb, hfin⟩, by rw [vs_ins, Hvs.out]; exact Hins.out⟩
            have hF8 : ∀ b, newF F w4 w8 b → p < b := fun b h => h.elim (HF.out b) fun h => by have := h.1; omega
            obtain ⟨F8, hFe⟩ : ∃ z, z = newF F w4 w8 := ⟨_, rfl⟩
            rw [← hFe] at hS8 hF8
            clear hown8 hg8 hfin hFe hown hc0 hP5
            go_wp2_with fail
            go_roundw
            case rel => exact ⟨k + 1, _, F8, t, by omega, by go_num, by rw [Hlast.out], hS8, Lib.hid hF8, hP8, Hnx, Lib.hid ⟨Hrs.out, by rw [List.length_append, Hrl.out.2]; rfl⟩, hb8⟩
            case measure => simp [Go.RowKit.intOf]; omega
    · obtain rfl : k = N := by omega
      have hd1 : decide ((k : Int) < (k : Int)) = false := by simp
      have hd2 : decide (k < k) = false := by simp
      have Hfin := Lib.hid (show finV (some (acc, s4)) = R by have h := Hrun.out; rw [Nat.sub_self] at h; exact h)
      go_wp2_with fail
      refine Calls.mono (done_in p s4.1 s4.2 wr hP) ?_
      rintro e w7 ⟨rfl, hwx⟩
      subst hwx
      by_cases hdn : s4.2 = true ∨ 0 < s4.1.length
      · have Hno := Lib.hid (show R = none by rw [← Hfin.out]; unfold finV; exact if_pos hdn)
        have hdf : doneF s4.1 s4.2 = 3 := if_pos hdn
        rw [hdf]
        clear hdn hdf
        go_wp2_with fail
        go_ret2
        exact ⟨hbw, .inl ⟨by rw [HR.out]; exact Hno.out, rfl⟩⟩
      · have Hyes := Lib.hid (show R = some acc by rw [← Hfin.out]; unfold finV; exact if_neg hdn)
        have hdf : doneF s4.1 s4.2 = 0 := if_neg hdn
        rw [hdf]
        clear hdn hdf
        go_wp2_with fail
        go_ret2
        exact ⟨hbw, .inr ⟨acc, s, F, by rw [HR.out]; exact Hyes.out, rfl, hS, fun b hb => by have := HF.out b hb; omega⟩⟩

end Go.Proofs.Ytcajhndhjlfmaaa

/-
  The law ModelDoes.
-/
import Derived.Test.YtcajhndhjlfmaaaModRDoY
import Derived.Test.YtcajhndhjlfmaaaModRDoG
import Derived.Test.YtcajhndhjlfmaaaModRDoC
import Derived.Test.YtcajhndhjlfmaaaModRDoS
import Derived.Test.YtcajhndhjlfmaaaModSpeaks
import Derived.Test.YtcajhndhjlfmaaaModArg
import Derived.Test.YtcajhndhjlfmaaaModAdd
import Derived.Test.YtcajhndhjlfmaaaModDist
import Derived.Maps.AppendAt
import Derived.Test.YtcajhndhjlfmaaaModEvent
import Derived.Test.YtcajhndhjlfmaaaRefNum
import Derived.Test.YtcajhndhjlfmaaaModEvMath
import Derived.Test.YtcajhndhjlfmaaaModImages
import Derived.Test.YtcajhndhjlfmaaaSame
namespace Go.Proofs.Ytcajhndhjlfmaaa
open Go.RowKit
set_option linter.unusedVariables false
set_option linter.unusedSimpArgs false
set_option maxRecDepth 100000

theorem strAll : (Try.prog.info? 9).map (fun i => (i.zero, i.size, i.bytes)) = some (some (.string ⟨#[]⟩), 1, 16) := by kernel_rfl
theorem run_append_str {w : World} {B : Nat} {v : Value} {ns : List ByteArray} (h : NmsAt w B v ns) (hB : B ≤ w.heap.size) (ty : TypeId) (g c : Nat) (y : ByteArray) (hg : w.cell? ⟨g, 0, none⟩ = some (.string y)) (hm : ns.length ≤ 1000000) :
    ∃ v' w', (Builtin.append_ #[45, 45] ty #[v, .slice (some ⟨g, 0, none⟩) 1 c]).run Try.prog w = .ok v' w' ∧ NmsAt w' B v' (ns ++ [y]) ∧ w.grownBy w' v.ownBlock := by
  obtain ⟨i0, hi, hz0, hz1, hz2⟩ := info_partsV strAll
  have hadd : ∀ k, (⟨g, 0, none⟩ : Addr).add k = ⟨g, k, none⟩ := fun k => by unfold Addr.add; split <;> simp_all
  obtain ⟨v', w', h1, h2, h3, _, _⟩ := run_append_own_at (P := Try.prog) w B 45 ty 9 i0 _ 1 16 Try.underlying45 hi hz0 hz1 hz2 rfl (by decide) v ns.length (ns.map Value.string) h ⟨g, 0, none⟩ 1 c [.string y] rfl (fun j u hj => by
    rw [hadd]
    cases j with
    | zero => simp only [List.getElem?_cons_zero, Option.some.injEq] at hj; rw [← hj]; exact hg
    | succ j => simp at hj) (by intro u hu; rw [List.mem_singleton] at hu; rw [hu]; rfl) (by unfold maxLen; omega) (by omega) hB
  refine ⟨v', w', h1, ?_, h3⟩
  unfold NmsAt
  rw [List.map_append, List.length_append]
  exact h2
theorem wp_append_str {o : Oper} {a : Act} {w : World} {K : Act → World → Prop} {Q : Exit → Act → World → Prop} (dd : Option Tmp) (hdd : o.dst = dd) (s x : Operand) (ho : o.op = .call { callee := .builtin .append, args := #[s, x], argTypes := #[45, 45] })
    {B : Nat} {v : Value} {ns : List ByteArray} (h : NmsAt w B v ns) (hB : B ≤ w.heap.size) (hs : a.eval s = v) (g c : Nat) (hx : a.eval x = .slice (some ⟨g, 0, none⟩) 1 c) (y : ByteArray) (hg : w.cell? ⟨g, 0, none⟩ = some (.string y)) (hm : ns.length ≤ 1000000)
    (hK : ∀ v' w', NmsAt w' B v' (ns ++ [y]) → w.grownBy w' v.ownBlock → K (a.put dd v') w') : Oper.wp Try.prog o a w K Q := by
  subst hdd
  obtain ⟨v', w', hr, h2, h3⟩ := run_append_str h hB o.type g c y hg hm
  unfold Oper.wp execOp
  simp only [ho, resolve, invoke, builtin, Sem.run_bind, Sem.run_pure, Result.andThen_ok, List.map_toArray, List.map_cons, List.map_nil, hs, hx, hr]
  exact hK v' w' h2 h3

end Go.Proofs.Ytcajhndhjlfmaaa

namespace Go.Proofs.Ytcajhndhjlfmaaa
open Go.RowKit
set_option linter.unusedVariables false
set_option linter.unusedSimpArgs false
set_option maxRecDepth 100000

theorem NmsAt.up {w w' : World} {B : Nat} {v : Value} {ns : List ByteArray} (h : NmsAt w B v ns) (hb : Below w.heap.size w w') : NmsAt w' B v ns := by
  refine ⟨h.1, ?_⟩
  rcases h.2 with hn | ⟨g, cap, cur, rfl, h1, hg, rest⟩
  · exact .inl hn
  · exact .inr ⟨g, cap, cur, rfl, h1, (hb.block g (Array.getElem?_eq_some_iff.1 hg).1).trans hg, rest⟩
theorem NmsAt.other {w w' : World} {B : Nat} {v : Value} {ns : List ByteArray} (h : NmsAt w B v ns) (hb : ∀ k, B ≤ k → w'.heap[k]? = w.heap[k]?) : NmsAt w' B v ns := by
  refine ⟨h.1, ?_⟩
  rcases h.2 with hn | ⟨g, cap, cur, rfl, h1, hg, rest⟩
  · exact .inl hn
  · exact .inr ⟨g, cap, cur, rfl, h1, (hb g h1).trans hg, rest⟩
theorem ansC_50 (k : Int) (th : Bool) (BL : List Value) (h : BL.length = 48) (nv : Value) : (ansC k th BL nv)[50]? = some nv := by
  unfold ansC
  rw [show 50 = 48 + 1 + 1 from rfl, List.getElem?_cons_succ, List.getElem?_cons_succ, List.getElem?_append_right (by omega), h]
  rfl
theorem ansC_set (k : Int) (th : Bool) (BL : List Value) (h : BL.length = 48) (nv v : Value) : (ansC k th BL nv).set 50 v = ansC k th BL v := by
  unfold ansC
  rw [show 50 = 48 + 1 + 1 from rfl, List.set_cons_succ, List.set_cons_succ, List.set_append_right _ _ (by omega), h]
  rfl

set_option maxHeartbeats 32000000 in
theorem rdo_list (A : Option Addr) (n c : Nat) (L : List Vol) (o : Op15) (ho : OpOk o) (OL : List Value) (hOL : OL = opC o) (w : World) (G : Nat → Prop) (h : VSl w G A n c L) (hG : ∀ b, G b → b < w.heap.size) (hl : L.length ≤ 100000) (hrise : RiseV L) (hok : ∀ v ∈ L, ImgOk v) (h1 : o.kind = 8) :
    Calls Try.prog 15 #[.slice A n c, .agg OL.toArray] w fun e w' => RDoPost o w G L e w' := by
  obtain ⟨hk0, hk1, hk2, hk3, hk4⟩ := opC_at hOL
  obtain ⟨W1, hW1⟩ : ∃ z, z = w.alloc (.cells OL.toArray 44) := ⟨_, rfl⟩
  have hb1 : Below w.heap.size w W1 := by rw [hW1]; exact (Below.refl _ _).alloc (Nat.le_refl _) _
  have hA1 : Arr W1 w.heap.size 44 OL := by rw [hW1]; exact Arr.new w _ _
  have hs1 : W1.heap.size = w.heap.size + 1 := by rw [hW1]; simp
  obtain ⟨AZ, hAZ⟩ : ∃ z, z = ansZ := ⟨_, rfl⟩
  obtain ⟨W0, hW0⟩ : ∃ z, z = W1.alloc (.cells AZ.toArray 47) := ⟨_, rfl⟩
  have hAn : Arr W0 (w.heap.size + 1) 47 AZ := by rw [hW0, ← hs1]; exact Arr.new W1 _ _
  have hb0 : Below W1.heap.size W1 W0 := by rw [hW0]; exact (Below.refl _ _).alloc (Nat.le_refl _) _
  have HWx : Hid (W0 = (w.alloc (.cells OL.toArray 44)).alloc (.cells ansZ.toArray 47)) := Lib.hid (by rw [hW0, hW1, hAZ])
  replace hA1 := hA1.up hb0
  replace hb1 := hb1.trans (hb0.mono hb1.size)
  obtain ⟨g, hg⟩ : ∃ z, z = w.heap.size := ⟨_, rfl⟩
  rw [← hg] at hA1 hAn
  have hgl : w.heap.size ≤ g + 1 := by omega
  have hg1 := hAn.lt
  obtain ⟨nm, hnm⟩ : ∃ z, z = o.name := ⟨_, rfl⟩
  obtain ⟨ot, hot⟩ : ∃ z, z = o.other := ⟨_, rfl⟩
  obtain ⟨kd, hkd⟩ : ∃ z, z = o.kind := ⟨_, rfl⟩
  obtain ⟨qt, hqt⟩ : ∃ z, z = o.quota := ⟨_, rfl⟩
  obtain ⟨nu, hnu⟩ : ∃ z, z = o.num := ⟨_, rfl⟩
  have hsz := ho.n1
  have hsz2 := ho.n2
  have hkr := ho.i3
  rw [← hkd] at hkr
  rw [← hnm] at hk1 hsz
  rw [← hot] at hk2 hsz2
  rw [← hkd] at hk0
  rw [← hqt] at hk4
  rw [← hnu] at hk3
  have hc0 : W0.cell? ⟨g, 0, none⟩ = some (.int .i64 kd) := by rw [hA1.cell]; exact hk0
  have hc1 : W0.cell? ⟨g, 1, none⟩ = some (.string nm) := by rw [hA1.cell]; exact hk1
  have hc2 : W0.cell? ⟨g, 2, none⟩ = some (.string ot) := by rw [hA1.cell]; exact hk2
  have hc3 : W0.cell? ⟨g, 3, none⟩ = some (.int .i64 nu) := by rw [hA1.cell]; exact hk3
  have hc4 : W0.cell? ⟨g, 4, none⟩ = some (.int .i64 qt) := by rw [hA1.cell]; exact hk4
  have HAi := Lib.hid (fun (k : Int) (AL : List Value) (h : AL = ansC k false (Lib.byteCells zB) nilS) => show ((Try.prog.info? 47).map (·.size) = some AL.toArray.size ∧ AZ.toArray.size = AL.toArray.size) ∧ AL.toArray.all (·.oneCell') = true ∧ Try.prog.built 47 [(0, .int .i64 k)] = some AL.toArray by
    subst h
    rw [List.size_toArray, List.size_toArray, ansC_length (by simp [Lib.byteCells, zB]), hAZ]
    exact ⟨⟨ansSize, rfl⟩, ansC_one rfl, ans_b0 k⟩)
  have HAn := Lib.hid hAn
  have HA1 := Lib.hid hA1
  have Hb1 := Lib.hid hb1
  have Ho := Lib.hid ho
  have HOL := Lib.hid hOL
  have HV0 := Lib.hid (h.below hb1)
  have Hf := Lib.hid ((h.below hb1).find nm hsz)
  have HV := Lib.hid h
  have HG := Lib.hid hG
  have HG0 := Lib.hid (show ∀ b, G b → b < W0.heap.size from fun b hb => Nat.lt_of_lt_of_le (hG b hb) hb1.size)
  have Hg := Lib.hid hg
  have Hl := Lib.hid hl
  have Hrise := Lib.hid hrise
  have Hok := Lib.hid hok
  have Hkd := Lib.hid hkd
  have Hnm := Lib.hid hnm
  have Hnu := Lib.hid hnu
  have Hqt := Lib.hid hqt
  have Hot := Lib.hid hot
  have Hfin := Lib.hid (fun (w5 : World) (hb : Below W0.heap.size W0 w5) (A' : Option Addr) (n' c' : Nat) (L' : List Vol) (hv : VSl w5 (fun b => G b ∨ W0.heap.size ≤ b) A' n' c' L') (AL : List Value) => fin_vs hb1 hgl (by omega) hG hb hv AL)
  have Hdo := Lib.hid (show doL L o = (if kd = 1 then ePair (createL L nm qt) else if kd = 2 then ePair (deleteL L nm) else if kd = 3 then ePair (writeL L nm nu o.blk) else if kd = 4 then ePair (trimL L nm nu) else if kd = 5 then (L, readL L nm nu) else if kd = 6 then ePair (copyL L nm ot (quotaL L nm) true) else if kd = 7 then ePair (copyL L nm ot qt false) else if kd = 8 then (L, ⟨0, false, zB, L.map (·.name)⟩) else (L, aE 1)) by rw [hkd, hnm, hot, hqt, hnu]; rfl)
  have HAZ := Lib.hid hAZ
  clear hnm hot hkd hqt hnu hk0 hk1 hk2 hk3 hk4 hOL ho h hl hb1 hA1 hb0 hs1 hW0 hW1 hAn hg hG hrise hok hgl hAZ
  have Hr := Lib.hid (show doL L o = (L, ⟨0, false, zB, L.map (·.name)⟩) by rw [Hdo.out]; rw [Hkd.out, h1]; rfl)
  have hz48 : (Lib.byteCells zB).length = 48 := rfl
  obtain ⟨ZB, hZB⟩ : ∃ z, z = Lib.byteCells zB := ⟨_, rfl⟩
  rw [← hZB] at hz48
  obtain ⟨A0, hA0⟩ : ∃ z, z = ansC 0 false ZB nilS := ⟨_, rfl⟩
  have HA0i := Lib.hid (show (Try.prog.info? 47).map (·.size) = some A0.toArray.size ∧ AZ.toArray.size = A0.toArray.size by rw [hA0, List.size_toArray, ansC_length hz48, HAZ.out]; exact ⟨ansSize, rfl⟩)
  have HA0c := Lib.hid (show A0.toArray.all (·.oneCell') = true by rw [hA0, hZB]; exact ansC_one rfl)
  have HA0b := Lib.hid (ans_b A0 (by rw [hA0, hZB]))
  have HZA := Lib.hid (fun w : World => show (zeroValue 47).run Try.prog w = .ok (.agg AZ.toArray) w by rw [HAZ.out]; exact ansZero w)
  have HnL : Hid (L.length = n) := by obtain ⟨xs, hx, hn', _⟩ := HV.out; show L.length = n; rw [← hx, List.length_map, hn']
  have hcn : n ≤ c ∧ c ≤ 9223372036854775807 ∧ n ≤ 100000 := by
    obtain ⟨xs, hx, hn', hc, hm, _⟩ := HV.out
    have hl := Hl.out
    unfold maxLen at hm
    rw [← hx, List.length_map, hn'] at hl
    exact ⟨hc, by omega, hl⟩
  obtain ⟨fi, hfi⟩ : ∃ z, findI L nm = z := ⟨_, rfl⟩
  rw [hfi] at Hf
  rw [← Hkd.out] at h1
  have hn1 : ¬ kd = 1 := by omega
  have hb1 : (kd == 1) = false := by simpa using hn1
  have hb8 : (kd == 8) = true := by simpa using h1
  have HA0 := Lib.hid hA0
  have HZB := Lib.hid hZB
  clear hfi hA0 hZB
  go_enter Try.func15, Try.ntmps15
  go_upto_region 1 with fail
  change Code.wp _ _ _ _ ((w.alloc (.cells OL.toArray 44)).alloc (.cells ansZ.toArray 47))
  rw [← HWx.out, ← Hg.out]
  clear HWx
  go_wp2_with fail
  refine Calls.mono Hf.out ?_
  rintro e w' ⟨rfl, rfl⟩
  clear Hf
  go_upto_region 10 with (first | (refine wpList_builtV rfl _ _ rfl _ rfl A0.toArray HA0b.out ?_) | (refine wpList_allocZC rfl 47 rfl AZ.toArray (HZA.out _) ?_) | (change wpList _ _ _ _ _ (W0.alloc (.cells AZ.toArray 47)); refine wpList_store_row rfl _ _ _ rfl W0.heap.size A0.toArray rfl rfl 47 AZ.toArray (heap_alloc_new W0 _) HA0i.out.1 HA0i.out.2 HA0c.out ?_; obtain ⟨w5, hw5⟩ : ∃ x, x = (W0.alloc (.cells AZ.toArray 47)).setRow W0.heap.size A0.toArray := ⟨_, rfl⟩; rw [← hw5]; obtain ⟨hP5, hb5⟩ := alloc_row W0 47 AZ.toArray A0; rw [← hw5] at hP5 hb5; clear hw5))
  clear hc0 hc1 hc2 hc3 hc4
  obtain ⟨B7, hB7⟩ : ∃ z, z = W0.heap.size := ⟨_, rfl⟩
  rw [← hB7] at hP5 ⊢
  have HB7 := Lib.hid hB7
  rw [HA0.out] at hP5
  have HP5 := Lib.hid hP5
  have Hb5 := Lib.hid (show Below W0.heap.size W0 w5 from hb5)
  clear hP5 hb5 hB7
  go_wp2_with fail
  go_loopw [8] (fun ix wr => ∃ k : Nat, k ≤ n ∧ ix = .int .i64 k ∧ ∃ nv, Hid (Arr wr B7 47 (ansC 0 false ZB nv)) ∧ Hid (NmsAt wr (B7 + 1) nv ((L.take k).map (·.name))) ∧ Hid (Below W0.heap.size W0 wr)) (fun ix _ => n - (Go.RowKit.intOf ix).toNat)
  case atStart => exact ⟨0, Nat.zero_le _, rfl, nilS, HP5, nms_nil _ _, Hb5⟩
  case round =>
    obtain ⟨k, hk, rfl, nv, HA, HN, Hb⟩ := hrel
    clear HP5 Hb5
    have hBw : B7 < wr.heap.size := HA.out.lt
    by_cases hlt : k < n
    · have hq1 : decide ((k : Int) < (n : Int)) = true := by simp; omega
      obtain ⟨v, hv⟩ : ∃ z, L[k]? = some z := ⟨_, List.getElem?_eq_getElem (by rw [HnL.out]; exact hlt)⟩
      obtain ⟨b, off, rfl, _, Ac, cc, a0', _, _, _, _, _⟩ := HV0.out.at_ hv
      have hbW : b < W0.heap.size := cell_ltC a0'
      obtain ⟨s, hs⟩ : ∃ z, v.name = z := ⟨_, rfl⟩
      rw [hs] at a0'
      have a0 := (World.cell?_of_block (Hb.out.block b hbW)).trans a0'
      have Hbs := Lib.hid (fun (w' : World) (h : w'.heap[b]? = wr.heap[b]?) => show w'.cell? ⟨b, off + k * 4, none⟩ = some (.string s) from (World.cell?_of_block h).trans a0)
      have htk : (L.take (k + 1)).map (·.name) = (L.take k).map (·.name) ++ [s] := by
        obtain ⟨hl, e⟩ := List.getElem?_eq_some_iff.1 hv
        rw [List.take_succ_eq_append_getElem hl, e, List.map_append, ← hs]
        rfl
      have Htk := Lib.hid htk
      have hbB : b ≠ B7 := by have := HB7.out; omega
      have c50 : wr.cell? ⟨B7, 50, none⟩ = some nv := by rw [HA.out.cell]; exact ansC_50 _ _ _ hz48 _
      have hkl : ((L.take k).map (·.name)).length ≤ 1000000 := by rw [List.length_map, List.length_take]; omega
      clear hv a0' hs htk
      have hnl := World.ownsRow.lt HN.out
      have hB7a : B7 ≤ W0.heap.size ∧ W0.heap.size ≤ B7 := by have := HB7.out; omega
      go_upto_region 13 with fail
      refine wp_region_held_drew (S := (fun w' => w'.cell? ⟨b, off + k * 4, none⟩ = some (.string s))) (by kernel_rfl) a0 (fun hHeld => ?_)
      refine anyH_take (i := 0) (v := .pointer (some ⟨B7, 50, none⟩)) (some 54) rfl rfl (by kernel_rfl) (by kernel_rfl) (by kernel_rfl) (fun _ _ _ h => h) (Or.inl ⟨by rfl, fun w' hw => by (go_simp)⟩) (by assumption) ?_
      simp only [Act.put, List.setIfInBounds_toArray, List.set_cons_zero, List.set_cons_succ]
      refine anyH_take (i := 2) (v := .slice (some ⟨b, off, none⟩) n c) (some 56) rfl rfl (by kernel_rfl) (by kernel_rfl) (by kernel_rfl) (fun _ _ _ h => h) (Or.inl ⟨by rfl, fun w' hw => by (go_simp)⟩) (by assumption) ?_
      simp only [Act.put, List.setIfInBounds_toArray, List.set_cons_zero, List.set_cons_succ]
      refine anyH_take (i := 3) (v := .int .i64 (k : Nat)) (some 57) rfl rfl (by kernel_rfl) (by kernel_rfl) (by kernel_rfl) (fun _ _ _ h => h) (Or.inl ⟨by rfl, fun w' hw => by (go_simp)⟩) (by assumption) ?_
      simp only [Act.put, List.setIfInBounds_toArray, List.set_cons_zero, List.set_cons_succ]
      refine anyH_take (i := 4) (v := .pointer (some ⟨b, off + k * 4, none⟩)) (some 58) rfl rfl (by kernel_rfl) (by kernel_rfl) (by kernel_rfl) (fun _ _ _ h => h) (Or.inl ⟨by rfl, fun w' hw => by (go_simp; try (intro h; omega))⟩) (by assumption) ?_
      simp only [Act.put, List.setIfInBounds_toArray, List.set_cons_zero, List.set_cons_succ]
      refine anyH_take (i := 5) (v := .pointer (some ⟨b, off + k * 4, none⟩)) (some 59) rfl rfl (by kernel_rfl) (by kernel_rfl) (by kernel_rfl) (fun _ _ _ h => h) (Or.inl ⟨by rfl, fun w' hw => by (go_simp)⟩) (by assumption) ?_
      simp only [Act.put, List.setIfInBounds_toArray, List.set_cons_zero, List.set_cons_succ]
      refine anyH_take (i := 6) (v := .string s) (some 60) rfl rfl (by kernel_rfl) (by kernel_rfl) (by kernel_rfl) (fun _ _ _ h => h) (Or.inl ⟨by rfl, fun w' hw => by (have hcc := hw; go_simp)⟩) (by assumption) ?_
      simp only [Act.put, List.setIfInBounds_toArray, List.set_cons_zero, List.set_cons_succ]
      have hbA : Below wr.heap.size wr ((wr.drewN 1).alloc (.cells #[.string s] 9)) := (Below.dN (Below.refl _ wr) 1).alloc (Nat.le_refl _) _
      have hsA : Hid (((wr.drewN 1).alloc (.cells #[.string s] 9)).cell? ⟨wr.heap.size, 0, none⟩ = some (.string s)) := (Arr.new (wr.drewN 1) 9 [.string s]).cell 0
      obtain ⟨wA, hwA⟩ : ∃ z, z = (wr.drewN 1).alloc (.cells #[.string s] 9) := ⟨_, rfl⟩
      rw [← hwA] at hbA hsA
      have HwA := Lib.hid hwA
      have hAA := HA.out.up hbA
      have hNA := HN.out.up hbA
      have c50A : wA.cell? ⟨B7, 50, none⟩ = some nv := by rw [hAA.cell]; exact ansC_50 _ _ _ hz48 _
      have HSA := Lib.hid (Hbs.out wA (hbA.block b (by omega)))
      have hBA : B7 + 1 ≤ wA.heap.size := by have := hbA.size; omega
      clear hwA
      refine wpAnyH_ready (rs := [1, 7]) (by kernel_rfl) (by simp) ?_
      refine AllReadyH.cons rfl (fun K hK => ?_) (AllReadyH.cons rfl (fun K hK => ?_) AllReadyH.nil)
      · go_simp
        refine hK.out _ _ a0 (fun hHeldx => ?_)
        clear hK K
        try simp only [Act.put, List.setIfInBounds_toArray, List.set_cons_zero, List.set_cons_succ]
        refine wpAnyH_ready (rs := [7]) (by kernel_rfl) (by simp) ?_
        refine AllReadyH.cons rfl (fun K hK => ?_) AllReadyH.nil
        go_simp
        refine hK.out _ _ (by have := HSA.out; rw [HwA.out] at this; exact this) (fun hHeldy => ?_)
        clear hK K
        try simp only [Act.put, List.setIfInBounds_toArray, List.set_cons_zero, List.set_cons_succ]
        change wpAnyH _ _ _ _ _ _ _ _ ((wr.drewN 1).alloc (.cells #[.string s] 9))
        rw [← HwA.out]
        refine wpAnyH_ready (rs := [8]) (by kernel_rfl) (by simp) ?_
        refine AllReadyH.cons rfl (fun K hK => ?_) AllReadyH.nil
        rw [if_pos (by rfl)]
        refine wp_append_str (some 62) rfl _ _ rfl hNA hBA rfl wr.heap.size 1 rfl s hsA.out hkl ?_
        intro v2 w2 hN2 hg2
        obtain ⟨A9, c9, hv9, _, _, _⟩ := hN2.slice
        obtain ⟨m9, hm9⟩ : ∃ z, ((L.take k).map (·.name) ++ [s]).length = z := ⟨_, rfl⟩
        rw [hm9] at hv9
        have Hm9 := Lib.hid hm9
        clear hm9
        subst hv9
        simp only [Act.put, List.setIfInBounds_toArray, List.set_cons_zero, List.set_cons_succ]
        have h2b : w2.heap[b]? = wr.heap[b]? := (hg2.block b (by omega) (fun e => by have := (hnl b e.symm).1; omega)).trans (hbA.block b (by omega))
        refine hK.out _ _ (Hbs.out w2 h2b) (fun hHeldz => ?_)
        clear hK K
        try simp only [Act.put, List.setIfInBounds_toArray, List.set_cons_zero, List.set_cons_succ]
        refine anyH_take (i := 9) (v := .pointer (some ⟨B7, 50, none⟩)) (some 63) rfl rfl (by kernel_rfl) (by kernel_rfl) (by kernel_rfl) (fun _ _ _ h => h) (Or.inl ⟨by rfl, fun w' hw => by (go_simp)⟩) (by assumption) ?_
        simp only [Act.put, List.setIfInBounds_toArray, List.set_cons_zero, List.set_cons_succ]
        refine wpAnyH_ready (rs := [10]) (by kernel_rfl) (by simp) ?_
        refine AllReadyH.cons rfl (fun K hK => ?_) AllReadyH.nil
        have hA2 : Arr w2 B7 47 (ansC 0 false ZB nv) := (hg2.block B7 (by omega) (fun e => by have := (hnl B7 e.symm).1; omega)).trans hAA
        have hc2 : w2.cell? ⟨B7, 50, none⟩ = some nv := by rw [hA2.cell]; exact ansC_50 _ _ _ hz48 _
        have hf2 := hA2.frozen 50
        have hA3 := hA2.set 50 (.slice A9 m9 c9)
        rw [ansC_set _ _ _ hz48] at hA3
        have hsz3 : (w2.setCell ⟨B7, 50, none⟩ (.slice A9 m9 c9)).heap.size = w2.heap.size := by simp [World.setCell]
        have hN3 : NmsAt (w2.setCell ⟨B7, 50, none⟩ (.slice A9 m9 c9)) (B7 + 1) (.slice A9 m9 c9) ((L.take (k + 1)).map (·.name)) := by
          rw [Htk.out]
          exact hN2.other fun j hj => Below.heap_setCell w2 ⟨B7, 50, none⟩ (.slice A9 m9 c9) j (by show j ≠ B7; omega)
        have hb2 : Below W0.heap.size W0 w2 := (Hb.out.trans (hbA.mono Hb.out.size)).grown hg2 (by have := hbA.size; have := Hb.out.size; omega) (fun e he => by have := (hnl e he).1; omega)
        have hb3 : Below W0.heap.size W0 (w2.setCell ⟨B7, 50, none⟩ (.slice A9 m9 c9)) := hb2.setCell (by show W0.heap.size ≤ B7; omega) _
        have h3b : (w2.setCell ⟨B7, 50, none⟩ (.slice A9 m9 c9)).heap[b]? = wr.heap[b]? := (Below.heap_setCell w2 ⟨B7, 50, none⟩ (.slice A9 m9 c9) b (by show b ≠ B7; omega)).trans h2b
        have HA3 := Lib.hid hA3
        have HN3 := Lib.hid hN3
        have Hb3 := Lib.hid hb3
        have HS3 := Lib.hid (Hbs.out _ h3b)
        clear hA3 hN3 hb3 h3b hsz3 hN2 hg2 h2b hb2
        go_simp
        refine hK.out _ _ HS3.out (fun hHeldq => ?_)
        clear hK K
        try simp only [Act.put, List.setIfInBounds_toArray, List.set_cons_zero, List.set_cons_succ]
        refine wpAnyH_done (by kernel_rfl) ?_ _
        clear hHeld
        go_wp2_with fail
        go_roundw
        case rel => exact ⟨k + 1, by omega, by go_num, (.slice A9 m9 c9), HA3, HN3, Hb3⟩
        case measure => simp [Go.RowKit.intOf]; omega
      · go_simp
        refine hK.out _ _ (by have := HSA.out; rw [HwA.out] at this; exact this) (fun hHeldx => ?_)
        clear hK K
        try simp only [Act.put, List.setIfInBounds_toArray, List.set_cons_zero, List.set_cons_succ]
        change wpAnyH _ _ _ _ _ _ _ _ ((wr.drewN 1).alloc (.cells #[.string s] 9))
        rw [← HwA.out]
        refine wpAnyH_ready (rs := [1]) (by kernel_rfl) (by simp) ?_
        refine AllReadyH.cons rfl (fun K hK => ?_) AllReadyH.nil
        go_simp
        refine hK.out _ _ HSA.out (fun hHeldy => ?_)
        clear hK K
        try simp only [Act.put, List.setIfInBounds_toArray, List.set_cons_zero, List.set_cons_succ]
        refine wpAnyH_ready (rs := [8]) (by kernel_rfl) (by simp) ?_
        refine AllReadyH.cons rfl (fun K hK => ?_) AllReadyH.nil
        rw [if_pos (by rfl)]
        refine wp_append_str (some 62) rfl _ _ rfl hNA hBA rfl wr.heap.size 1 rfl s hsA.out hkl ?_
        intro v2 w2 hN2 hg2
        obtain ⟨A9, c9, hv9, _, _, _⟩ := hN2.slice
        obtain ⟨m9, hm9⟩ : ∃ z, ((L.take k).map (·.name) ++ [s]).length = z := ⟨_, rfl⟩
        rw [hm9] at hv9
        have Hm9 := Lib.hid hm9
        clear hm9
        subst hv9
        simp only [Act.put, List.setIfInBounds_toArray, List.set_cons_zero, List.set_cons_succ]
        have h2b : w2.heap[b]? = wr.heap[b]? := (hg2.block b (by omega) (fun e => by have := (hnl b e.symm).1; omega)).trans (hbA.block b (by omega))
        refine hK.out _ _ (Hbs.out w2 h2b) (fun hHeldz => ?_)
        clear hK K
        try simp only [Act.put, List.setIfInBounds_toArray, List.set_cons_zero, List.set_cons_succ]
        refine anyH_take (i := 9) (v := .pointer (some ⟨B7, 50, none⟩)) (some 63) rfl rfl (by kernel_rfl) (by kernel_rfl) (by kernel_rfl) (fun _ _ _ h => h) (Or.inl ⟨by rfl, fun w' hw => by (go_simp)⟩) (by assumption) ?_
        simp only [Act.put, List.setIfInBounds_toArray, List.set_cons_zero, List.set_cons_succ]
        refine wpAnyH_ready (rs := [10]) (by kernel_rfl) (by simp) ?_
        refine AllReadyH.cons rfl (fun K hK => ?_) AllReadyH.nil
        have hA2 : Arr w2 B7 47 (ansC 0 false ZB nv) := (hg2.block B7 (by omega) (fun e => by have := (hnl B7 e.symm).1; omega)).trans hAA
        have hc2 : w2.cell? ⟨B7, 50, none⟩ = some nv := by rw [hA2.cell]; exact ansC_50 _ _ _ hz48 _
        have hf2 := hA2.frozen 50
        have hA3 := hA2.set 50 (.slice A9 m9 c9)
        rw [ansC_set _ _ _ hz48] at hA3
        have hsz3 : (w2.setCell ⟨B7, 50, none⟩ (.slice A9 m9 c9)).heap.size = w2.heap.size := by simp [World.setCell]
        have hN3 : NmsAt (w2.setCell ⟨B7, 50, none⟩ (.slice A9 m9 c9)) (B7 + 1) (.slice A9 m9 c9) ((L.take (k + 1)).map (·.name)) := by
          rw [Htk.out]
          exact hN2.other fun j hj => Below.heap_setCell w2 ⟨B7, 50, none⟩ (.slice A9 m9 c9) j (by show j ≠ B7; omega)
        have hb2 : Below W0.heap.size W0 w2 := (Hb.out.trans (hbA.mono Hb.out.size)).grown hg2 (by have := hbA.size; have := Hb.out.size; omega) (fun e he => by have := (hnl e he).1; omega)
        have hb3 : Below W0.heap.size W0 (w2.setCell ⟨B7, 50, none⟩ (.slice A9 m9 c9)) := hb2.setCell (by show W0.heap.size ≤ B7; omega) _
        have h3b : (w2.setCell ⟨B7, 50, none⟩ (.slice A9 m9 c9)).heap[b]? = wr.heap[b]? := (Below.heap_setCell w2 ⟨B7, 50, none⟩ (.slice A9 m9 c9) b (by show b ≠ B7; omega)).trans h2b
        have HA3 := Lib.hid hA3
        have HN3 := Lib.hid hN3
        have Hb3 := Lib.hid hb3
        have HS3 := Lib.hid (Hbs.out _ h3b)
        clear hA3 hN3 hb3 h3b hsz3 hN2 hg2 h2b hb2
        go_simp
        refine hK.out _ _ HS3.out (fun hHeldq => ?_)
        clear hK K
        try simp only [Act.put, List.setIfInBounds_toArray, List.set_cons_zero, List.set_cons_succ]
        refine wpAnyH_done (by kernel_rfl) ?_ _
        clear hHeld
        go_wp2_with fail
        go_roundw
        case rel => exact ⟨k + 1, by omega, by go_num, (.slice A9 m9 c9), HA3, HN3, Hb3⟩
        case measure => simp [Go.RowKit.intOf]; omega
    · obtain rfl : k = n := by omega
      have hq1 : decide ((k : Int) < (k : Int)) = false := by simp
      have htk : L.take k = L := List.take_of_length_le (by rw [HnL.out]; exact Nat.le_refl _)
      rw [htk] at HN
      obtain ⟨An, cn, rfl, _, _, _⟩ := HN.out.slice
      obtain ⟨NL, hNL⟩ : ∃ z, z = ansC 0 false ZB (.slice An (L.map (·.name)).length cn) := ⟨_, rfl⟩
      have HNi := Lib.hid (show (Try.prog.info? 47).map (·.size) = some NL.toArray.size ∧ AZ.toArray.size = NL.toArray.size by rw [hNL, List.size_toArray, ansC_length hz48, HAZ.out]; exact ⟨ansSize, rfl⟩)
      have HNn := Lib.hid (show (Try.prog.info? 47).map (·.size) = some NL.length by rw [hNL, ansC_length hz48]; exact ansSize)
      have HNc := Lib.hid (show NL.toArray.all (·.oneCell') = true by rw [hNL, HZB.out]; exact ansC_one rfl)
      have hAB : Arr wr B7 47 NL := by rw [hNL]; exact HA.out
      have hBg : B7 ≠ g + 1 := by have := HB7.out; omega
      have HAn5 := Lib.hid (show Arr (wr.drewN 1) (g + 1) 47 AZ from HAn.out.up (Below.dN Hb.out 1))
      have Hset := Lib.hid (HAn5.out.setRow NL)
      have Hend := Lib.hid (Hfin.out (wr.drewN 1) (Below.dN Hb.out 1) _ _ _ _ (HV0.out.grow (Below.dN Hb.out 1)) NL)
      have HNL := Lib.hid hNL
      have HNw := Lib.hid (show NmsAt ((wr.drewN 1).setRow (g + 1) NL.toArray) w.heap.size (.slice An (L.map (·.name)).length cn) (L.map (·.name)) from nms_up (HN.out.other fun j hj => setRow_other (wr.drewN 1) (g + 1) j NL.toArray (by have := HB7.out; omega)) (by have := HB7.out; have := Hb1.out.size; omega))
      clear hNL
      go_upto_region 14 with fail
      refine wp_region_held_drew (S := (fun w' => Arr w' B7 47 NL)) (by kernel_rfl) hAB (fun hHeld => ?_)
      refine anyH_take (i := 0) (v := .slice A k c) (some 64) rfl rfl (by kernel_rfl) (by kernel_rfl) (by kernel_rfl) (fun _ _ _ h => h) (Or.inl ⟨by rfl, fun w' hw => by (go_simp)⟩) (by assumption) ?_
      simp only [Act.put, List.setIfInBounds_toArray, List.set_cons_zero, List.set_cons_succ]
      refine anyH_take (i := 1) (some 65) rfl rfl (by kernel_rfl) (by kernel_rfl) (by kernel_rfl) (fun _ _ _ h => h) (yieldsIf_load_mid (by rfl) 47 (.tmp 7) rfl B7 0 rfl NL _ (fun w' h => (h).range) Try.underlying47 rfl HNn.out) (by assumption) ?_
      simp only [Act.put, List.setIfInBounds_toArray, List.set_cons_zero, List.set_cons_succ]
      refine anyH_take (i := 2) (v := .slice A k c) (some 4) rfl rfl (by kernel_rfl) (by kernel_rfl) (by kernel_rfl) (fun _ _ _ h => h) (Or.inl ⟨by rfl, fun w' hw => by (go_simp)⟩) (by assumption) ?_
      simp only [Act.put, List.setIfInBounds_toArray, List.set_cons_zero, List.set_cons_succ]
      refine wpAnyH_ready (rs := [3]) (by kernel_rfl) (by simp) ?_
      refine AllReadyH.cons rfl (fun K hK => ?_) AllReadyH.nil
      rw [if_pos (by rfl)]
      refine wp_store_row_to rfl _ _ _ rfl (g + 1) NL.toArray rfl rfl 47 AZ.toArray HAn5.out HNi.out.1 HNi.out.2 HNc.out ?_
      refine hK.out _ _ (Arr.rowOther (show Arr (World.drewN _ 1) _ _ _ from hAB) hBg _) (fun hHeldq => ?_)
      clear hK K
      try simp only [Act.put, List.setIfInBounds_toArray, List.set_cons_zero, List.set_cons_succ]
      refine wpAnyH_done (by kernel_rfl) ?_ _
      go_wp2_with fail
      (try simp only [Exit.inBlock, Exit.then])
      exact bodyPost_ret (v := .tuple #[.slice A k c, .agg NL.toArray]) (results_tc (by rfl) _ _ (g + 1) 47 NL.toArray (0, 0) _ (by rfl) _ (by rfl) Hset.out Try.underlying47 rfl HNi.out.1) rfl ⟨_, _, _, _, by rw [Hr.out, HNL.out, HZB.out]; rfl, by rw [Hr.out]; exact Hend.out.1, by rw [Hr.out]; exact HNw.out, Hend.out.2⟩

end Go.Proofs.Ytcajhndhjlfmaaa

namespace Go.Proofs.Ytcajhndhjlfmaaa
open Go.RowKit
set_option linter.unusedVariables false
set_option linter.unusedSimpArgs false
set_option maxRecDepth 100000

set_option maxHeartbeats 32000000 in
theorem rdo_delete (A : Option Addr) (n c : Nat) (L : List Vol) (o : Op15) (ho : OpOk o) (OL : List Value) (hOL : OL = opC o) (w : World) (G : Nat → Prop) (h : VSl w G A n c L) (hG : ∀ b, G b → b < w.heap.size) (hl : L.length ≤ 100000) (hrise : RiseV L) (hok : ∀ v ∈ L, ImgOk v) (h1 : o.kind = 2) (v : Vol) (hf : findV L o.name = some v) :
    Calls Try.prog 15 #[.slice A n c, .agg OL.toArray] w fun e w' => RDoPost o w G L e w' := by
  obtain ⟨hk0, hk1, hk2, hk3, hk4⟩ := opC_at hOL
  obtain ⟨W1, hW1⟩ : ∃ z, z = w.alloc (.cells OL.toArray 44) := ⟨_, rfl⟩
  have hb1 : Below w.heap.size w W1 := by rw [hW1]; exact (Below.refl _ _).alloc (Nat.le_refl _) _
  have hA1 : Arr W1 w.heap.size 44 OL := by rw [hW1]; exact Arr.new w _ _
  have hs1 : W1.heap.size = w.heap.size + 1 := by rw [hW1]; simp
  obtain ⟨AZ, hAZ⟩ : ∃ z, z = ansZ := ⟨_, rfl⟩
  obtain ⟨W0, hW0⟩ : ∃ z, z = W1.alloc (.cells AZ.toArray 47) := ⟨_, rfl⟩
  have hAn : Arr W0 (w.heap.size + 1) 47 AZ := by rw [hW0, ← hs1]; exact Arr.new W1 _ _
  have hb0 : Below W1.heap.size W1 W0 := by rw [hW0]; exact (Below.refl _ _).alloc (Nat.le_refl _) _
  have HWx : Hid (W0 = (w.alloc (.cells OL.toArray 44)).alloc (.cells ansZ.toArray 47)) := Lib.hid (by rw [hW0, hW1, hAZ])
  replace hA1 := hA1.up hb0
  replace hb1 := hb1.trans (hb0.mono hb1.size)
  obtain ⟨g, hg⟩ : ∃ z, z = w.heap.size := ⟨_, rfl⟩
  rw [← hg] at hA1 hAn
  have hgl : w.heap.size ≤ g + 1 := by omega
  have hg1 := hAn.lt
  obtain ⟨nm, hnm⟩ : ∃ z, z = o.name := ⟨_, rfl⟩
  obtain ⟨ot, hot⟩ : ∃ z, z = o.other := ⟨_, rfl⟩
  obtain ⟨kd, hkd⟩ : ∃ z, z = o.kind := ⟨_, rfl⟩
  obtain ⟨qt, hqt⟩ : ∃ z, z = o.quota := ⟨_, rfl⟩
  obtain ⟨nu, hnu⟩ : ∃ z, z = o.num := ⟨_, rfl⟩
  have hsz := ho.n1
  have hsz2 := ho.n2
  have hkr := ho.i3
  rw [← hkd] at hkr
  rw [← hnm] at hk1 hsz
  rw [← hot] at hk2 hsz2
  rw [← hkd] at hk0
  rw [← hqt] at hk4
  rw [← hnu] at hk3
  have hc0 : W0.cell? ⟨g, 0, none⟩ = some (.int .i64 kd) := by rw [hA1.cell]; exact hk0
  have hc1 : W0.cell? ⟨g, 1, none⟩ = some (.string nm) := by rw [hA1.cell]; exact hk1
  have hc2 : W0.cell? ⟨g, 2, none⟩ = some (.string ot) := by rw [hA1.cell]; exact hk2
  have hc3 : W0.cell? ⟨g, 3, none⟩ = some (.int .i64 nu) := by rw [hA1.cell]; exact hk3
  have hc4 : W0.cell? ⟨g, 4, none⟩ = some (.int .i64 qt) := by rw [hA1.cell]; exact hk4
  have HAi := Lib.hid (fun (k : Int) (AL : List Value) (h : AL = ansC k false (Lib.byteCells zB) nilS) => show ((Try.prog.info? 47).map (·.size) = some AL.toArray.size ∧ AZ.toArray.size = AL.toArray.size) ∧ AL.toArray.all (·.oneCell') = true ∧ Try.prog.built 47 [(0, .int .i64 k)] = some AL.toArray by
    subst h
    rw [List.size_toArray, List.size_toArray, ansC_length (by simp [Lib.byteCells, zB]), hAZ]
    exact ⟨⟨ansSize, rfl⟩, ansC_one rfl, ans_b0 k⟩)
  have HAn := Lib.hid hAn
  have HA1 := Lib.hid hA1
  have Hb1 := Lib.hid hb1
  have Ho := Lib.hid ho
  have HOL := Lib.hid hOL
  have HV0 := Lib.hid (h.below hb1)
  have Hf := Lib.hid ((h.below hb1).find nm hsz)
  have HV := Lib.hid h
  have HG := Lib.hid hG
  have HG0 := Lib.hid (show ∀ b, G b → b < W0.heap.size from fun b hb => Nat.lt_of_lt_of_le (hG b hb) hb1.size)
  have Hg := Lib.hid hg
  have Hl := Lib.hid hl
  have Hrise := Lib.hid hrise
  have Hok := Lib.hid hok
  have Hkd := Lib.hid hkd
  have Hnm := Lib.hid hnm
  have Hnu := Lib.hid hnu
  have Hqt := Lib.hid hqt
  have Hot := Lib.hid hot
  have Hfin := Lib.hid (fun (w5 : World) (hb : Below W0.heap.size W0 w5) (A' : Option Addr) (n' c' : Nat) (L' : List Vol) (hv : VSl w5 (fun b => G b ∨ W0.heap.size ≤ b) A' n' c' L') (AL : List Value) => fin_vs hb1 hgl (by omega) hG hb hv AL)
  have Hdo := Lib.hid (show doL L o = (if kd = 1 then ePair (createL L nm qt) else if kd = 2 then ePair (deleteL L nm) else if kd = 3 then ePair (writeL L nm nu o.blk) else if kd = 4 then ePair (trimL L nm nu) else if kd = 5 then (L, readL L nm nu) else if kd = 6 then ePair (copyL L nm ot (quotaL L nm) true) else if kd = 7 then ePair (copyL L nm ot qt false) else if kd = 8 then (L, ⟨0, false, zB, L.map (·.name)⟩) else (L, aE 1)) by rw [hkd, hnm, hot, hqt, hnu]; rfl)
  have HAZ := Lib.hid hAZ
  clear hnm hot hkd hqt hnu hk0 hk1 hk2 hk3 hk4 hOL ho h hl hb1 hA1 hb0 hs1 hW0 hW1 hAn hg hG hrise hok hgl hAZ
  have hvn : v.name = nm := by
    rw [Hnm.out]
    have := List.find?_some hf
    exact ba_ext (of_decide_eq_true this)
  obtain ⟨i, hfi, hLi⟩ := findI_at (show findV L nm = some v by rw [Hnm.out]; exact hf)
  rw [hfi] at Hf
  have hneg : decide (((i : Nat) : Int) < 0) = false := by simp
  have Hr := Lib.hid (show doL L o = (L.take i ++ L.drop (i + 1), aE 0) by
    unfold doL ePair deleteL
    rw [if_neg (by omega), if_pos h1, hasV_find, hf]
    simp only [Option.isSome_some, if_true]
    rw [← Hnm.out, delV_at Hrise.out hLi hvn])
  have hiL : i < L.length := (List.getElem?_eq_some_iff.1 hLi).1
  obtain ⟨xs, hxs, hn, hc, hm, hV, hflat⟩ := HV0.out
  have hin : i < n := by rw [← hn, ← List.length_map (f := (·.v)), hxs]; exact hiL
  rcases hflat with ⟨rfl, rfl⟩ | ⟨b, off, rfl⟩
  · omega
  have hm' : c ≤ 9223372036854775807 := by unfold maxLen at hm; omega
  have hln : n ≤ 100000 := by have := Hl.out; rw [← hxs, List.length_map, hn] at this; exact this
  have Hsl1 := Lib.hid (show 0 ≤ (i : Int) ∧ (i : Int) ≤ (c : Int) by omega)
  have Hsl3 := Lib.hid (show 0 ≤ (i : Int) + 1 ∧ (i : Int) + 1 ≤ (n : Int) by omega)
  have Hwrap := Lib.hid (show IntKind.i64.wrap ((i : Int) + 1) = (i : Int) + 1 from IntWalk.i64_in _ (by omega))
  obtain ⟨A2, hA2⟩ : ∃ z, z = (if c = i + 1 then (some ⟨b, off, none⟩ : Option Addr) else some ⟨b, off + (i + 1) * 4, none⟩) := ⟨_, rfl⟩
  have hVt : VsAt W0 G A2 (xs.drop (i + 1)) := by rw [hA2]; exact hV.tail (by omega)
  have HVk := Lib.hid (hV.take i)
  have HVt := Lib.hid hVt
  have HA2 := Lib.hid hA2
  have Htk := Lib.hid (show (xs.take i).length = i by rw [List.length_take, hn]; omega)
  have Hdk := Lib.hid (show (xs.drop (i + 1)).length = n - (i + 1) by rw [List.length_drop, hn])
  have Hxs := Lib.hid hxs
  obtain ⟨AL, hAL⟩ : ∃ z, z = ansC 0 false (Lib.byteCells zB) nilS := ⟨_, rfl⟩
  obtain ⟨⟨ha1, ha2⟩, ha3, ha4⟩ := HAi.out 0 AL hAL
  have Ha1 := Lib.hid ha1
  have Ha2 := Lib.hid ha2
  have Ha3 := Lib.hid ha3
  have Ha4 := Lib.hid (ans_b AL hAL)
  have HAL := Lib.hid hAL
  rw [← Hkd.out] at h1
  have hn1 : ¬ kd = 1 := by omega
  have hb1 : (kd == 1) = false := by simpa using hn1
  have hn8 : ¬ kd = 8 := by omega
  have hb8 : (kd == 8) = false := by simpa using hn8
  have hn6 : ¬ kd = 6 := by omega
  have hb6 : (kd == 6) = false := by simpa using hn6
  have hn7 : ¬ kd = 7 := by omega
  have hb7 : (kd == 7) = false := by simpa using hn7
  have hb2 : (kd == 2) = true := by simpa using h1
  have hdl : decide (kd < 1) = false := by simp; omega
  have hdh : decide (kd > 8) = false := by simp; omega
  clear hvn hfi hLi hf hiL hxs hn hV hVt hA2 hAL ha1 ha2 ha3 ha4 hm
  go_enter Try.func15, Try.ntmps15
  go_upto_region 1 with fail
  change Code.wp _ _ _ _ ((w.alloc (.cells OL.toArray 44)).alloc (.cells ansZ.toArray 47))
  rw [← HWx.out, ← Hg.out]
  clear HWx
  go_wp2_with fail
  refine Calls.mono Hf.out ?_
  rintro e w' ⟨rfl, rfl⟩
  clear Hf
  go_upto_region 35 with fail
  clear hc0 hc1 hc2 hc3 hc4
  refine wp_region_held_drew (S := (fun _ => True)) (by kernel_rfl) trivial (fun hHeld => ?_)
  refine anyH_take (i := 1) (v := .slice (some ⟨b, off, none⟩) n c) (some 147) rfl rfl (by kernel_rfl) (by kernel_rfl) (by kernel_rfl) (fun _ _ _ h => h) (Or.inl ⟨by rfl, fun w' hw => by (go_simp)⟩) (by assumption) ?_
  simp only [Act.put, List.setIfInBounds_toArray, List.set_cons_zero, List.set_cons_succ]
  refine anyH_take (i := 2) (v := .int .i64 (i : Nat)) (some 148) rfl rfl (by kernel_rfl) (by kernel_rfl) (by kernel_rfl) (fun _ _ _ h => h) (Or.inl ⟨by rfl, fun w' hw => by (go_simp)⟩) (by assumption) ?_
  simp only [Act.put, List.setIfInBounds_toArray, List.set_cons_zero, List.set_cons_succ]
  refine anyH_take (i := 3) (v := .slice (some ⟨b, off, none⟩) i c) (some 149) rfl rfl (by kernel_rfl) (by kernel_rfl) (by kernel_rfl) (fun _ _ _ h => h) (Or.inl ⟨by rfl, fun w' hw => by (go_simp; intro hcx; omega)⟩) (by assumption) ?_
  simp only [Act.put, List.setIfInBounds_toArray, List.set_cons_zero, List.set_cons_succ]
  refine anyH_take (i := 5) (v := .slice (some ⟨b, off, none⟩) n c) (some 151) rfl rfl (by kernel_rfl) (by kernel_rfl) (by kernel_rfl) (fun _ _ _ h => h) (Or.inl ⟨by rfl, fun w' hw => by (go_simp)⟩) (by assumption) ?_
  simp only [Act.put, List.setIfInBounds_toArray, List.set_cons_zero, List.set_cons_succ]
  refine anyH_take (i := 6) (v := .int .i64 (i : Nat)) (some 152) rfl rfl (by kernel_rfl) (by kernel_rfl) (by kernel_rfl) (fun _ _ _ h => h) (Or.inl ⟨by rfl, fun w' hw => by (go_simp)⟩) (by assumption) ?_
  simp only [Act.put, List.setIfInBounds_toArray, List.set_cons_zero, List.set_cons_succ]
  refine anyH_take (i := 7) (v := .int .i64 ((i : Int) + 1)) (some 153) rfl rfl (by kernel_rfl) (by kernel_rfl) (by kernel_rfl) (fun _ _ _ h => h) (Or.inl ⟨by rfl, fun w' hw => by (have hwp := Hwrap.out; go_simp)⟩) (by assumption) ?_
  simp only [Act.put, List.setIfInBounds_toArray, List.set_cons_zero, List.set_cons_succ]
  refine anyH_take (i := 8) (v := .slice A2 (n - (i + 1)) (c - (i + 1))) (some 154) rfl rfl (by kernel_rfl) (by kernel_rfl) (by kernel_rfl) (fun _ _ _ h => h) (Or.inl ⟨by rfl, fun w' hw => by (go_simp; rw [if_pos Hsl3.out, ← HA2.out])⟩) (by assumption) ?_
  simp only [Act.put, List.setIfInBounds_toArray, List.set_cons_zero, List.set_cons_succ]
  refine anyH_take (i := 10) (some 156) rfl rfl (by kernel_rfl) (by kernel_rfl) (by kernel_rfl) (fun _ _ _ h => h) (yieldsIf_build (by rfl) 47 _ rfl [] rfl AL.toArray Ha4.out) (by assumption) ?_
  simp only [Act.put, List.setIfInBounds_toArray, List.set_cons_zero, List.set_cons_succ]
  refine wpAnyH_ready (rs := [0]) (by kernel_rfl) (by simp) ?_
  refine AllReadyH.cons rfl (fun K hK => ?_) AllReadyH.nil
  go_simp
  refine hK.out _ _ trivial (fun hHeldy => ?_)
  clear hK K
  try simp only [Act.put, List.setIfInBounds_toArray, List.set_cons_zero, List.set_cons_succ]
  change wpAnyH _ _ _ _ _ _ _ _ ((W0.drewN 1).alloc (.cells #[] 106))
  have hR0 : VRow ((W0.drewN 1).alloc (.cells #[] 106)) W0.heap.size G (.slice (some ⟨W0.heap.size, 0, none⟩) 0 0) [] := VRow.empty (W0.drewN 1) W0.heap.size G (Nat.le_refl _)
  have hb0 : Below W0.heap.size W0 ((W0.drewN 1).alloc (.cells #[] 106)) := (Below.dN (Below.refl _ W0) 1).alloc (Nat.le_refl _) _
  obtain ⟨w1, hw1⟩ : ∃ z, z = (W0.drewN 1).alloc (.cells #[] 106) := ⟨_, rfl⟩
  rw [← hw1] at hR0 hb0 ⊢
  clear hw1
  have hV1 := HVk.out.below hb0
  refine wpAnyH_ready (rs := [4]) (by kernel_rfl) (by simp) ?_
  refine AllReadyH.cons rfl (fun K hK => ?_) AllReadyH.nil
  rw [if_pos (by rfl)]
  refine wp_append_vls (some 150) rfl _ _ rfl hR0 hb0.size rfl _ _ _ rfl (xs.take i) Htk.out hV1 HG0.out (by simp only [List.length_nil]; omega) ?_
  intro v2 w2 hR2 hg2
  rw [List.nil_append] at hR2
  simp only [Act.put, List.setIfInBounds_toArray, List.set_cons_zero, List.set_cons_succ]
  refine hK.out _ _ trivial (fun hHeldz => ?_)
  clear hK K
  try simp only [Act.put, List.setIfInBounds_toArray, List.set_cons_zero, List.set_cons_succ]
  have hbb2 : Below W0.heap.size W0 w2 := hb0.grown hg2 hb0.size fun g hg => (hR0.lt g hg).1
  have hV2 := HVt.out.below hbb2
  clear hg2 hR0 hV1
  refine wpAnyH_ready (rs := [9]) (by kernel_rfl) (by simp) ?_
  refine AllReadyH.cons rfl (fun K hK => ?_) AllReadyH.nil
  rw [if_pos (by rfl)]
  refine wp_append_vls (some 155) rfl _ _ rfl hR2 hbb2.size rfl _ _ _ rfl (xs.drop (i + 1)) Hdk.out hV2 HG0.out (by rw [Htk.out]; omega) ?_
  intro v3 w5 hR3 hg3
  simp only [Act.put, List.setIfInBounds_toArray, List.set_cons_zero, List.set_cons_succ]
  refine hK.out _ _ trivial (fun hHeldu => ?_)
  clear hK K
  try simp only [Act.put, List.setIfInBounds_toArray, List.set_cons_zero, List.set_cons_succ]
  have hb5 : Below W0.heap.size W0 w5 := hbb2.grown hg3 hbb2.size fun g hg => (hR2.lt g hg).1
  clear hg3 hR2 hV2
  obtain ⟨A1, c1, hv3, hvs⟩ := hR3.vsl
  subst hv3
  rw [List.map_append, List.map_take, List.map_drop, Hxs.out] at hvs
  have Hend := Lib.hid (Hfin.out w5 hb5 _ _ _ _ hvs AL)
  have hAn5 : Arr w5 (g + 1) 47 AZ := HAn.out.up hb5
  have Hset := Lib.hid (hAn5.setRow AL)
  have HAn5 := Lib.hid hAn5
  clear hvs hR3 hb5 hAn5 hbb2 hb0
  refine anyH_take (i := 11) (v := .slice A1 (xs.take i ++ xs.drop (i + 1)).length c1) (some 4) rfl rfl (by kernel_rfl) (by kernel_rfl) (by kernel_rfl) (fun _ _ _ h => h) (Or.inl ⟨by rfl, fun w' hw => by rfl⟩) (by assumption) ?_
  simp only [Act.put, List.setIfInBounds_toArray, List.set_cons_zero, List.set_cons_succ]
  refine wpAnyH_ready (rs := [12]) (by kernel_rfl) (by simp) ?_
  refine AllReadyH.cons rfl (fun K hK => ?_) AllReadyH.nil
  rw [if_pos (by rfl)]
  refine wp_store_row_to rfl _ _ _ rfl (g + 1) AL.toArray rfl rfl 47 AZ.toArray HAn5.out Ha1.out Ha2.out Ha3.out ?_
  refine hK.out _ _ trivial (fun hHeldq => ?_)
  clear hK K
  try simp only [Act.put, List.setIfInBounds_toArray, List.set_cons_zero, List.set_cons_succ]
  refine wpAnyH_done (by kernel_rfl) ?_ _
  go_wp2_with fail
  (try simp only [Exit.inBlock, Exit.then])
  exact bodyPost_ret (v := .tuple #[.slice A1 (xs.take i ++ xs.drop (i + 1)).length c1, .agg AL.toArray]) (results_tc (by rfl) _ _ (g + 1) 47 AL.toArray (0, 0) _ (by rfl) _ (by rfl) Hset.out Try.underlying47 rfl Ha1.out) rfl (rdo_post Hr.out HAL.out Hend.out.1 Hend.out.2)
end Go.Proofs.Ytcajhndhjlfmaaa

namespace Go.Proofs.Ytcajhndhjlfmaaa
open Go.RowKit
set_option linter.unusedVariables false
set_option linter.unusedSimpArgs false
set_option maxRecDepth 100000

set_option maxHeartbeats 32000000 in
theorem rdo_cperr (A : Option Addr) (n c : Nat) (L : List Vol) (o : Op15) (ho : OpOk o) (OL : List Value) (hOL : OL = opC o) (w : World) (G : Nat → Prop) (h : VSl w G A n c L) (hG : ∀ b, G b → b < w.heap.size) (hl : L.length ≤ 100000) (hrise : RiseV L) (hok : ∀ v ∈ L, ImgOk v) (h1 : o.kind = 6 ∨ o.kind = 7) (v : Vol) (hf : findV L o.name = some v) (e8 : Int) (he8 : e8 = if (namedB o.other.data.toList && quotaB (cpQ L o)) = false then 1 else if hasV L o.other = true then 6 else if cpQ L o < v.cells.length then 8 else 0) (hne : e8 ≠ 0) :
    Calls Try.prog 15 #[.slice A n c, .agg OL.toArray] w fun e w' => RDoPost o w G L e w' := by
  obtain ⟨hk0, hk1, hk2, hk3, hk4⟩ := opC_at hOL
  obtain ⟨W1, hW1⟩ : ∃ z, z = w.alloc (.cells OL.toArray 44) := ⟨_, rfl⟩
  have hb1 : Below w.heap.size w W1 := by rw [hW1]; exact (Below.refl _ _).alloc (Nat.le_refl _) _
  have hA1 : Arr W1 w.heap.size 44 OL := by rw [hW1]; exact Arr.new w _ _
  have hs1 : W1.heap.size = w.heap.size + 1 := by rw [hW1]; simp
  obtain ⟨AZ, hAZ⟩ : ∃ z, z = ansZ := ⟨_, rfl⟩
  obtain ⟨W0, hW0⟩ : ∃ z, z = W1.alloc (.cells AZ.toArray 47) := ⟨_, rfl⟩
  have hAn : Arr W0 (w.heap.size + 1) 47 AZ := by rw [hW0, ← hs1]; exact Arr.new W1 _ _
  have hb0 : Below W1.heap.size W1 W0 := by rw [hW0]; exact (Below.refl _ _).alloc (Nat.le_refl _) _
  have HWx : Hid (W0 = (w.alloc (.cells OL.toArray 44)).alloc (.cells ansZ.toArray 47)) := Lib.hid (by rw [hW0, hW1, hAZ])
  replace hA1 := hA1.up hb0
  replace hb1 := hb1.trans (hb0.mono hb1.size)
  obtain ⟨g, hg⟩ : ∃ z, z = w.heap.size := ⟨_, rfl⟩
  rw [← hg] at hA1 hAn
  have hgl : w.heap.size ≤ g + 1 := by omega
  have hg1 := hAn.lt
  obtain ⟨nm, hnm⟩ : ∃ z, z = o.name := ⟨_, rfl⟩
  obtain ⟨ot, hot⟩ : ∃ z, z = o.other := ⟨_, rfl⟩
  obtain ⟨kd, hkd⟩ : ∃ z, z = o.kind := ⟨_, rfl⟩
  obtain ⟨qt, hqt⟩ : ∃ z, z = o.quota := ⟨_, rfl⟩
  obtain ⟨nu, hnu⟩ : ∃ z, z = o.num := ⟨_, rfl⟩
  have hsz := ho.n1
  have hsz2 := ho.n2
  have hkr := ho.i3
  rw [← hkd] at hkr
  rw [← hnm] at hk1 hsz
  rw [← hot] at hk2 hsz2
  rw [← hkd] at hk0
  rw [← hqt] at hk4
  rw [← hnu] at hk3
  have hc0 : W0.cell? ⟨g, 0, none⟩ = some (.int .i64 kd) := by rw [hA1.cell]; exact hk0
  have hc1 : W0.cell? ⟨g, 1, none⟩ = some (.string nm) := by rw [hA1.cell]; exact hk1
  have hc2 : W0.cell? ⟨g, 2, none⟩ = some (.string ot) := by rw [hA1.cell]; exact hk2
  have hc3 : W0.cell? ⟨g, 3, none⟩ = some (.int .i64 nu) := by rw [hA1.cell]; exact hk3
  have hc4 : W0.cell? ⟨g, 4, none⟩ = some (.int .i64 qt) := by rw [hA1.cell]; exact hk4
  have HAi := Lib.hid (fun (k : Int) (AL : List Value) (h : AL = ansC k false (Lib.byteCells zB) nilS) => show ((Try.prog.info? 47).map (·.size) = some AL.toArray.size ∧ AZ.toArray.size = AL.toArray.size) ∧ AL.toArray.all (·.oneCell') = true ∧ Try.prog.built 47 [(0, .int .i64 k)] = some AL.toArray by
    subst h
    rw [List.size_toArray, List.size_toArray, ansC_length (by simp [Lib.byteCells, zB]), hAZ]
    exact ⟨⟨ansSize, rfl⟩, ansC_one rfl, ans_b0 k⟩)
  have HAn := Lib.hid hAn
  have HA1 := Lib.hid hA1
  have Hb1 := Lib.hid hb1
  have Ho := Lib.hid ho
  have HOL := Lib.hid hOL
  have HV0 := Lib.hid (h.below hb1)
  have Hf := Lib.hid ((h.below hb1).find nm hsz)
  have HV := Lib.hid h
  have HG := Lib.hid hG
  have HG0 := Lib.hid (show ∀ b, G b → b < W0.heap.size from fun b hb => Nat.lt_of_lt_of_le (hG b hb) hb1.size)
  have Hg := Lib.hid hg
  have Hl := Lib.hid hl
  have Hrise := Lib.hid hrise
  have Hok := Lib.hid hok
  have Hkd := Lib.hid hkd
  have Hnm := Lib.hid hnm
  have Hnu := Lib.hid hnu
  have Hqt := Lib.hid hqt
  have Hot := Lib.hid hot
  have Hfin := Lib.hid (fun (w5 : World) (hb : Below W0.heap.size W0 w5) (A' : Option Addr) (n' c' : Nat) (L' : List Vol) (hv : VSl w5 (fun b => G b ∨ W0.heap.size ≤ b) A' n' c' L') (AL : List Value) => fin_vs hb1 hgl (by omega) hG hb hv AL)
  have Hdo := Lib.hid (show doL L o = (if kd = 1 then ePair (createL L nm qt) else if kd = 2 then ePair (deleteL L nm) else if kd = 3 then ePair (writeL L nm nu o.blk) else if kd = 4 then ePair (trimL L nm nu) else if kd = 5 then (L, readL L nm nu) else if kd = 6 then ePair (copyL L nm ot (quotaL L nm) true) else if kd = 7 then ePair (copyL L nm ot qt false) else if kd = 8 then (L, ⟨0, false, zB, L.map (·.name)⟩) else (L, aE 1)) by rw [hkd, hnm, hot, hqt, hnu]; rfl)
  have HAZ := Lib.hid hAZ
  clear hnm hot hkd hqt hnu hk0 hk1 hk2 hk3 hk4 hOL ho h hl hb1 hA1 hb0 hs1 hW0 hW1 hAn hg hG hrise hok hgl hAZ
  have Hne := Lib.hid hne
  obtain ⟨q, hq⟩ : ∃ z, cpQ L o = z := ⟨_, rfl⟩
  rw [hq, ← Hot.out] at he8
  obtain ⟨mb, hmb⟩ : ∃ z, (namedB ot.data.toList && quotaB q) = z := ⟨_, rfl⟩
  have Hmay := Lib.hid (rmay_any ot hsz2 q W0 mb hmb)
  have Hf2 := Lib.hid (HV0.out.find ot hsz2)
  obtain ⟨fj, hfj⟩ : ∃ z, findI L ot = z := ⟨_, rfl⟩
  rw [hfj] at Hf2
  obtain ⟨i, hfi, hLi⟩ := findI_at (show findV L nm = some v by rw [Hnm.out]; exact hf)
  rw [hfi] at Hf
  have hneg : decide (((i : Nat) : Int) < 0) = false := by simp
  have hneg2 : decide (((i : Nat) : Int) ≥ 0) = true := by simp
  obtain ⟨b, off, rfl, hin, Ac, cc, a0, a1, a2, a3, hvx, hrow⟩ := HV0.out.at_ hLi
  have hcn : n ≤ c ∧ c ≤ 9223372036854775807 ∧ n ≤ 100000 := by
    obtain ⟨xs, hx, hn', hc, hm, _⟩ := HV.out
    have hl := Hl.out
    unfold maxLen at hm
    rw [← hx, List.length_map, hn'] at hl
    exact ⟨hc, by omega, hl⟩
  have hq6 : kd = 6 → q = ((v.quota : Nat) : Int) := fun e => by rw [← hq]; unfold cpQ quotaL; rw [if_pos (by rw [← Hkd.out]; exact e), hf]
  have hq7 : kd = 7 → q = qt := fun e => by rw [← hq]; unfold cpQ; rw [if_neg (by rw [← Hkd.out]; omega), Hqt.out]
  have Hvx := Lib.hid hvx
  have Hrow := Lib.hid hrow
  clear a0 a2 hvx hrow
  rw [← Hkd.out] at h1
  have hn1 : ¬ kd = 1 := by omega
  have hb1 : (kd == 1) = false := by simpa using hn1
  have hn8 : ¬ kd = 8 := by omega
  have hb8 : (kd == 8) = false := by simpa using hn8
  have Hr := Lib.hid (show doL L o = (L, aE e8) by
    rw [doL_copy (by rw [← Hkd.out]; exact h1), hq]
    unfold copyL ePair
    rw [← Hot.out, hmb, hf]
    rw [hmb] at he8
    cases mb with
    | false => rw [if_pos rfl] at he8; rw [if_pos rfl, he8]
    | true =>
      rw [if_neg (by simp)] at he8
      rw [if_neg (by simp)]
      dsimp only
      by_cases hx : hasV L ot = true
      · rw [if_pos hx] at he8 ⊢; rw [he8]
      · rw [if_neg hx] at he8 ⊢
        by_cases hy : q < v.cells.length
        · rw [if_pos hy] at he8 ⊢; rw [he8]
        · rw [if_neg hy] at he8; exact absurd he8 hne)
  rw [hmb] at he8
  have hx1 : hasV L ot = true → 0 ≤ fj := fun e => by obtain ⟨j, hj⟩ := findI_pos e; omega
  have hx2 : ¬ hasV L ot = true → fj = -1 := fun e => by rw [← hfj]; exact findI_has.2 (by simpa using e)
  clear hfi hf hmb hq hfj hLi hne
  rcases h1 with h6 | h7
  · have hb6 : (kd == 6) = true := by simpa using h6
    obtain rfl := hq6 h6
    clear hq6 hq7 h6
    cases mb with
    | false =>
      rw [if_pos rfl] at he8
      subst he8
      go_enter Try.func15, Try.ntmps15
      go_upto_region 1 with fail
      change Code.wp _ _ _ _ ((w.alloc (.cells OL.toArray 44)).alloc (.cells ansZ.toArray 47))
      rw [← HWx.out, ← Hg.out]
      clear HWx
      go_wp2_with fail
      refine Calls.mono Hf.out ?_
      rintro e w' ⟨rfl, rfl⟩
      clear Hf
      go_wp2_with fail
      refine Calls.mono Hmay.out ?_
      rintro e w' ⟨rfl, rfl⟩
      clear Hmay
      obtain ⟨AL, hAL⟩ : ∃ z, z = ansC 1 false (Lib.byteCells zB) nilS := ⟨_, rfl⟩
      obtain ⟨⟨ha1, ha2⟩, ha3, ha4⟩ := HAi.out 1 AL hAL
      have Ha1 := Lib.hid ha1
      have Ha2 := Lib.hid ha2
      have Ha3 := Lib.hid ha3
      have Ha4 := Lib.hid ha4
      have HAL := Lib.hid hAL
      have Hend := Lib.hid (Hfin.out W0 (Below.refl _ _) _ _ _ _ (HV0.out.grow (Below.refl _ _)) AL)
      have HAn5 := Lib.hid (show Arr W0 (g + 1) 47 AZ from HAn.out)
      have Hset := Lib.hid (HAn5.out.setRow AL)
      clear hAL ha1 ha2 ha3 ha4 hc0 hc1 hc2 hc3 hc4
      go_wp2_with (first | (refine wpList_builtV rfl _ _ rfl _ rfl AL.toArray Ha4.out ?_) | (refine wpList_store_row rfl _ _ _ rfl (g + 1) AL.toArray rfl rfl 47 AZ.toArray HAn5.out Ha1.out Ha2.out Ha3.out ?_))
      (try simp only [Exit.inBlock, Exit.then])
      exact bodyPost_ret (v := .tuple #[.slice (some ⟨b, off, none⟩) n c, .agg AL.toArray]) (results_tc (by rfl) _ _ (g + 1) 47 AL.toArray (0, 0) _ (by rfl) _ (by rfl) Hset.out Try.underlying47 rfl Ha1.out) rfl (rdo_post Hr.out HAL.out Hend.out.1 Hend.out.2)
    | true =>
      rw [if_neg (by simp)] at he8
      by_cases hx : hasV L ot = true
      · rw [if_pos hx] at he8
        subst he8
        have hj := hx1 hx
        have hdj : decide (fj ≥ 0) = true := by simpa using hj
        clear hx hx1 hx2 hj
        go_enter Try.func15, Try.ntmps15
        go_upto_region 1 with fail
        change Code.wp _ _ _ _ ((w.alloc (.cells OL.toArray 44)).alloc (.cells ansZ.toArray 47))
        rw [← HWx.out, ← Hg.out]
        clear HWx
        go_wp2_with fail
        refine Calls.mono Hf.out ?_
        rintro e w' ⟨rfl, rfl⟩
        clear Hf
        go_wp2_with fail
        refine Calls.mono Hmay.out ?_
        rintro e w' ⟨rfl, rfl⟩
        clear Hmay
        go_wp2_with fail
        refine Calls.mono Hf2.out ?_
        rintro e w' ⟨rfl, rfl⟩
        clear Hf2
        obtain ⟨AL, hAL⟩ : ∃ z, z = ansC 6 false (Lib.byteCells zB) nilS := ⟨_, rfl⟩
        obtain ⟨⟨ha1, ha2⟩, ha3, ha4⟩ := HAi.out 6 AL hAL
        have Ha1 := Lib.hid ha1
        have Ha2 := Lib.hid ha2
        have Ha3 := Lib.hid ha3
        have Ha4 := Lib.hid ha4
        have HAL := Lib.hid hAL
        have Hend := Lib.hid (Hfin.out W0 (Below.refl _ _) _ _ _ _ (HV0.out.grow (Below.refl _ _)) AL)
        have HAn5 := Lib.hid (show Arr W0 (g + 1) 47 AZ from HAn.out)
        have Hset := Lib.hid (HAn5.out.setRow AL)
        clear hAL ha1 ha2 ha3 ha4 hc0 hc1 hc2 hc3 hc4
        go_wp2_with (first | (refine wpList_builtV rfl _ _ rfl _ rfl AL.toArray Ha4.out ?_) | (refine wpList_store_row rfl _ _ _ rfl (g + 1) AL.toArray rfl rfl 47 AZ.toArray HAn5.out Ha1.out Ha2.out Ha3.out ?_))
        (try simp only [Exit.inBlock, Exit.then])
        exact bodyPost_ret (v := .tuple #[.slice (some ⟨b, off, none⟩) n c, .agg AL.toArray]) (results_tc (by rfl) _ _ (g + 1) 47 AL.toArray (0, 0) _ (by rfl) _ (by rfl) Hset.out Try.underlying47 rfl Ha1.out) rfl (rdo_post Hr.out HAL.out Hend.out.1 Hend.out.2)
      · rw [if_neg hx] at he8
        obtain rfl := hx2 hx
        have hdj : decide ((-1 : Int) ≥ 0) = false := by simp
        by_cases hy : ((v.quota : Nat) : Int) < v.cells.length
        · rw [if_pos hy] at he8
          subst he8
          have hdy : decide ((v.cells.length : Int) > ((v.quota : Nat) : Int)) = true := by simpa using hy
          clear hx hx1 hx2
          go_enter Try.func15, Try.ntmps15
          go_upto_region 1 with fail
          change Code.wp _ _ _ _ ((w.alloc (.cells OL.toArray 44)).alloc (.cells ansZ.toArray 47))
          rw [← HWx.out, ← Hg.out]
          clear HWx
          go_wp2_with fail
          refine Calls.mono Hf.out ?_
          rintro e w' ⟨rfl, rfl⟩
          clear Hf
          go_wp2_with fail
          refine Calls.mono Hmay.out ?_
          rintro e w' ⟨rfl, rfl⟩
          clear Hmay
          go_wp2_with fail
          refine Calls.mono Hf2.out ?_
          rintro e w' ⟨rfl, rfl⟩
          clear Hf2
          obtain ⟨AL, hAL⟩ : ∃ z, z = ansC 8 false (Lib.byteCells zB) nilS := ⟨_, rfl⟩
          obtain ⟨⟨ha1, ha2⟩, ha3, ha4⟩ := HAi.out 8 AL hAL
          have Ha1 := Lib.hid ha1
          have Ha2 := Lib.hid ha2
          have Ha3 := Lib.hid ha3
          have Ha4 := Lib.hid ha4
          have HAL := Lib.hid hAL
          have Hend := Lib.hid (Hfin.out W0 (Below.refl _ _) _ _ _ _ (HV0.out.grow (Below.refl _ _)) AL)
          have HAn5 := Lib.hid (show Arr W0 (g + 1) 47 AZ from HAn.out)
          have Hset := Lib.hid (HAn5.out.setRow AL)
          clear hAL ha1 ha2 ha3 ha4 hc0 hc1 hc2 hc3 hc4
          go_wp2_with (first | (refine wpList_builtV rfl _ _ rfl _ rfl AL.toArray Ha4.out ?_) | (refine wpList_store_row rfl _ _ _ rfl (g + 1) AL.toArray rfl rfl 47 AZ.toArray HAn5.out Ha1.out Ha2.out Ha3.out ?_))
          (try simp only [Exit.inBlock, Exit.then])
          exact bodyPost_ret (v := .tuple #[.slice (some ⟨b, off, none⟩) n c, .agg AL.toArray]) (results_tc (by rfl) _ _ (g + 1) 47 AL.toArray (0, 0) _ (by rfl) _ (by rfl) Hset.out Try.underlying47 rfl Ha1.out) rfl (rdo_post Hr.out HAL.out Hend.out.1 Hend.out.2)
        · rw [if_neg hy] at he8
          exact absurd he8 Hne.out
  · have hb7 : (kd == 7) = true := by simpa using h7
    have hn6 : ¬ kd = 6 := by omega
    have hb6 : (kd == 6) = false := by simpa using hn6
    obtain rfl := hq7 h7
    clear hq6 hq7 h7
    cases mb with
    | false =>
      rw [if_pos rfl] at he8
      subst he8
      go_enter Try.func15, Try.ntmps15
      go_upto_region 1 with fail
      change Code.wp _ _ _ _ ((w.alloc (.cells OL.toArray 44)).alloc (.cells ansZ.toArray 47))
      rw [← HWx.out, ← Hg.out]
      clear HWx
      go_wp2_with fail
      refine Calls.mono Hf.out ?_
      rintro e w' ⟨rfl, rfl⟩
      clear Hf
      go_wp2_with fail
      refine Calls.mono Hmay.out ?_
      rintro e w' ⟨rfl, rfl⟩
      clear Hmay
      obtain ⟨AL, hAL⟩ : ∃ z, z = ansC 1 false (Lib.byteCells zB) nilS := ⟨_, rfl⟩
      obtain ⟨⟨ha1, ha2⟩, ha3, ha4⟩ := HAi.out 1 AL hAL
      have Ha1 := Lib.hid ha1
      have Ha2 := Lib.hid ha2
      have Ha3 := Lib.hid ha3
      have Ha4 := Lib.hid ha4
      have HAL := Lib.hid hAL
      have Hend := Lib.hid (Hfin.out W0 (Below.refl _ _) _ _ _ _ (HV0.out.grow (Below.refl _ _)) AL)
      have HAn5 := Lib.hid (show Arr W0 (g + 1) 47 AZ from HAn.out)
      have Hset := Lib.hid (HAn5.out.setRow AL)
      clear hAL ha1 ha2 ha3 ha4 hc0 hc1 hc2 hc3 hc4
      go_wp2_with (first | (refine wpList_builtV rfl _ _ rfl _ rfl AL.toArray Ha4.out ?_) | (refine wpList_store_row rfl _ _ _ rfl (g + 1) AL.toArray rfl rfl 47 AZ.toArray HAn5.out Ha1.out Ha2.out Ha3.out ?_))
      (try simp only [Exit.inBlock, Exit.then])
      exact bodyPost_ret (v := .tuple #[.slice (some ⟨b, off, none⟩) n c, .agg AL.toArray]) (results_tc (by rfl) _ _ (g + 1) 47 AL.toArray (0, 0) _ (by rfl) _ (by rfl) Hset.out Try.underlying47 rfl Ha1.out) rfl (rdo_post Hr.out HAL.out Hend.out.1 Hend.out.2)
    | true =>
      rw [if_neg (by simp)] at he8
      by_cases hx : hasV L ot = true
      · rw [if_pos hx] at he8
        subst he8
        have hj := hx1 hx
        have hdj : decide (fj ≥ 0) = true := by simpa using hj
        clear hx hx1 hx2 hj
        go_enter Try.func15, Try.ntmps15
        go_upto_region 1 with fail
        change Code.wp _ _ _ _ ((w.alloc (.cells OL.toArray 44)).alloc (.cells ansZ.toArray 47))
        rw [← HWx.out, ← Hg.out]
        clear HWx
        go_wp2_with fail
        refine Calls.mono Hf.out ?_
        rintro e w' ⟨rfl, rfl⟩
        clear Hf
        go_wp2_with fail
        refine Calls.mono Hmay.out ?_
        rintro e w' ⟨rfl, rfl⟩
        clear Hmay
        go_wp2_with fail
        refine Calls.mono Hf2.out ?_
        rintro e w' ⟨rfl, rfl⟩
        clear Hf2
        obtain ⟨AL, hAL⟩ : ∃ z, z = ansC 6 false (Lib.byteCells zB) nilS := ⟨_, rfl⟩
        obtain ⟨⟨ha1, ha2⟩, ha3, ha4⟩ := HAi.out 6 AL hAL
        have Ha1 := Lib.hid ha1
        have Ha2 := Lib.hid ha2
        have Ha3 := Lib.hid ha3
        have Ha4 := Lib.hid ha4
        have HAL := Lib.hid hAL
        have Hend := Lib.hid (Hfin.out W0 (Below.refl _ _) _ _ _ _ (HV0.out.grow (Below.refl _ _)) AL)
        have HAn5 := Lib.hid (show Arr W0 (g + 1) 47 AZ from HAn.out)
        have Hset := Lib.hid (HAn5.out.setRow AL)
        clear hAL ha1 ha2 ha3 ha4 hc0 hc1 hc2 hc3 hc4
        go_wp2_with (first | (refine wpList_builtV rfl _ _ rfl _ rfl AL.toArray Ha4.out ?_) | (refine wpList_store_row rfl _ _ _ rfl (g + 1) AL.toArray rfl rfl 47 AZ.toArray HAn5.out Ha1.out Ha2.out Ha3.out ?_))
        (try simp only [Exit.inBlock, Exit.then])
        exact bodyPost_ret (v := .tuple #[.slice (some ⟨b, off, none⟩) n c, .agg AL.toArray]) (results_tc (by rfl) _ _ (g + 1) 47 AL.toArray (0, 0) _ (by rfl) _ (by rfl) Hset.out Try.underlying47 rfl Ha1.out) rfl (rdo_post Hr.out HAL.out Hend.out.1 Hend.out.2)
      · rw [if_neg hx] at he8
        obtain rfl := hx2 hx
        have hdj : decide ((-1 : Int) ≥ 0) = false := by simp
        by_cases hy : q < v.cells.length
        · rw [if_pos hy] at he8
          subst he8
          have hdy : decide ((v.cells.length : Int) > q) = true := by simpa using hy
          clear hx hx1 hx2
          go_enter Try.func15, Try.ntmps15
          go_upto_region 1 with fail
          change Code.wp _ _ _ _ ((w.alloc (.cells OL.toArray 44)).alloc (.cells ansZ.toArray 47))
          rw [← HWx.out, ← Hg.out]
          clear HWx
          go_wp2_with fail
          refine Calls.mono Hf.out ?_
          rintro e w' ⟨rfl, rfl⟩
          clear Hf
          go_wp2_with fail
          refine Calls.mono Hmay.out ?_
          rintro e w' ⟨rfl, rfl⟩
          clear Hmay
          go_wp2_with fail
          refine Calls.mono Hf2.out ?_
          rintro e w' ⟨rfl, rfl⟩
          clear Hf2
          obtain ⟨AL, hAL⟩ : ∃ z, z = ansC 8 false (Lib.byteCells zB) nilS := ⟨_, rfl⟩
          obtain ⟨⟨ha1, ha2⟩, ha3, ha4⟩ := HAi.out 8 AL hAL
          have Ha1 := Lib.hid ha1
          have Ha2 := Lib.hid ha2
          have Ha3 := Lib.hid ha3
          have Ha4 := Lib.hid ha4
          have HAL := Lib.hid hAL
          have Hend := Lib.hid (Hfin.out W0 (Below.refl _ _) _ _ _ _ (HV0.out.grow (Below.refl _ _)) AL)
          have HAn5 := Lib.hid (show Arr W0 (g + 1) 47 AZ from HAn.out)
          have Hset := Lib.hid (HAn5.out.setRow AL)
          clear hAL ha1 ha2 ha3 ha4 hc0 hc1 hc2 hc3 hc4
          go_wp2_with (first | (refine wpList_builtV rfl _ _ rfl _ rfl AL.toArray Ha4.out ?_) | (refine wpList_store_row rfl _ _ _ rfl (g + 1) AL.toArray rfl rfl 47 AZ.toArray HAn5.out Ha1.out Ha2.out Ha3.out ?_))
          (try simp only [Exit.inBlock, Exit.then])
          exact bodyPost_ret (v := .tuple #[.slice (some ⟨b, off, none⟩) n c, .agg AL.toArray]) (results_tc (by rfl) _ _ (g + 1) 47 AL.toArray (0, 0) _ (by rfl) _ (by rfl) Hset.out Try.underlying47 rfl Ha1.out) rfl (rdo_post Hr.out HAL.out Hend.out.1 Hend.out.2)
        · rw [if_neg hy] at he8
          exact absurd he8 Hne.out

end Go.Proofs.Ytcajhndhjlfmaaa

namespace Go.Proofs.Ytcajhndhjlfmaaa
open Go.RowKit
set_option linter.unusedVariables false
set_option linter.unusedSimpArgs false

theorem rdo_any (A : Option Addr) (n c : Nat) (L : List Vol) (o : Op15) (ho : OpOk o) (OL : List Value) (hOL : OL = opC o) (w : World) (G : Nat → Prop) (h : VSl w G A n c L) (hG : ∀ b, G b → b < w.heap.size) (hl : L.length ≤ 100000) (hrise : RiseV L) (hok : ∀ v ∈ L, ImgOk v) :
    Calls Try.prog 15 #[.slice A n c, .agg OL.toArray] w fun e w' => RDoPost o w G L e w' := by
  by_cases k1 : o.kind = 1
  · exact rdo_create A n c L o ho OL hOL w G h hG hl hrise hok k1
  by_cases k8 : o.kind = 8
  · exact rdo_list A n c L o ho OL hOL w G h hG hl hrise hok k8
  by_cases kb : o.kind < 1 ∨ 8 < o.kind
  · exact rdo_bad A n c L o ho OL hOL w G h hG hl hrise hok kb
  cases hf : findV L o.name with
  | none =>
    by_cases k67 : o.kind = 6 ∨ o.kind = 7
    · exact rdo_cpnone A n c L o ho OL hOL w G h hG hl hrise hok k67 hf
    · exact rdo_none A n c L o ho OL hOL w G h hG hl hrise hok (by omega) hf
  | some v =>
    by_cases k67 : o.kind = 6 ∨ o.kind = 7
    · by_cases he : (if (namedB o.other.data.toList && quotaB (cpQ L o)) = false then (1 : Int) else if hasV L o.other = true then 6 else if cpQ L o < v.cells.length then 8 else 0) = 0
      · by_cases e1 : (namedB o.other.data.toList && quotaB (cpQ L o)) = false
        · rw [if_pos e1] at he; cases he
        · rw [if_neg e1] at he
          by_cases e2 : hasV L o.other = true
          · rw [if_pos e2] at he; cases he
          · rw [if_neg e2] at he
            by_cases e3 : cpQ L o < v.cells.length
            · rw [if_pos e3] at he; cases he
            · exact rdo_cpgood A n c L o ho OL hOL w G h hG hl hrise hok k67 v hf (by simpa using e1) (by simpa using e2) e3
      · exact rdo_cperr A n c L o ho OL hOL w G h hG hl hrise hok k67 v hf _ rfl he
    · by_cases k2 : o.kind = 2
      · exact rdo_delete A n c L o ho OL hOL w G h hG hl hrise hok k2 v hf
      cases hn : numB o.num with
      | false => exact rdo_range A n c L o ho OL hOL w G h hG hl hrise hok (by omega) v hf hn
      | true =>
        by_cases k5 : o.kind = 5
        · cases hh : hasC v.cells o.num with
          | false => exact rdo_readno A n c L o ho OL hOL w G h hG hl hrise hok k5 v hf hn hh
          | true => exact rdo_readyes A n c L o ho OL hOL w G h hG hl hrise hok k5 v hf hn hh
        · have k34 : o.kind = 3 ∨ o.kind = 4 := by omega
          cases hz : v.frozen with
          | true => exact rdo_frozen A n c L o ho OL hOL w G h hG hl hrise hok k34 v hf hn hz
          | false =>
            by_cases hq : o.kind = 3 ∧ hasC v.cells o.num = false ∧ v.quota ≤ v.cells.length
            · exact rdo_full A n c L o ho OL hOL w G h hG hl hrise hok hq.1 v hf hn hz hq.2.1 hq.2.2
            · refine rdo_set A n c L o ho OL hOL w G h hG hl hrise hok k34 v hf hn hz ?_
              cases hh : hasC v.cells o.num with
              | true => exact .inr (.inl rfl)
              | false =>
                by_cases k4 : o.kind = 4
                · exact .inl k4
                · exact .inr (.inr (by have : ¬ v.quota ≤ v.cells.length := fun e => hq ⟨by omega, hh, e⟩; omega))

end Go.Proofs.Ytcajhndhjlfmaaa

namespace Go.Proofs.Ytcajhndhjlfmaaa
open Go.RowKit
set_option linter.unusedVariables false
set_option linter.unusedSimpArgs false

theorem find_set (L : List Vol) (nm : ByteArray) (cs : List Cl) : findV (setV L nm cs) nm = (findV L nm).map fun v => { v with cells := cs } := by
  unfold findV setV
  induction L with
  | nil => rfl
  | cons a r ih =>
    rw [List.map_cons]
    by_cases e : vkey a = nm.data.toList
    · rw [if_pos e, List.find?_cons_of_pos (by simpa [vkey] using e), List.find?_cons_of_pos (by simpa using e)]
      rfl
    · rw [if_neg e, List.find?_cons_of_neg (by simpa using e), List.find?_cons_of_neg (by simpa using e)]
      exact ih
theorem set_set (L : List Vol) (nm : ByteArray) (a b : List Cl) : setV (setV L nm a) nm b = setV L nm b := by
  unfold setV
  rw [List.map_map]
  apply List.map_congr_left
  intro v _
  simp only [Function.comp]
  by_cases e : vkey v = nm.data.toList
  · rw [if_pos e, if_pos (by simpa [vkey] using e), if_pos e]
  · rw [if_neg e, if_neg e]
theorem has_del (cs : List Cl) (n : Nat) : hasC (delC cs n) (n : Nat) = false := by
  unfold hasC
  rw [List.any_eq_false]
  intro c hc
  have := (delC_mem.1 hc).2
  simp
  omega
theorem at_del (cs : List Cl) (n : Nat) : atB (delC cs n) (n : Nat) = zB := by
  have h := has_del cs n
  rw [hasC_get] at h
  unfold atB
  cases hg : getC (delC cs n) (n : Nat) with
  | none => rfl
  | some f => rw [hg] at h; cases h
theorem get_put {cs : List Cl} (hr : Rise cs) (n : Nat) (b : List UInt8) : getC (putC cs n b) (n : Nat) = some b := getC_of (putC_rise hr n b) (putC_mem.2 (.inl rfl))
theorem ofE_zero {L : List Vol} {nm : ByteArray} {n : Int} (h : ofE L nm n true = 0) : ∃ v, findV L nm = some v ∧ numB n = true ∧ v.frozen = false := by
  unfold ofE at h
  split at h
  · cases h
  · rename_i v hv
    split at h
    · cases h
    · rename_i hn
      split at h
      · cases h
      · rename_i hf
        exact ⟨v, hv, by simpa using hn, by simpa using hf⟩
theorem ofE_of {L : List Vol} {nm : ByteArray} {n : Int} {v : Vol} (hv : findV L nm = some v) (hn : numB n = true) (hf : v.frozen = false) (ch : Bool) : ofE L nm n ch = 0 := by
  unfold ofE
  rw [hv]
  dsimp only
  rw [hn, hf]
  rfl
def opK (o : Op15) (k : Int) : Op15 := { o with kind := k }
theorem do4 (L : List Vol) (o : Op15) : doL L (opK o 4) = ePair (trimL L o.name o.num) := by rfl
theorem do3 (L : List Vol) (o : Op15) : doL L (opK o 3) = ePair (writeL L o.name o.num o.blk) := by rfl
theorem do5 (L : List Vol) (o : Op15) : doL L (opK o 5) = (L, readL L o.name o.num) := by rfl
/-- Behind a trim a block isn't there, and there is room for another one. -/
theorem trims_pure {w : World} {F : Nat → Prop} {s : Nat} {L : List Vol} (h : MdL w F s L) (o : Op15) {L1 : List Vol} {a : Ans} (hd : doL L (opK o 4) = (L1, a)) (hk : a.k = 0) :
    doL L1 (opK o 5) = (L1, ⟨0, false, zB, []⟩) ∧ (doL L1 (opK o 3) = (L1, aE 8) ∨ ∃ L2, doL L1 (opK o 3) = (L2, aE 0) ∧ doL L2 (opK o 5) = (L2, ⟨0, true, o.blk, []⟩)) := by
  rw [do4] at hd
  unfold ePair at hd
  injection hd with h1 h2
  rw [← h2] at hk
  have hk : (trimL L o.name o.num).2 = 0 := hk
  unfold trimL at hk h1
  by_cases he : ofE L o.name o.num true = 0
  · obtain ⟨v, hv, hn, hf⟩ := ofE_zero he
    rw [if_neg (by simpa using he), hv] at h1
    dsimp only at h1
    obtain ⟨n, hnn⟩ := Int.eq_ofNat_of_zero_le (numB_yes hn).1
    have hvo := h.ok v (List.mem_of_find?_eq_some hv)
    have hto : o.num.toNat = n := by rw [hnn]; rfl
    rw [hto] at h1
    have hf1 : findV L1 o.name = some { v with cells := delC v.cells n } := by rw [← h1, find_set, hv]; rfl
    rw [do5, do3]
    have hr1 : readL L1 o.name o.num = ⟨0, false, zB, []⟩ := by
      unfold readL
      rw [ofE_of hf1 hn hf false, if_neg (by simp), hf1]
      dsimp only
      rw [hnn, has_del, at_del]
    refine ⟨by rw [hr1], ?_⟩
    unfold writeL
    rw [ofE_of hf1 hn hf true, if_neg (by simp), hf1]
    dsimp only
    by_cases hq : hasC (delC v.cells n) o.num = false ∧ v.quota ≤ (delC v.cells n).length
    · rw [if_pos hq]
      exact .inl rfl
    · rw [if_neg hq]
      refine .inr ⟨_, rfl, ?_⟩
      rw [do5]
      have hf2 : findV (setV L1 o.name (putC (delC v.cells n) o.num.toNat o.blk)) o.name = some { v with cells := putC (delC v.cells n) o.num.toNat o.blk } := by rw [find_set, hf1]; rfl
      unfold readL
      rw [ofE_of hf2 hn hf false, if_neg (by simp), hf2]
      dsimp only
      have hg := get_put (delC_rise hvo.rs n) n o.blk
      rw [hto]
      rw [hnn, hasC_get]
      unfold atB
      rw [hg]
      rfl
  · rw [if_pos (by simpa using he)] at hk
    exact absurd hk he
theorem opC_blkT {o : Op15} (j : Nat) (v : Value) (hj : (Lib.byteCells o.blk)[j]? = some v) : (opC o)[5 + j]? = some v := by
  unfold opC
  rw [List.getElem?_append_right (by simp)]
  simpa using hj
theorem opK_set (o : Op15) (k : Int) : (opC o).set 0 (.int .i64 k) = opC (opK o k) := by rfl
theorem opK_ok {o : Op15} (h : OpOk o) {k : Int} (hk : 0 ≤ k ∧ k ≤ 100) : OpOk (opK o k) := ⟨h.b48, h.n1, h.n2, h.i1, h.i2, ⟨by show -9223372036854775808 ≤ k; omega, by show k ≤ _; omega⟩⟩
theorem ans_f0 {w : World} {B : Nat} {AL : List Value} {a : Ans} (h : AnsAt w B AL a) (w' : World) : (Instr.field 47 (.agg AL.toArray) 0).run Try.prog w' = .ok (.int .i64 a.k) w' := by
  obtain ⟨nv, e, _⟩ := h.nm
  rw [e]
  unfold ansV ansC
  kernel_rfl

end Go.Proofs.Ytcajhndhjlfmaaa

namespace Go.Proofs.Ytcajhndhjlfmaaa
open Go.RowKit
set_option linter.unusedVariables false
set_option linter.unusedSimpArgs false

theorem create_quiet {L : List Vol} {nm : ByteArray} {q : Int} (h : (createL L nm q).2 ≠ 0) : (createL L nm q).1 = L := by
  unfold createL at *
  split
  · rfl
  · split
    · rfl
    · rename_i h1 h2
      rw [if_neg h1, if_neg h2] at h
      exact absurd rfl h
theorem delete_quiet {L : List Vol} {nm : ByteArray} (h : (deleteL L nm).2 ≠ 0) : (deleteL L nm).1 = L := by
  unfold deleteL at *
  split
  · rename_i h1
    rw [if_pos h1] at h
    exact absurd rfl h
  · rfl
theorem copy_quiet {L : List Vol} {nm other : ByteArray} {q : Int} {fr : Bool} (h : (copyL L nm other q fr).2 ≠ 0) : (copyL L nm other q fr).1 = L := by
  unfold copyL at *
  by_cases h1 : (namedB other.data.toList && quotaB q) = false
  · rw [if_pos h1]
  · rw [if_neg h1] at h ⊢
    cases hf : findV L nm with
    | none => rfl
    | some v =>
      rw [hf] at h
      dsimp only at h ⊢
      by_cases h2 : hasV L other = true
      · rw [if_pos h2]
      · rw [if_neg h2] at h ⊢
        by_cases h3 : q < v.cells.length
        · rw [if_pos h3]
        · rw [if_neg h3] at h
          exact absurd rfl h
theorem write_quiet {L : List Vol} {nm : ByteArray} {n : Int} {b : List UInt8} (h : (writeL L nm n b).2 ≠ 0) : (writeL L nm n b).1 = L := by
  unfold writeL at *
  by_cases h1 : ofE L nm n true ≠ 0
  · rw [if_pos h1]
  · rw [if_neg h1] at h ⊢
    cases hf : findV L nm with
    | none => rfl
    | some v =>
      rw [hf] at h
      dsimp only at h ⊢
      by_cases h2 : hasC v.cells n = false ∧ v.quota ≤ v.cells.length
      · rw [if_pos h2]
      · rw [if_neg h2] at h
        exact absurd rfl h
theorem trim_quiet {L : List Vol} {nm : ByteArray} {n : Int} (h : (trimL L nm n).2 ≠ 0) : (trimL L nm n).1 = L := by
  unfold trimL at *
  by_cases h1 : ofE L nm n true ≠ 0
  · rw [if_pos h1]
  · rw [if_neg h1] at h ⊢
    cases hf : findV L nm with
    | none => rfl
    | some v =>
      rw [hf] at h
      exact absurd rfl h
theorem read_quiet {L : List Vol} {nm : ByteArray} {n : Int} (h : (readL L nm n).k ≠ 0) : readL L nm n = aE (readL L nm n).k := by
  unfold readL at *
  by_cases h1 : ofE L nm n false ≠ 0
  · rw [if_pos h1]; rfl
  · rw [if_neg h1] at h ⊢
    cases hf : findV L nm with
    | none => rfl
    | some v =>
      rw [hf] at h
      exact absurd rfl h
theorem do_quiet (L : List Vol) (o : Op15) (h : (doL L o).2.k ≠ 0) : (doL L o).1 = L ∧ (doL L o).2 = aE (doL L o).2.k := by
  unfold doL at *
  split
  · rename_i h1; rw [if_pos h1] at h; exact ⟨create_quiet h, rfl⟩
  rename_i h1; rw [if_neg h1] at h
  split
  · rename_i h1; rw [if_pos h1] at h; exact ⟨delete_quiet h, rfl⟩
  rename_i h1; rw [if_neg h1] at h
  split
  · rename_i h1; rw [if_pos h1] at h; exact ⟨write_quiet h, rfl⟩
  rename_i h1; rw [if_neg h1] at h
  split
  · rename_i h1; rw [if_pos h1] at h; exact ⟨trim_quiet h, rfl⟩
  rename_i h1; rw [if_neg h1] at h
  split
  · rename_i h1; rw [if_pos h1] at h; exact ⟨rfl, read_quiet h⟩
  rename_i h1; rw [if_neg h1] at h
  split
  · rename_i h1; rw [if_pos h1] at h; exact ⟨copy_quiet h, rfl⟩
  rename_i h1; rw [if_neg h1] at h
  split
  · rename_i h1; rw [if_pos h1] at h; exact ⟨copy_quiet h, rfl⟩
  rename_i h1; rw [if_neg h1] at h
  split
  · rename_i h1; rw [if_pos h1] at h; exact absurd rfl h
  · exact ⟨rfl, rfl⟩
theorem do_still (L : List Vol) (o : Op15) (h : changesB o.kind = false) : (doL L o).1 = L := by
  unfold changesB at h
  simp only [Bool.or_eq_false_iff, decide_eq_false_iff_not] at h
  obtain ⟨⟨⟨⟨⟨h1, h2⟩, h3⟩, h4⟩, h6⟩, h7⟩ := h
  unfold doL
  rw [if_neg h1, if_neg h2, if_neg h3, if_neg h4]
  by_cases h5 : o.kind = 5
  · rw [if_pos h5]
  · rw [if_neg h5, if_neg h6, if_neg h7]
    split <;> rfl
/-- An answer with an error, and one of that error alone, are one. -/
theorem ans_err {w : World} {B : Nat} {AL : List Value} {k : Int} (h : AnsAt w B AL (aE k)) : ∃ A c, AL = ansC k false (Lib.byteCells zB) (.slice A 0 c) := by
  obtain ⟨nv, e, hn⟩ := h.nm
  rcases hn.2 with ⟨e2, _⟩ | ⟨g, cap, cur, e2, _⟩
  · exact ⟨none, 0, by rw [e, e2]; rfl⟩
  · exact ⟨_, cap, by rw [e, e2]; rfl⟩

set_option maxHeartbeats 8000000 in
set_option maxRecDepth 100000 in
theorem sans_quiet (k : Int) (A : Option Addr) (c : Nat) (AL BL : List Value) (hA : AL = ansC k false (Lib.byteCells zB) (.slice A 0 c)) (hB : BL = ansC k false (Lib.byteCells zB) nilS) (w : World) :
    Calls Try.prog 16 #[.agg AL.toArray, .agg BL.toArray] w fun e w' => e = .returned (.bool true) ∧ Below w.heap.size w w' := by
  obtain ⟨W1, hW1⟩ : ∃ z, z = (w.alloc (.cells AL.toArray 47)).alloc (.cells BL.toArray 47) := ⟨_, rfl⟩
  have hbA : Below w.heap.size w (w.alloc (.cells AL.toArray 47)) := (Below.refl _ _).alloc (Nat.le_refl _) _
  have hb1 : Below w.heap.size w W1 := by rw [hW1]; exact hbA.alloc hbA.size _
  obtain ⟨g, hg⟩ : ∃ z, z = w.heap.size := ⟨_, rfl⟩
  have hX1 : Arr W1 g 47 AL := by rw [hW1, hg]; exact (Arr.new w _ AL).up ((Below.refl _ _).alloc (Nat.le_refl _) _)
  have hY1 : Arr W1 (g + 1) 47 BL := by rw [hW1, hg]; have := Arr.new (w.alloc (.cells AL.toArray 47)) 47 BL; simpa using this
  obtain ⟨ZB, hZB⟩ : ∃ z, z = Lib.byteCells zB := ⟨_, rfl⟩
  have hzl : (Lib.byteCells zB).length = 48 := rfl
  have a0 : W1.cell? ⟨g, 0, none⟩ = some (.int .i64 k) := by rw [hX1.cell, hA]; rfl
  have a1 : W1.cell? ⟨g, 1, none⟩ = some (.bool false) := by rw [hX1.cell, hA]; rfl
  have a3 : W1.cell? ⟨g, 50, none⟩ = some (.slice A 0 c) := by rw [hX1.cell, hA]; rfl
  have b0 : W1.cell? ⟨g + 1, 0, none⟩ = some (.int .i64 k) := by rw [hY1.cell, hB]; rfl
  have b1 : W1.cell? ⟨g + 1, 1, none⟩ = some (.bool false) := by rw [hY1.cell, hB]; rfl
  have b3 : W1.cell? ⟨g + 1, 50, none⟩ = some (.slice none 0 0) := by rw [hY1.cell, hB]; rfl
  have hr : ∀ (nv : Value) (j : Nat) (v : Value), ZB[j]? = some v → (ansC k false (Lib.byteCells zB) nv)[2 + j]? = some v := fun nv j v hj => by
    rw [hZB] at hj
    unfold ansC
    rw [show 2 + j = j + 1 + 1 by omega, List.getElem?_cons_succ, List.getElem?_cons_succ, List.getElem?_append_left (List.getElem?_eq_some_iff.1 hj).1]
    exact hj
  have a2 : W1.rangeAt g 2 ZB := fun j v hj => by rw [hX1.cell, hA]; exact hr _ j v hj
  have b2 : W1.rangeAt (g + 1) 2 ZB := fun j v hj => by rw [hY1.cell, hB]; exact hr _ j v hj
  have HZn := Lib.hid (show (Try.prog.info? 42).map (·.size) = some ZB.length by rw [hZB]; exact blkSize)
  have Hzq := Lib.hid (fun w : World => show (Op.equalIn 10000 42 (.agg ZB.toArray) (.agg ZB.toArray)).run Try.prog w = .ok true w by have := eqv_at Try.underlying42 zB zB rfl rfl ZB ZB hZB hZB w; simpa using this)
  have hkk : (k != k) = false := by simp
  have hl0 : decide ((0 : Int) < 0) = false := by simp
  have hn0 : ((0 : Int) != 0) = false := by simp
  have HW1 := Lib.hid hW1
  have Hg := Lib.hid hg
  clear hW1 hbA hg hX1 hY1 hZB hr hA hB hzl
  go_enter Try.func16, Try.ntmps16
  go_upto_region 1 with fail
  rw [← HW1.out, ← Hg.out]
  clear HW1
  go_upto_region 3 with (first | ((with_reducible refine wpList_at 20 (by rfl) ?_); refine wpList_load_mid_ifC (by rfl) 42 _ rfl g 2 rfl ZB _ a2 Try.underlying42 rfl HZn.out ?_) | ((with_reducible refine wpList_at 22 (by rfl) ?_); refine wpList_load_mid_ifC (by rfl) 42 _ rfl (g + 1) 2 rfl ZB _ b2 Try.underlying42 rfl HZn.out ?_) | ((with_reducible refine wpList_at 23 (by rfl) ?_); refine wpList_neq_ifC (by rfl) 42 _ _ _ rfl ZB ZB rfl rfl true Hzq.out gtB ?_))
  go_wp2_with fail
  go_loopw [5] (fun i wr => i = .int .i64 0 ∧ wr = W1) (fun _ _ => 0)
  case atStart => exact ⟨rfl, rfl⟩
  case round =>
    obtain ⟨rfl, rfl⟩ := hrel
    go_wp2_with fail
    go_ret
    exact ⟨rfl, hb1⟩

end Go.Proofs.Ytcajhndhjlfmaaa

namespace Go.Proofs.Ytcajhndhjlfmaaa
open Go.RowKit
set_option linter.unusedVariables false
set_option linter.unusedSimpArgs false

theorem insV_mem {x c : Vol} : ∀ {L : List Vol}, c ∈ insV x L ↔ c = x ∨ c ∈ L
  | [] => by simp [insV]
  | y :: r => by
    unfold insV
    split
    · simp
    · simp only [List.mem_cons, insV_mem (L := r)]
      constructor
      · rintro (h | h | h) <;> simp [h]
      · rintro (h | h | h) <;> simp [h]
theorem putC_le (cs : List Cl) (n : Nat) (f : List UInt8) : (putC cs n f).length ≤ cs.length + 1 := by
  unfold putC delC
  rw [insC_length]
  exact Nat.succ_le_succ (List.length_filter_le _ _)
theorem setV_cells {L : List Vol} {nm : ByteArray} {cs : List Cl} {k : Nat} (h : ∀ v ∈ L, v.cells.length ≤ k) (hc : cs.length ≤ k + 1) : ∀ v ∈ setV L nm cs, v.cells.length ≤ k + 1 := fun v hv => by
  unfold setV at hv
  obtain ⟨u, hu, rfl⟩ := List.mem_map.1 hv
  have := h u hu
  split
  · exact hc
  · omega
theorem find_mem {L : List Vol} {nm : ByteArray} {v : Vol} (h : findV L nm = some v) : v ∈ L := List.mem_of_find?_eq_some h
theorem insV_cells {L : List Vol} {x : Vol} {k : Nat} (h : ∀ v ∈ L, v.cells.length ≤ k) (hx : x.cells.length ≤ k) : ∀ v ∈ insV x L, v.cells.length ≤ k + 1 := fun v hv => by
  rcases insV_mem.1 hv with rfl | hv
  · omega
  · have := h v hv; omega
theorem doL_cells (L : List Vol) (o : Op15) (k : Nat) (h : ∀ v ∈ L, v.cells.length ≤ k) : ∀ v ∈ (doL L o).1, v.cells.length ≤ k + 1 := by
  have hL : ∀ v ∈ L, v.cells.length ≤ k + 1 := fun v hv => by have := h v hv; omega
  have hcp : ∀ (q : Int) (fr : Bool), ∀ v ∈ (copyL L o.name o.other q fr).1, v.cells.length ≤ k + 1 := fun q fr => by
    unfold copyL
    split
    · exact hL
    · split
      · exact hL
      · rename_i u hu
        split
        · exact hL
        · split
          · exact hL
          · exact insV_cells h (h u (find_mem hu))
  unfold doL ePair
  split
  · dsimp only
    unfold createL
    split
    · exact hL
    · split
      · exact hL
      · exact insV_cells h (Nat.zero_le _)
  split
  · dsimp only
    unfold deleteL
    split
    · exact fun v hv => hL v (by unfold delV at hv; exact (List.mem_filter.1 hv).1)
    · exact hL
  split
  · dsimp only
    unfold writeL
    split
    · exact hL
    · split
      · exact hL
      · rename_i u hu
        split
        · exact hL
        · exact setV_cells h (Nat.le_trans (putC_le _ _ _) (Nat.succ_le_succ (h u (find_mem hu))))
  split
  · dsimp only
    unfold trimL
    split
    · exact hL
    · split
      · exact hL
      · rename_i u hu
        exact setV_cells h (Nat.le_trans (by unfold delC; exact List.length_filter_le _ _) (hL u (find_mem hu)))
  split
  · exact hL
  split
  · exact hcp _ _
  split
  · exact hcp _ _
  split
  · exact hL
  · exact hL
theorem blksV_length {k : Nat} : ∀ {L : List Vol}, (∀ v ∈ L, v.cells.length ≤ k) → (blksV L).length ≤ L.length * k
  | [], _ => by simp [blksV]
  | v :: L, h => by
    have ih := blksV_length (L := L) fun u hu => h u (List.mem_cons_of_mem _ hu)
    have h1 := h v List.mem_cons_self
    unfold blksV at ih ⊢
    rw [List.flatMap_cons, List.length_append, List.length_map, List.length_cons, Nat.succ_mul]
    omega
theorem blksV_small {L : List Vol} {k : Nat} (h : ∀ v ∈ L, v.cells.length ≤ k) (hk : k ≤ 100) (hl : L.length ≤ 100) : (blksV L).length ≤ 1000000 := by
  have h1 := blksV_length h
  have h2 := Nat.mul_le_mul hl hk
  omega

end Go.Proofs.Ytcajhndhjlfmaaa

namespace Go.Proofs.Ytcajhndhjlfmaaa
open Go.RowKit
set_option linter.unusedVariables false
set_option linter.unusedSimpArgs false
set_option maxRecDepth 100000

theorem blkAll : (Try.prog.info? 42).map (fun i => (i.zero, i.size, i.bytes)) = some (some (.agg (Lib.byteCells zB).toArray), 48, 48) := by kernel_rfl
theorem fill_bk (l : List Value) (hl : l.length = 48) (cells : Array Value) (hc : cells.size = 48) : Instr.fill (fun i => some (i * 48, 48)) cells [(0, .agg l.toArray)] = some l.toArray := by
  simp only [Instr.fill, Value.cells, List.size_toArray]
  rw [if_neg (by simp; omega)]
  congr 1
  obtain ⟨g1, g2⟩ := Great.foldl_set (0 * 48) l 0 cells
  have e : (l.toArray.zipIdx.foldl (fun cs (x : Value × Nat) => cs.setIfInBounds (0 * 48 + x.2) x.1) cells) = ((l.zipIdx 0).foldl (fun cs (x : Value × Nat) => cs.setIfInBounds (0 * 48 + x.2) x.1) cells) := by
    rw [← Array.foldl_toList, Array.toList_zipIdx]
  show (l.toArray.zipIdx.foldl (fun cs (x : Value × Nat) => cs.setIfInBounds (0 * 48 + x.2) x.1) cells) = _
  rw [e]
  apply Array.ext_getElem?
  intro k
  rw [g2 k]
  simp only [List.getElem?_toArray, Nat.add_zero, Nat.zero_mul, Nat.zero_add, Nat.sub_zero]
  by_cases hk2 : k < l.length
  · rw [if_pos ⟨by omega, by omega, by omega⟩]
  · rw [if_neg (by omega), Array.getElem?_eq_none (by omega), List.getElem?_eq_none (by omega)]

/-- '[]api.Block{d}'. -/
theorem wp_build_bk {o : Oper} {a : Act} {w : World} {K : Act → World → Prop} {Q : Exit → Act → World → Prop} (dd : Option Tmp) (hdd : o.dst = dd) (x : Operand) (ho : o.op = .buildSlice 55 1 #[(0, x)]) (VL : List Value) (hV : VL.length = 48) (hx : a.eval x = .agg VL.toArray)
    (h : K (a.put dd (.slice (some ⟨w.heap.size, 0, none⟩) 1 1)) (w.alloc (.cells VL.toArray 42))) : Oper.wp Try.prog o a w K Q := by
  subst hdd
  obtain ⟨i0, hi, hz0, hz1, hz2⟩ := info_partsV blkAll
  refine wp_buildSlice 55 42 1 #[(0, x)] ho VL.toArray i0 _ Try.underlying55 hi hz0 (by rw [hz1]; decide) (by rw [hz1]; decide) ?_ h
  rw [hz1]
  simp only [List.map_toArray, List.map_cons, List.map_nil, hx]
  exact fill_bk VL hV _ (by simp)

theorem wpList_build_bk {ops : Array Oper} {rest : List Oper} {o : Oper} {a : Act} {w : World} {Q : Exit → Act → World → Prop} (hg : o.guard = none) (x : Operand) (ho : o.op = .buildSlice 55 1 #[(0, x)]) (VL : List Value) (hV : VL.length = 48) (hx : a.eval x = .agg VL.toArray)
    (h : wpList Try.prog ops Q rest (a.put o.dst (.slice (some ⟨w.heap.size, 0, none⟩) 1 1)) (w.alloc (.cells VL.toArray 42))) : wpList Try.prog ops Q (o :: rest) a w :=
  wpList_plain hg fun _ hK => wp_build_bk o.dst rfl x ho VL hV hx (hK _ _ h)

/-- Digests, as cells. -/
def bksC (ds : List (List UInt8)) : List Value := ds.flatMap Lib.byteCells

theorem bksC_append (a b : List (List UInt8)) : bksC (a ++ b) = bksC a ++ bksC b := by unfold bksC; rw [List.flatMap_append]

theorem bksC_one (d : List UInt8) : bksC [d] = Lib.byteCells d := by simp [bksC]

theorem bksC_length {ds : List (List UInt8)} (h : ∀ d ∈ ds, d.length = 48) : (bksC ds).length = ds.length * 48 := by
  induction ds with
  | nil => rfl
  | cons d ds ih =>
    unfold bksC at *
    rw [List.flatMap_cons, List.length_append, ih fun x hx => h x (List.mem_cons_of_mem _ hx), Lib.byteCells_length, h d List.mem_cons_self, List.length_cons]
    omega

theorem bksC_at {ds : List (List UInt8)} (h : ∀ d ∈ ds, d.length = 48) {i : Nat} (hi : i < ds.length) (j : Nat) (v : Value) (hj : (Lib.byteCells (ds.getD i []))[j]? = some v) : (bksC ds)[i * 48 + j]? = some v := by
  induction ds generalizing i with
  | nil => simp at hi
  | cons d ds ih =>
    have hd := h d List.mem_cons_self
    have hc : bksC (d :: ds) = Lib.byteCells d ++ bksC ds := by unfold bksC; rw [List.flatMap_cons]
    rw [hc]
    cases i with
    | zero =>
      have hj' : (Lib.byteCells d)[j]? = some v := hj
      rw [Nat.zero_mul, Nat.zero_add, List.getElem?_append_left (List.getElem?_eq_some_iff.1 hj').1]
      exact hj'
    | succ i =>
      have := ih (fun x hx => h x (List.mem_cons_of_mem _ hx)) (i := i) (by simpa using hi) hj
      rw [List.getElem?_append_right (by rw [Lib.byteCells_length, hd]; omega), Lib.byteCells_length, hd, show (i + 1) * 48 + j - 48 = i * 48 + j by omega]
      exact this

/-- A row of digests of the call's own, from block B on. -/
def BRow (w : World) (B : Nat) (v : Value) (ds : List (List UInt8)) : Prop := (∀ d ∈ ds, d.length = 48) ∧ w.ownsRow B 42 48 v ds.length (bksC ds)

theorem BRow.nil (w : World) (B : Nat) : BRow w B (.slice none 0 0) [] := ⟨by simp, World.ownsRow_nil w B _ 48⟩

theorem BRow.lt {w : World} {B : Nat} {v : Value} {ds : List (List UInt8)} (h : BRow w B v ds) : ∀ k, v.ownBlock = some k → B ≤ k ∧ k < w.heap.size := World.ownsRow.lt h.2

theorem BRow.up {w w' : World} {B : Nat} {v : Value} {ds : List (List UInt8)} (h : BRow w B v ds) (hb : Below w.heap.size w w') : BRow w' B v ds := by
  refine ⟨h.1, h.2.1, ?_⟩
  rcases h.2.2 with hn | ⟨g, cap, cur, rfl, h1, hg, rest⟩
  · exact .inl hn
  · exact .inr ⟨g, cap, cur, rfl, h1, (hb.block g (Array.getElem?_eq_some_iff.1 hg).1).trans hg, rest⟩

theorem BRow.base {w : World} {B B' : Nat} {v : Value} {ds : List (List UInt8)} (h : BRow w B v ds) (hB : B' ≤ B) : BRow w B' v ds := by
  refine ⟨h.1, h.2.1, ?_⟩
  rcases h.2.2 with hn | ⟨g, cap, cur, rfl, h1, rest⟩
  · exact .inl hn
  · exact .inr ⟨g, cap, cur, rfl, Nat.le_trans hB h1, rest⟩

theorem BRow.empty (w : World) (B : Nat) (hB : B ≤ w.heap.size) : BRow (w.alloc (.cells #[] 42)) B (.slice (some ⟨w.heap.size, 0, none⟩) 0 0) [] :=
  ⟨by simp, rfl, .inr ⟨w.heap.size, 0, #[], rfl, hB, heap_alloc_new w _, Nat.le_refl _, by unfold maxLen; omega, rfl, rfl⟩⟩

theorem run_append_bk {w : World} {B : Nat} {v : Value} {ds : List (List UInt8)} (h : BRow w B v ds) (hB : B ≤ w.heap.size) (ty : TypeId) (g c : Nat) (d : List UInt8) (hd : d.length = 48) (hg : Arr w g 42 (Lib.byteCells d)) (hm : ds.length ≤ 1000000) :
    ∃ v' w', (Builtin.append_ #[55, 55] ty #[v, .slice (some ⟨g, 0, none⟩) 1 c]).run Try.prog w = .ok v' w' ∧ BRow w' B v' (ds ++ [d]) ∧ w.grownBy w' v.ownBlock := by
  obtain ⟨i0, hi, hz0, hz1, hz2⟩ := info_partsV blkAll
  have hadd : ∀ k, (⟨g, 0, none⟩ : Addr).add k = ⟨g, k, none⟩ := fun k => by unfold Addr.add; split <;> simp_all
  obtain ⟨v', w', h1, h2, h3, _, _⟩ := run_append_own_at (P := Try.prog) w B 55 ty 42 i0 (.agg (Lib.byteCells zB).toArray) 48 48 Try.underlying55 hi hz0 hz1 hz2 rfl (by decide) v ds.length (bksC ds) h.2 ⟨g, 0, none⟩ 1 c (Lib.byteCells d) (by rw [Lib.byteCells_length, hd]) (fun j u hj => by rw [hadd, hg.cell]; exact hj) (byteCells_one d) (by unfold maxLen; omega) (by omega) hB
  refine ⟨v', w', h1, ⟨fun x hx => ?_, ?_⟩, h3⟩
  · rcases List.mem_append.1 hx with hx | hx
    · exact h.1 x hx
    · rw [List.mem_singleton] at hx; rw [hx]; exact hd
  · rw [bksC_append, bksC_one, List.length_append]
    exact h2

theorem wpList_append_bk {ops : Array Oper} {rest : List Oper} {o : Oper} {a : Act} {w : World} {Q : Exit → Act → World → Prop} (hgd : o.guard = none) (s x : Operand) (ho : o.op = .call { callee := .builtin .append, args := #[s, x], argTypes := #[55, 55] })
    {B : Nat} {v : Value} {ds : List (List UInt8)} (h : BRow w B v ds) (hB : B ≤ w.heap.size) (hs : a.eval s = v) (g c : Nat) (hx : a.eval x = .slice (some ⟨g, 0, none⟩) 1 c) (d : List UInt8) (hd : d.length = 48) (hg : Arr w g 42 (Lib.byteCells d)) (hm : ds.length ≤ 1000000)
    (hK : ∀ v' w', BRow w' B v' (ds ++ [d]) → w.grownBy w' v.ownBlock → wpList Try.prog ops Q rest (a.put o.dst v') w') : wpList Try.prog ops Q (o :: rest) a w := by
  refine wpList_plain hgd fun K hK' => ?_
  obtain ⟨v', w', hr, h2, h3⟩ := run_append_bk h hB o.type g c d hd hg hm
  unfold Oper.wp execOp
  simp only [ho, resolve, invoke, builtin, Sem.run_bind, Sem.run_pure, Result.andThen_ok, List.map_toArray, List.map_cons, List.map_nil, hs, hx, hr]
  exact hK' _ _ (hK v' w' h2 h3)

/-- Its value, and its blocks in memory. -/
theorem BRow.slice {w : World} {B : Nat} {v : Value} {ds : List (List UInt8)} (h : BRow w B v ds) : ∃ A c, v = .slice A ds.length c ∧ ds.length ≤ c ∧ c ≤ maxLen ∧ ∀ (i : Nat) (d : List UInt8), ds[i]? = some d → d.length = 48 ∧ ∃ b off, A = some ⟨b, off, none⟩ ∧ b < w.heap.size ∧ w.rangeAt b (off + i * 48) (Lib.byteCells d) := by
  rcases h.2.2 with ⟨rfl, hn⟩ | ⟨g, cap, cur, rfl, h1, hg, h2, h3, h4, h5⟩
  · exact ⟨none, 0, by rw [hn], by omega, by unfold maxLen; omega, fun i d hi => by have := (List.getElem?_eq_some_iff.1 hi).1; omega⟩
  · refine ⟨_, cap, rfl, h2, h3, fun i d hi => ⟨h.1 d (List.mem_of_getElem? hi), g, 0, rfl, (Array.getElem?_eq_some_iff.1 hg).1, fun j v hj => ?_⟩⟩
    have hil := (List.getElem?_eq_some_iff.1 hi).1
    have hd := bksC_at h.1 hil j v (by simpa [List.getD, hi] using hj)
    rw [← h5] at hd
    have hlt : i * 48 + j < ds.length * 48 := by
      have := (List.getElem?_eq_some_iff.1 hd).1
      rw [List.length_take] at this
      omega
    rw [List.getElem?_take_of_lt hlt] at hd
    rw [cell_of_row w g _ cur 42 (0, 0) hg, Nat.zero_add]
    simpa using hd
theorem nub_snoc (l : List (List UInt8)) (b : List UInt8) : nubB (l ++ [b]) = if b ∈ nubB l then nubB l else nubB l ++ [b] := by
  unfold nubB
  rw [List.foldl_append]
  rfl
theorem nub_len (l : List (List UInt8)) : (nubB l).length ≤ l.length := by
  have h : ∀ (l acc : List (List UInt8)), (l.foldl (fun acc b => if b ∈ acc then acc else acc ++ [b]) acc).length ≤ acc.length + l.length := by
    intro l
    induction l with
    | nil => intro acc; simp
    | cons b l ih =>
      intro acc
      rw [List.foldl_cons]
      refine Nat.le_trans (ih _) ?_
      split
      · simp only [List.length_cons]; omega
      · simp only [List.length_append, List.length_cons, List.length_nil]; omega
  have := h l []
  simpa [nubB] using this
theorem blksV_step {L : List Vol} {k : Nat} {v : Vol} (h : L[k]? = some v) : blksV (L.take (k + 1)) = blksV (L.take k) ++ v.cells.map (·.2) := by
  obtain ⟨hl, e⟩ := List.getElem?_eq_some_iff.1 h
  rw [List.take_succ_eq_append_getElem hl, e]
  simp [blksV]
theorem blksV_le (L : List Vol) (k : Nat) : (blksV (L.take k)).length ≤ (blksV L).length := by
  have h : blksV L = blksV (L.take k) ++ blksV (L.drop k) := by
    unfold blksV
    rw [← List.flatMap_append, List.take_append_drop]
  rw [h, List.length_append]
  omega
theorem cells_step {cs : List Cl} {j : Nat} {c : Cl} (h : cs[j]? = some c) : (cs.map (·.2)).take (j + 1) = (cs.map (·.2)).take j ++ [c.2] := by
  have h2 : (cs.map (·.2))[j]? = some c.2 := by rw [List.getElem?_map, h]; rfl
  obtain ⟨hl, e⟩ := List.getElem?_eq_some_iff.1 h2
  rw [List.take_succ_eq_append_getElem hl, e]
theorem mem_step {l : List (List UInt8)} {t : Nat} {y d : List UInt8} (h : l[t]? = some y) : decide (d ∈ l.take (t + 1)) = (decide (d ∈ l.take t) || decide (y = d)) := by
  obtain ⟨hl, e⟩ := List.getElem?_eq_some_iff.1 h
  rw [List.take_succ_eq_append_getElem hl, e]
  by_cases h1 : d ∈ l.take t
  · simp [h1]
  · by_cases h2 : y = d
    · simp [h2]
    · have h3 : ¬ d = y := fun e => h2 e.symm
      simp [h1, h2, h3]

set_option maxHeartbeats 16000000 in
theorem rblocks_any (A : Option Addr) (n c : Nat) (L : List Vol) (w : World) (G : Nat → Prop) (h : VSl w G A n c L) (hl : (blksV L).length ≤ 1000000) :
    Calls Try.prog 21 #[.slice A n c] w fun e w' => ∃ A' m c', e = .returned (.slice A' m c') ∧ m = distL L ∧ Below w.heap.size w w' := by
  obtain ⟨xs, hxs, hn, hc, hm, hV, hflat⟩ := h
  have hm' : c ≤ 9223372036854775807 := by unfold maxLen at hm; omega
  obtain ⟨ZB, hZB⟩ : ∃ z, z = Lib.byteCells zB := ⟨_, rfl⟩
  have HZB := Lib.hid (fun w : World => show (zeroValue 42).run Try.prog w = .ok (.agg ZB.toArray) w by rw [hZB]; kernel_rfl)
  have HZl := Lib.hid (show ZB.toArray.size = 48 by rw [hZB]; rfl)
  obtain ⟨B, hB⟩ : ∃ z, z = w.heap.size := ⟨_, rfl⟩
  have hBw : B ≤ w.heap.size := by omega
  have hR0 : BRow (w.alloc (.cells #[] 42)) B (.slice (some ⟨w.heap.size, 0, none⟩) 0 0) [] := BRow.empty w B hBw
  have hb0 : Below B w (w.alloc (.cells #[] 42)) := (Below.refl _ _).alloc hBw _
  obtain ⟨sv, hsv⟩ : ∃ v, Value.slice (some ⟨w.heap.size, 0, none⟩) 0 0 = v := ⟨_, rfl⟩
  rw [hsv] at hR0
  have Hsv := Lib.hid hsv
  have HB := Lib.hid hB
  have HR0 := Lib.hid hR0
  have Hb0 := Lib.hid hb0
  have Hn := Lib.hid hn
  have Hxs := Lib.hid hxs
  have HV := Lib.hid hV
  have Hl := Lib.hid hl
  have HnL : Hid (L.length = n) := by show L.length = n; rw [← hxs, List.length_map, hn]
  clear hn hV hl hxs hflat hm hZB hB hR0 hb0 hsv
  go_enter Try.func21, Try.ntmps21
  go_upto_region 2 with fail
  rw [Hsv.out]
  obtain ⟨w0, hw0⟩ : ∃ z, z = w.alloc (.cells #[] 42) := ⟨_, rfl⟩
  rw [← hw0] at HR0 Hb0 ⊢
  clear hw0 Hsv
  go_wp2_with fail
  go_loopw [3, 4] (fun v i wr => ∃ k : Nat, k ≤ n ∧ i = .int .i64 k ∧ Hid (BRow wr B v (nubB (blksV (L.take k)))) ∧ Hid (Below B w wr)) (fun _ i _ => n - (Go.RowKit.intOf i).toNat)
  case atStart => exact ⟨0, Nat.zero_le _, rfl, HR0, Hb0⟩
  case round =>
    obtain ⟨k, hk, rfl, HR, Hb⟩ := hrel
    clear HR0 Hb0
    by_cases hlt : k < n
    · have hd1 : decide ((k : Int) < (n : Int)) = true := by simp; omega
      obtain ⟨x, hx⟩ : ∃ x, xs[k]? = some x := ⟨xs[k]'(by rw [Hn.out]; exact hlt), List.getElem?_eq_getElem _⟩
      obtain ⟨b, off, rfl, hblt, hGb, a0, a1, a2, a3⟩ := HV.out.at_ hx
      have Hx := Lib.hid (HV.out.2 x (List.mem_of_getElem? hx))
      have hxL : L[k]? = some x.v := by rw [← Hxs.out, List.getElem?_map, hx]; rfl
      have Hst := Lib.hid (blksV_step hxL)
      obtain ⟨pre, hpre⟩ : ∃ z, z = blksV (L.take k) := ⟨_, rfl⟩
      have Hle := Lib.hid (blksV_le L (k + 1))
      rw [← hpre] at HR Hst
      obtain ⟨lx, hlx⟩ : ∃ z, x.v.cells.length = z := ⟨_, rfl⟩
      obtain ⟨Ax, hAx⟩ : ∃ z, x.adr = z := ⟨_, rfl⟩
      obtain ⟨cx, hcx⟩ : ∃ z, x.cap = z := ⟨_, rfl⟩
      have hx1 : lx ≤ cx ∧ cx ≤ 9223372036854775807 := by rw [← hlx, ← hcx]; exact ⟨Hx.out.le, by have := Hx.out.lim; unfold maxLen at this; omega⟩
      rw [hAx, hlx, hcx] at a3
      have Ha := Lib.hid (fun (w' : World) (hb : Below B w w') => show w'.cell? ⟨b, off + k * 4 + 3, none⟩ = some (.slice Ax lx cx) from (World.cell?_of_block (hb.block b (by rw [HB.out]; exact hblt))).trans a3)
      have Hlx := Lib.hid hlx
      have HAx := Lib.hid hAx
      clear hx hxL hpre hlx hAx hcx a0 a1 a2 a3 hblt hGb
      go_wp2_with fail
      go_loopw [3, 5] (fun v i ws => ∃ j : Nat, j ≤ lx ∧ i = .int .i64 j ∧ Hid (BRow ws B v (nubB (pre ++ (x.v.cells.map (·.2)).take j))) ∧ Hid (Below B w ws)) (fun _ i _ => lx - (Go.RowKit.intOf i).toNat)
      case atStart => exact ⟨0, Nat.zero_le _, rfl, by rw [List.take_zero, List.append_nil]; exact HR, Hb⟩
      case round =>
        obtain ⟨j, hj, rfl, HR2, Hb2⟩ := hrel
        clear HR Hb
        have c3 := Ha.out wr Hb2.out
        by_cases hjl : j < lx
        · have hd2 : decide ((j : Int) < (lx : Int)) = true := by simp; omega
          obtain ⟨cl, hcl⟩ : ∃ z, x.v.cells[j]? = some z := ⟨_, List.getElem?_eq_getElem (by rw [Hlx.out]; exact hjl)⟩
          obtain ⟨cb, coff, hax, hcb, h48, hrx0⟩ := Hx.out.cell hcl
          rw [HAx.out] at hax
          rw [hax] at c3
          obtain ⟨d, hd⟩ : ∃ z, z = cl.2 := ⟨_, rfl⟩
          obtain ⟨DL, hDL⟩ : ∃ z, z = Lib.byteCells d := ⟨_, rfl⟩
          have hrd : World.rangeAt wr cb (coff + j * 49 + 1) DL := fun t v hv => by
            have h1 := hrx0 (t + 1) v (by
              show (Value.int IntKind.i64 (cl.1 : Nat) :: Lib.byteCells cl.2)[t + 1]? = some v
              rw [List.getElem?_cons_succ, ← hd, ← hDL]
              exact hv)
            rw [← h1, Nat.add_assoc _ 1 t, Nat.add_comm 1 t]
            exact World.cell?_of_block (Hb2.out.block cb (by rw [HB.out]; exact hcb))
          have Hcs := Lib.hid (cells_step hcl)
          rw [← hd] at h48 Hcs
          have hDl : DL.length = 48 := by rw [hDL, Lib.byteCells_length, h48]
          have HDi := Lib.hid (show (Try.prog.info? 42).map (·.size) = some DL.length by rw [hDl]; exact blkSize)
          have HDj := Lib.hid (show (Try.prog.info? 42).map (·.size) = some DL.toArray.size ∧ ZB.toArray.size = DL.toArray.size from ⟨by rw [List.size_toArray, hDl]; exact blkSize, by rw [HZl.out, List.size_toArray, hDl]⟩)
          have HD1 := Lib.hid (show DL.toArray.all (·.oneCell') = true by rw [hDL]; exact dig_one d)
          have HDL := Lib.hid hDL
          have HDl := Lib.hid hDl
          have H48 := Lib.hid h48
          clear hDL hDl hax hcb hrx0 hcl hd h48
          go_upto_region 9 with (first | (refine wpList_allocZC rfl 42 rfl ZB.toArray (HZB.out _) ?_) | (refine wpList_load_mid rfl _ _ rfl cb (coff + j * 49 + 1) rfl DL _ hrd Try.underlying42 rfl HDi.out ?_) | (change wpList _ _ _ _ _ (wr.alloc (.cells ZB.toArray 42)); refine wpList_store_row rfl _ _ _ rfl wr.heap.size DL.toArray rfl rfl 42 ZB.toArray (heap_alloc_new wr _) HDj.out.1 HDj.out.2 HD1.out ?_; obtain ⟨w5, hw5⟩ : ∃ x, x = (wr.alloc (.cells ZB.toArray 42)).setRow wr.heap.size DL.toArray := ⟨_, rfl⟩; rw [← hw5]; obtain ⟨hP5, hb5⟩ := alloc_row wr 42 ZB.toArray DL; rw [← hw5] at hP5 hb5; clear hw5))
          clear c3 hrd
          obtain ⟨ol, hol⟩ : ∃ z, z = nubB (pre ++ (x.v.cells.map (·.2)).take j) := ⟨_, rfl⟩
          rw [← hol] at HR2
          have Holen : Hid (ol.length ≤ 999999) := by
            show ol.length ≤ 999999
            have h1 := nub_len (pre ++ (x.v.cells.map (·.2)).take j)
            have h2 := Hle.out
            have h3 := Hl.out
            rw [Hst.out] at h2
            rw [← hol] at h1
            simp only [List.length_append, List.length_take, List.length_map, Hlx.out] at h1 h2
            omega
          have Hol := Lib.hid hol
          have HR5 := Lib.hid (HR2.out.up hb5)
          have Hb5 := Lib.hid (Hb2.out.trans (hb5.mono (Nat.le_trans hBw Hb2.out.size)))
          obtain ⟨Ao, co, rfl, hco, hcm, hcells⟩ := HR5.out.slice
          obtain ⟨m, hml⟩ : ∃ z, ol.length = z := ⟨_, rfl⟩
          rw [hml] at hco HR2 HR5 ⊢
          have hcm' : co ≤ 9223372036854775807 := by unfold maxLen at hcm; omega
          obtain ⟨gd, hgd⟩ : ∃ z, z = wr.heap.size := ⟨_, rfl⟩
          rw [← hgd] at hP5 ⊢
          have HP5 := Lib.hid hP5
          have Hcells := Lib.hid hcells
          have Hml := Lib.hid hml
          clear hcells hml hcm hol hb5 hP5 HR2 Hb2 hgd
          go_wp2_with fail
          go_loopw [7, 8] (fun th i w2 => ∃ t : Nat, t ≤ m ∧ i = .int .i64 t ∧ th = .bool (decide (d ∈ ol.take t)) ∧ Drawn w5 w2) (fun _ i _ => m - (Go.RowKit.intOf i).toNat)
          case atStart => exact ⟨0, Nat.zero_le _, rfl, by simp, Drawn.refl w5⟩
          case round =>
            obtain ⟨t, ht, rfl, rfl, hD⟩ := hrel
            have HD := Lib.hid hD
            clear hD
            by_cases htm : t < m
            · have hd3 : decide ((t : Int) < (m : Int)) = true := by simp; omega
              obtain ⟨y, hy⟩ : ∃ z, ol[t]? = some z := ⟨_, List.getElem?_eq_getElem (by rw [Hml.out]; exact htm)⟩
              obtain ⟨hy48, ob, ooff, rfl, hob, hor⟩ := Hcells.out t y hy
              obtain ⟨th, hth⟩ : ∃ z, decide (d ∈ ol.take t) = z := ⟨_, rfl⟩
              have Hstep := Lib.hid (mem_step (d := d) hy)
              rw [hth] at Hstep ⊢
              obtain ⟨r0, hr0⟩ : ∃ z, decide (y = d) = z := ⟨_, rfl⟩
              rw [hr0] at Hstep
              obtain ⟨YL, hYL⟩ : ∃ z, z = Lib.byteCells y := ⟨_, rfl⟩
              rw [← hYL] at hor
              have hoy : World.rangeAt wr ob (ooff + t * 48) YL := fun s v hv => ((Drawn.refl w5).cells HD.out _).trans (hor s v hv)
              have HYi := Lib.hid (show (Try.prog.info? 42).map (·.size) = some YL.length by rw [hYL, Lib.byteCells_length, hy48]; exact blkSize)
              have hP2 : Arr wr gd 42 DL := by obtain ⟨dn, e⟩ := HD.out; rw [e]; exact HP5.out
              have Hcmp := Lib.hid (fun w => show (Op.equalIn 10000 42 (.agg YL.toArray) (.agg DL.toArray)).run Try.prog w = .ok r0 w by rw [← hr0]; exact eqv_at Try.underlying42 y d hy48 H48.out YL DL hYL HDL.out w)
              clear hth hr0 hy hor hYL hy48 hob
              go_upto_region 13 with fail
              cases th with
              | false =>
                refine wp_region_held_drew (S := (fun w' => w'.rangeAt ob (ooff + t * 48) YL ∧ Arr w' gd 42 DL)) (by kernel_rfl) ⟨hoy, hP2⟩ (fun hHeld => ?_)
                refine anyH_take (i := 0) (v := .bool false) (some 41) rfl rfl (by kernel_rfl) (by kernel_rfl) (by kernel_rfl) (fun _ _ _ h => h) (Or.inl ⟨by rfl, fun w' hw => by rfl⟩) (by assumption) ?_
                simp only [Act.put, List.setIfInBounds_toArray, List.set_cons_zero, List.set_cons_succ]
                refine anyH_take (i := 1) (v := .bool false) (some 42) rfl rfl (by kernel_rfl) (by kernel_rfl) (by kernel_rfl) (fun _ _ _ h => h) (Or.inl ⟨by rfl, fun w' hw => by rfl⟩) (by assumption) ?_
                simp only [Act.put, List.setIfInBounds_toArray, List.set_cons_zero, List.set_cons_succ]
                refine anyH_take (i := 2) (v := .slice (some ⟨ob, ooff, none⟩) m co) (some 43) rfl rfl (by kernel_rfl) (by kernel_rfl) (by kernel_rfl) (fun _ _ _ h => h) (Or.inl ⟨by rfl, fun w' hw => by rfl⟩) (by assumption) ?_
                simp only [Act.put, List.setIfInBounds_toArray, List.set_cons_zero, List.set_cons_succ]
                refine anyH_take (i := 3) (v := .int .i64 (t : Nat)) (some 44) rfl rfl (by kernel_rfl) (by kernel_rfl) (by kernel_rfl) (fun _ _ _ h => h) (Or.inl ⟨by rfl, fun w' hw => by rfl⟩) (by assumption) ?_
                simp only [Act.put, List.setIfInBounds_toArray, List.set_cons_zero, List.set_cons_succ]
                refine anyH_take (i := 4) (v := .pointer (some ⟨ob, ooff + t * 48, none⟩)) (some 45) rfl rfl (by kernel_rfl) (by kernel_rfl) (by kernel_rfl) (fun _ _ _ h => h) (Or.inl ⟨by rfl, fun w' hw => by (go_simp; try (intro h; omega))⟩) (by assumption) ?_
                simp only [Act.put, List.setIfInBounds_toArray, List.set_cons_zero, List.set_cons_succ]
                refine anyH_take (i := 5) (some 46) rfl rfl (by kernel_rfl) (by kernel_rfl) (by kernel_rfl) (fun _ _ _ h => h) (yieldsIf_load_mid (by rfl) 42 (.tmp 45) rfl ob (ooff + t * 48) rfl YL _ (fun w' h => h.1) Try.underlying42 rfl HYi.out) (by assumption) ?_
                simp only [Act.put, List.setIfInBounds_toArray, List.set_cons_zero, List.set_cons_succ]
                refine anyH_take (i := 6) (some 47) rfl rfl (by kernel_rfl) (by kernel_rfl) (by kernel_rfl) (fun _ _ _ h => h) (yieldsIf_load_mid (by rfl) 42 (.tmp 6) rfl gd 0 rfl DL _ (fun w' h => h.2.range) Try.underlying42 rfl HDi.out) (by assumption) ?_
                simp only [Act.put, List.setIfInBounds_toArray, List.set_cons_zero, List.set_cons_succ]
                refine anyH_take (i := 7) (v := .bool r0) (some 48) rfl rfl (by kernel_rfl) (by kernel_rfl) (by kernel_rfl) (fun _ _ _ h => h) (Or.inl ⟨by rfl, fun w' hw => by (have hc := Hcmp.out; have hg := gtB; go_simp)⟩) (by assumption) ?_
                simp only [Act.put, List.setIfInBounds_toArray, List.set_cons_zero, List.set_cons_succ]
                refine anyH_take (i := 8) (v := .bool r0) (some 49) rfl rfl (by kernel_rfl) (by kernel_rfl) (by kernel_rfl) (fun _ _ _ h => h) (Or.inl ⟨by rfl, fun w' hw => by (go_simp)⟩) (by assumption) ?_
                simp only [Act.put, List.setIfInBounds_toArray, List.set_cons_zero, List.set_cons_succ]
                refine anyH_take (i := 9) (v := .bool r0) (some 7) rfl rfl (by kernel_rfl) (by kernel_rfl) (by kernel_rfl) (fun _ _ _ h => h) (Or.inl ⟨by rfl, fun w' hw => by rfl⟩) (by assumption) ?_
                simp only [Act.put, List.setIfInBounds_toArray, List.set_cons_zero, List.set_cons_succ]
                refine wpAnyH_done (by kernel_rfl) ?_ _
                clear hHeld hP2 hoy
                go_wp2_with fail
                go_roundw
                case rel => exact ⟨t + 1, by omega, by go_num, by rw [Hstep.out]; rfl, HD.out.drewN 1⟩
                case measure => simp [Go.RowKit.intOf]; omega
              | true =>
                refine wp_region_held_drew (S := (fun w' => w'.rangeAt ob (ooff + t * 48) YL ∧ Arr w' gd 42 DL)) (by kernel_rfl) ⟨hoy, hP2⟩ (fun hHeld => ?_)
                refine anyH_take (i := 0) (v := .bool true) (some 41) rfl rfl (by kernel_rfl) (by kernel_rfl) (by kernel_rfl) (fun _ _ _ h => h) (Or.inl ⟨by rfl, fun w' hw => by rfl⟩) (by assumption) ?_
                simp only [Act.put, List.setIfInBounds_toArray, List.set_cons_zero, List.set_cons_succ]
                refine anyH_take (i := 1) (v := .bool true) (some 42) rfl rfl (by kernel_rfl) (by kernel_rfl) (by kernel_rfl) (fun _ _ _ h => h) (Or.inl ⟨by rfl, fun w' hw => by rfl⟩) (by assumption) ?_
                simp only [Act.put, List.setIfInBounds_toArray, List.set_cons_zero, List.set_cons_succ]
                refine anyH_take (i := 2) (v := undef) (some 43) rfl rfl (by kernel_rfl) (by kernel_rfl) (by kernel_rfl) (fun _ _ _ h => h) (Or.inr ⟨by rfl, rfl⟩) (by assumption) ?_
                simp only [Act.put, List.setIfInBounds_toArray, List.set_cons_zero, List.set_cons_succ]
                refine anyH_take (i := 3) (v := undef) (some 44) rfl rfl (by kernel_rfl) (by kernel_rfl) (by kernel_rfl) (fun _ _ _ h => h) (Or.inr ⟨by rfl, rfl⟩) (by assumption) ?_
                simp only [Act.put, List.setIfInBounds_toArray, List.set_cons_zero, List.set_cons_succ]
                refine anyH_take (i := 4) (v := undef) (some 45) rfl rfl (by kernel_rfl) (by kernel_rfl) (by kernel_rfl) (fun _ _ _ h => h) (Or.inr ⟨by rfl, rfl⟩) (by assumption) ?_
                simp only [Act.put, List.setIfInBounds_toArray, List.set_cons_zero, List.set_cons_succ]
                refine anyH_take (i := 5) (v := undef) (some 46) rfl rfl (by kernel_rfl) (by kernel_rfl) (by kernel_rfl) (fun _ _ _ h => h) (Or.inr ⟨by rfl, rfl⟩) (by assumption) ?_
                simp only [Act.put, List.setIfInBounds_toArray, List.set_cons_zero, List.set_cons_succ]
                refine anyH_take (i := 6) (v := undef) (some 47) rfl rfl (by kernel_rfl) (by kernel_rfl) (by kernel_rfl) (fun _ _ _ h => h) (Or.inr ⟨by rfl, rfl⟩) (by assumption) ?_
                simp only [Act.put, List.setIfInBounds_toArray, List.set_cons_zero, List.set_cons_succ]
                refine anyH_take (i := 7) (v := undef) (some 48) rfl rfl (by kernel_rfl) (by kernel_rfl) (by kernel_rfl) (fun _ _ _ h => h) (Or.inr ⟨by rfl, rfl⟩) (by assumption) ?_
                simp only [Act.put, List.setIfInBounds_toArray, List.set_cons_zero, List.set_cons_succ]
                refine anyH_take (i := 8) (v := .bool true) (some 49) rfl rfl (by kernel_rfl) (by kernel_rfl) (by kernel_rfl) (fun _ _ _ h => h) (Or.inl ⟨by rfl, fun w' hw => by (go_simp)⟩) (by assumption) ?_
                simp only [Act.put, List.setIfInBounds_toArray, List.set_cons_zero, List.set_cons_succ]
                refine anyH_take (i := 9) (v := .bool true) (some 7) rfl rfl (by kernel_rfl) (by kernel_rfl) (by kernel_rfl) (fun _ _ _ h => h) (Or.inl ⟨by rfl, fun w' hw => by rfl⟩) (by assumption) ?_
                simp only [Act.put, List.setIfInBounds_toArray, List.set_cons_zero, List.set_cons_succ]
                refine wpAnyH_done (by kernel_rfl) ?_ _
                clear hHeld hP2 hoy
                go_wp2_with fail
                go_roundw
                case rel => exact ⟨t + 1, by omega, by go_num, by rw [Hstep.out]; rfl, HD.out.drewN 1⟩
                case measure => simp [Go.RowKit.intOf]; omega
            · obtain rfl : t = m := by omega
              have hd3 : decide ((t : Int) < (t : Int)) = false := by simp
              have hta : ol.take t = ol := List.take_of_length_le (by rw [Hml.out]; exact Nat.le_refl _)
              rw [hta]
              have HRw : Hid (BRow wr B (.slice Ao t co) ol) := by
                have h := HR5.out
                obtain ⟨dn, e⟩ := HD.out
                rw [e]
                exact h.up (Below.dN (Below.refl _ _) dn)
              have Hbw : Hid (Below B w wr) := by
                obtain ⟨dn, e⟩ := HD.out
                rw [e]
                exact Below.dN Hb5.out dn
              have hPw : Arr wr gd 42 DL := by obtain ⟨dn, e⟩ := HD.out; rw [e]; exact HP5.out
              clear HR5 Hb5 HD hta HP5
              by_cases hin : d ∈ ol
              · have hin' : decide (d ∈ ol) = true := by simpa using hin
                rw [hin']
                have Hnx : Hid (nubB (pre ++ (x.v.cells.map (·.2)).take (j + 1)) = ol) := by
                  show nubB (pre ++ (x.v.cells.map (·.2)).take (j + 1)) = ol
                  rw [Hcs.out, ← List.append_assoc, nub_snoc, ← Hol.out, if_pos hin]
                clear hin hin' hPw
                go_wp2_with fail
                go_roundw
                case rel => exact ⟨j + 1, by omega, by go_num, by rw [Hnx.out]; exact HRw, Hbw⟩
                case measure => simp [Go.RowKit.intOf]; omega
              · have hin' : decide (d ∈ ol) = false := by simpa using hin
                rw [hin']
                have Hnx : Hid (nubB (pre ++ (x.v.cells.map (·.2)).take (j + 1)) = ol ++ [d]) := by
                  show nubB (pre ++ (x.v.cells.map (·.2)).take (j + 1)) = ol ++ [d]
                  rw [Hcs.out, ← List.append_assoc, nub_snoc, ← Hol.out, if_neg hin]
                obtain ⟨wb, hwb⟩ : ∃ z, z = wr.alloc (.cells DL.toArray 42) := ⟨_, rfl⟩
                have hbb : Below wr.heap.size wr wb := by rw [hwb]; exact (Below.refl _ _).alloc (Nat.le_refl _) _
                have hAb : Arr wb wr.heap.size 42 (Lib.byteCells d) := by rw [hwb, ← HDL.out]; exact Arr.new wr _ DL
                have hRb : BRow wb B (.slice Ao t co) ol := HRw.out.up hbb
                have hbw : Below B w wb := Hbw.out.trans (hbb.mono (Nat.le_trans hBw Hbw.out.size))
                have hBb : B ≤ wb.heap.size := Nat.le_trans hBw hbw.size
                have hbo : ol.length ≤ 1000000 := by have := Holen.out; omega
                have Hwb := Lib.hid hwb
                have HDi2 := Lib.hid (show (Try.prog.info? 42).map (·.size) = some DL.toArray.size by rw [List.size_toArray, HDl.out]; exact blkSize)
                have HRb := Lib.hid hRb
                have Hbwb := Lib.hid hbw
                have HAb := Lib.hid hAb
                have Hbo := Lib.hid hbo
                clear hin hin' hwb hbb hRb hbw hAb hbo
                go_upto_region 15 with fail
                go_wp2_with (first
                  | (refine wpList_load_row rfl _ _ rfl gd rfl 42 DL.toArray (0, 0) _ hPw Try.underlying42 rfl HDi2.out ?_)
                  | (refine wpList_build_bk rfl _ rfl DL HDl.out rfl ?_; rw [← Hwb.out])
                  | (at_builtin; refine wpList_append_bk rfl _ _ rfl HRb.out hBb rfl _ _ rfl d H48.out HAb.out Hbo.out ?_; intro v6 w6 hR6 hg6))
                have Hb6 := Lib.hid (Hbwb.out.grown hg6 hBb fun g hg => (HRb.out.lt g hg).1)
                have HR6 := Lib.hid hR6
                clear hR6 hg6 hPw
                go_wp2_with fail
                go_roundw
                case rel => exact ⟨j + 1, by omega, by go_num, by rw [Hnx.out]; exact HR6, Hb6⟩
                case measure => simp [Go.RowKit.intOf]; omega
        · obtain rfl : j = lx := by omega
          have hd2 : decide ((j : Int) < (j : Int)) = false := by simp
          have Hnx : Hid (nubB (blksV (L.take (k + 1))) = nubB (pre ++ (x.v.cells.map (·.2)).take j)) := by
            show nubB (blksV (L.take (k + 1))) = nubB (pre ++ (x.v.cells.map (·.2)).take j)
            rw [Hst.out, List.take_of_length_le (by rw [List.length_map, Hlx.out]; exact Nat.le_refl _)]
          go_wp2_with fail
          go_roundw
          case rel => exact ⟨k + 1, by omega, by go_num, by rw [Hnx.out]; exact HR2, Hb2⟩
          case measure => simp [Go.RowKit.intOf]; omega
    · obtain rfl : k = n := by omega
      have hd1 : decide ((k : Int) < (k : Int)) = false := by simp
      have htk : L.take k = L := List.take_of_length_le (by rw [HnL.out]; exact Nat.le_refl _)
      obtain ⟨Ao, co, rfl, hco, hcm, _⟩ := HR.out.slice
      rw [htk]
      have Hdl : Hid ((nubB (blksV L)).length = distL L) := rfl
      go_wp2_with fail
      go_ret
      exact ⟨_, _, _, rfl, Hdl.out, by rw [← HB.out]; exact Hb.out⟩

end Go.Proofs.Ytcajhndhjlfmaaa

namespace Go.Proofs.Ytcajhndhjlfmaaa
open Go.RowKit
set_option linter.unusedVariables false
set_option linter.unusedSimpArgs false

theorem owns_emptyE (w : World) (base : Nat) (h : base ≤ w.heap.size) : Owns (w.alloc (.cells #[] 5)) base 5 (.slice (some ⟨w.heap.size, 0, none⟩) 0 0) [] :=
  ⟨by simp [Lib.byteCells], .inr ⟨w.heap.size, 0, #[], rfl, h, heap_alloc_new w _, Nat.le_refl _, by unfold maxLen; omega, by simp, by simp [Lib.byteCells]⟩⟩

set_option maxHeartbeats 4000000 in
set_option maxRecDepth 100000 in
theorem rbytes_anyO (B : Nat) (sv : Value) (out bs : List UInt8) (A : Option Addr) (c : Nat) (w : World) (hown : Owns w B 5 sv out) (hB : B ≤ w.heap.size) (hb : Bs w w.heap.size A bs) (hne : ∀ b off, A = some ⟨b, off, none⟩ → sv.ownBlock ≠ some b)
    (hlim : out.length + bs.length + 20 ≤ 140737488355328) :
    Calls Try.prog 58 #[sv, .slice A bs.length c] w (RefPost B sv (out ++ (Lib.uvarint bs.length ++ bs)) w) := by
  obtain ⟨i0, hi, hz0, hz1, hz2⟩ := info_parts byteInfo
  have hlt := hown.lt
  have hk2 := Lib.uvarint_length64 (x := bs.length) (by omega)
  go_enter Try.func58, Try.ntmps58
  go_wp2_with fail
  refine (rnumber_any B bs.length (by omega) sv out w hown hB (by omega)).mono ?_
  rintro e w1 ⟨v1, rfl, hown1, hg1⟩
  have hB1 := Nat.le_trans hB hg1.1.size
  have hb1 : Bs w1 w1.heap.size A bs := fun hp => by
    obtain ⟨b, off, e, hlt', hcc⟩ := hb hp
    have h1 : w1.heap[b]? = w.heap[b]? := hg1.1.block b hlt' (fun e' => hne b off e e'.symm)
    exact ⟨b, off, e, by have := hg1.1.size; omega, fun j hj => (World.cell?_of_block h1).trans (hcc j hj)⟩
  have hln : (out ++ Lib.uvarint bs.length).length + bs.length ≤ 140737488355328 := by rw [List.length_append]; omega
  have Hln := Lib.hid hln
  have Hb1 := Lib.hid hb1
  have Hg1 := Lib.hid hg1
  clear hb hb1 hln hg1 hne hlim
  go_wp2_with (refine wpList_append_bs rfl _ _ 22 rfl B 5 i0 (.int .u8 0) Try.underlying22 hi hz0 hz1 hz2 rfl v1 _ rfl hown1 w1.heap.size A bs.length c bs rfl rfl Hb1.out Hln.out hB1 ?_; intro v2 w2 hown2 hg2)
  have e : out ++ (Lib.uvarint bs.length ++ bs) = (out ++ Lib.uvarint bs.length) ++ bs := by simp
  have H2 := Lib.hid hown2
  have Hg := Lib.hid (Hg1.out.trans hg2)
  have E := Lib.hid e
  clear hown2 hg2 e
  go_wp2
  go_ret
  exact ⟨v2, rfl, by rw [E.out]; exact H2.out, Hg.out⟩

set_option maxHeartbeats 16000000 in
set_option maxRecDepth 100000 in
theorem revent_any (o : Op15) (ho : OpOk o) (h1 : o.name.size ≤ 100) (h2 : o.other.size ≤ 100) (OL : List Value) (hOL : OL = opC o) (w : World) :
    Calls Try.prog 25 #[.agg OL.toArray] w fun e w' => ∃ v, e = .returned v ∧ Owns w' w.heap.size 5 v (evF o) ∧ Below w.heap.size w w' := by
  obtain ⟨i0, hi, hz0, hz1, hz2⟩ := info_parts byteInfo
  obtain ⟨hk0, hk1, hk2, hk3, hk4⟩ := opC_at hOL
  obtain ⟨W1, hW1⟩ : ∃ z, z = w.alloc (.cells OL.toArray 44) := ⟨_, rfl⟩
  have hb1 : Below w.heap.size w W1 := by rw [hW1]; exact (Below.refl _ _).alloc (Nat.le_refl _) _
  have hA1 : Arr W1 w.heap.size 44 OL := by rw [hW1]; exact Arr.new w _ _
  have hs1 : W1.heap.size = w.heap.size + 1 := by rw [hW1]; simp
  obtain ⟨g, hg⟩ : ∃ z, z = w.heap.size := ⟨_, rfl⟩
  obtain ⟨B, hB⟩ : ∃ z, z = W1.heap.size := ⟨_, rfl⟩
  rw [← hg] at hA1
  have hgB : g < B := by omega
  have hwB : w.heap.size ≤ B := by omega
  obtain ⟨kd, hkd⟩ : ∃ z, z = o.kind := ⟨_, rfl⟩
  obtain ⟨n, hn⟩ : ∃ z, z = o.num := ⟨_, rfl⟩
  obtain ⟨q, hq⟩ : ∃ z, z = o.quota := ⟨_, rfl⟩
  obtain ⟨nm, hnm⟩ : ∃ z, z = o.name := ⟨_, rfl⟩
  obtain ⟨ot, hot⟩ : ∃ z, z = o.other := ⟨_, rfl⟩
  rw [← hkd] at hk0
  rw [← hnm] at hk1 h1
  rw [← hot] at hk2 h2
  rw [← hn] at hk3
  rw [← hq] at hk4
  have Hc0 := Lib.hid (show ∀ w', Below B W1 w' → w'.cell? ⟨g, 0, none⟩ = some (.int .i64 kd) from fun w' h => by rw [(hA1.below h hgB).cell]; exact hk0)
  have Hc1 := Lib.hid (show ∀ w', Below B W1 w' → w'.cell? ⟨g, 1, none⟩ = some (.string nm) from fun w' h => by rw [(hA1.below h hgB).cell]; exact hk1)
  have Hc2 := Lib.hid (show ∀ w', Below B W1 w' → w'.cell? ⟨g, 2, none⟩ = some (.string ot) from fun w' h => by rw [(hA1.below h hgB).cell]; exact hk2)
  have Hc3 := Lib.hid (show ∀ w', Below B W1 w' → w'.cell? ⟨g, 3, none⟩ = some (.int .i64 n) from fun w' h => by rw [(hA1.below h hgB).cell]; exact hk3)
  have Hc4 := Lib.hid (show ∀ w', Below B W1 w' → w'.cell? ⟨g, 4, none⟩ = some (.int .i64 q) from fun w' h => by rw [(hA1.below h hgB).cell]; exact hk4)
  obtain ⟨x, hx⟩ : ∃ x, uF kd = x := ⟨_, rfl⟩
  obtain ⟨y, hy⟩ : ∃ y, uF n = y := ⟨_, rfl⟩
  obtain ⟨z, hz⟩ : ∃ z, uF q = z := ⟨_, rfl⟩
  have hxw : IntKind.u64.wrap kd = (x : Int) := by rw [← hx]; exact (uF_wrap kd).1
  have hyw : IntKind.u64.wrap n = (y : Int) := by rw [← hy]; exact (uF_wrap n).1
  have hzw : IntKind.u64.wrap q = (z : Int) := by rw [← hz]; exact (uF_wrap q).1
  have hxl : x < 18446744073709551616 := by rw [← hx]; exact (uF_wrap kd).2
  have hyl : y < 18446744073709551616 := by rw [← hy]; exact (uF_wrap n).2
  have hzl : z < 18446744073709551616 := by rw [← hz]; exact (uF_wrap q).2
  obtain ⟨n8, hn8⟩ : ∃ l, nm.data.toList = l := ⟨_, rfl⟩
  obtain ⟨o8, ho8⟩ : ∃ l, ot.data.toList = l := ⟨_, rfl⟩
  have hn8l : n8.length = nm.size := by rw [← hn8]; rfl
  have ho8l : o8.length = ot.size := by rw [← ho8]; rfl
  have Hev := Lib.hid (show evF o = ([] ++ Lib.uvarint x ++ Lib.uvarint y ++ Lib.uvarint z ++ (Lib.uvarint n8.length ++ n8) ++ (Lib.uvarint o8.length ++ o8)) ++ (if kd = 3 then o.blk else []) by
    rw [hn8l, ho8l, ← hn8, ← ho8, ← hx, ← hy, ← hz, hkd, hn, hq, hnm, hot]
    simp [evF, evN, evS])
  have e1 := Lib.uvarint_length64 hxl
  have e2 := Lib.uvarint_length64 hyl
  have e3 := Lib.uvarint_length64 hzl
  have e4 := Lib.uvarint_length64 (x := n8.length) (by omega)
  have e5 := Lib.uvarint_length64 (x := o8.length) (by omega)
  obtain ⟨X, hXe⟩ : ∃ X, X = Lib.uvarint x := ⟨_, rfl⟩
  obtain ⟨Y, hYe⟩ : ∃ X, X = Lib.uvarint y := ⟨_, rfl⟩
  obtain ⟨Z, hZe⟩ : ∃ X, X = Lib.uvarint z := ⟨_, rfl⟩
  obtain ⟨N8, hNe⟩ : ∃ X, X = Lib.uvarint n8.length ++ n8 := ⟨_, rfl⟩
  obtain ⟨O8, hOe⟩ : ∃ X, X = Lib.uvarint o8.length ++ o8 := ⟨_, rfl⟩
  have e6 : N8.length ≤ 110 := by rw [hNe, List.length_append]; omega
  have e7 : O8.length ≤ 110 := by rw [hOe, List.length_append]; omega
  have HXe := Lib.hid hXe
  have HYe := Lib.hid hYe
  have HZe := Lib.hid hZe
  have HNe := Lib.hid hNe
  have HOe := Lib.hid hOe
  rw [← hXe] at e1 Hev
  rw [← hYe] at e2 Hev
  rw [← hZe] at e3 Hev
  rw [← hNe] at Hev
  rw [← hOe] at Hev
  have Hn8 := Lib.hid hn8
  have Ho8 := Lib.hid ho8
  have hn8b : n8.length ≤ 100 := by omega
  have ho8b : o8.length ≤ 100 := by omega
  have Hn8l := Lib.hid hn8l
  have Ho8l := Lib.hid ho8l
  have Hk0 := Lib.hid hk0
  have HOL := Lib.hid hOL
  have HW1 := Lib.hid hW1
  have Hg := Lib.hid hg
  have HB := Lib.hid hB
  have Hb1 := Lib.hid hb1
  have HA1 := Lib.hid hA1
  have H48 := Lib.hid ho.b48
  have h48 := ho.b48
  have hL : B ≤ W1.heap.size := by rw [hB]; exact Nat.le_refl _
  clear hOL hW1 hk0 hk1 hk2 hk3 hk4 hkd hn hq hnm hot hg hB hb1 hA1 hs1 ho hXe hYe hZe hNe hOe hn8 ho8 e4 e5 hn8l ho8l hx hy hz
  have hb2 : Below B W1 (W1.alloc (.cells #[] 5)) := (Below.refl _ _).alloc hL _
  have HO := Lib.hid (owns_emptyE W1 B hL)
  have Hb2 := Lib.hid hb2
  have hc := Hc0.out _ hb2
  clear hb2
  go_enter Try.func25, Try.ntmps25
  go_upto_region 1 with fail
  rw [← HW1.out, ← Hg.out]
  clear HW1
  go_wp2_with fail
  refine (rnumber_any B x hxl _ [] _ HO.out (Nat.le_trans hL Hb2.out.size) (by simp only [List.length_append, List.length_nil]; omega)).mono ?_
  rintro e w3 ⟨v1, rfl, hOn, hgn⟩
  have hbn : Below B W1 w3 := Hb2.out.trans (hgn.below (Nat.le_trans hL Hb2.out.size) fun k hk => (HO.out.lt k hk).1)
  clear HO Hb2 hc
  rw [← HXe.out] at hOn
  have HO := Lib.hid hOn
  have Hb2 := Lib.hid hbn
  have hc := Hc3.out w3 hbn
  clear hOn hbn hgn
  go_wp2_with fail
  refine (rnumber_any B y hyl v1 ([] ++ X) w3 HO.out (Nat.le_trans hL Hb2.out.size) (by simp only [List.length_append, List.length_nil]; omega)).mono ?_
  rintro e w4 ⟨v2, rfl, hOn, hgn⟩
  have hbn : Below B W1 w4 := Hb2.out.trans (hgn.below (Nat.le_trans hL Hb2.out.size) fun k hk => (HO.out.lt k hk).1)
  clear HO Hb2 hc
  rw [← HYe.out] at hOn
  have HO := Lib.hid hOn
  have Hb2 := Lib.hid hbn
  have hc := Hc4.out w4 hbn
  clear hOn hbn hgn
  go_wp2_with fail
  refine (rnumber_any B z hzl v2 ([] ++ X ++ Y) w4 HO.out (Nat.le_trans hL Hb2.out.size) (by simp only [List.length_append, List.length_nil]; omega)).mono ?_
  rintro e w5 ⟨v3, rfl, hOn, hgn⟩
  have hbn : Below B W1 w5 := Hb2.out.trans (hgn.below (Nat.le_trans hL Hb2.out.size) fun k hk => (HO.out.lt k hk).1)
  clear HO Hb2 hc
  rw [← HZe.out] at hOn
  have HO := Lib.hid hOn
  have Hb2 := Lib.hid hbn
  have hc := Hc1.out w5 hbn
  clear hOn hbn hgn
  obtain ⟨cp3, hcp⟩ : ∃ z, z = grownCap w5 nm.size 0 5 := ⟨_, rfl⟩
  obtain ⟨w6, hwc⟩ : ∃ z, z = Lib.bytesWorld w5 5 nm := ⟨_, rfl⟩
  have hcv : (convert 9 22 (.string nm)).run Try.prog w5 = .ok (.slice (some ⟨w5.heap.size, 0, none⟩) n8.length cp3) w6 := by
    rw [Hn8l.out, hcp, hwc]
    exact Lib.run_convert_string_bytes w5 _ _ 5 nm Try.underlying9 Try.underlying22 Try.underlying5
  have hbc : Below w5.heap.size w5 w6 := by
    rw [hwc]
    exact ⟨rfl, rfl, rfl, by rw [Lib.bytesWorld_size]; omega, fun i hi => Lib.bytesWorld_at_old w5 _ nm i hi⟩
  have hbb : Bs w6 w6.heap.size (some ⟨w5.heap.size, 0, none⟩) n8 := fun hp => ⟨w5.heap.size, 0, rfl, by rw [hwc, Lib.bytesWorld_size]; omega, fun j hj => by
    rw [hwc, Nat.zero_add, ← Hn8.out]
    exact Lib.bytesWorld_cell w5 _ nm j (by rw [← Hn8l.out]; exact hj)⟩
  have hOc : Owns w6 B 5 v3 ([] ++ X ++ Y ++ Z) := HO.out.below hbc fun k hk => (HO.out.lt k hk).2
  have hlim : (([] ++ X ++ Y ++ Z)).length + n8.length + 20 ≤ 140737488355328 := by simp only [List.length_append, List.length_nil]; omega
  have Hn := Lib.hid (rbytes_anyO B v3 (([] ++ X ++ Y ++ Z)) n8 (some ⟨w5.heap.size, 0, none⟩) cp3 w6 hOc (Nat.le_trans (Nat.le_trans hL Hb2.out.size) hbc.size) hbb (fun b off e e2 => by injection e with e; injection e with e; have := (HO.out.lt b e2).2; omega) hlim)
  have HOc := Lib.hid hOc
  have Hbc := Lib.hid (Hb2.out.trans (hbc.mono (Nat.le_trans hL Hb2.out.size)))
  clear hbc hbb hOc hcp hwc hlim
  go_wp2_with fail
  refine Calls.mono Hn.out ?_
  rintro e w7 ⟨v4, rfl, hOn, hgn⟩
  have hbn : Below B W1 w7 := Hbc.out.trans (hgn.below (Nat.le_trans hL Hbc.out.size) fun k hk => (HOc.out.lt k hk).1)
  clear hgn HO Hb2 HOc Hbc hcv Hn hc
  rw [← HNe.out] at hOn
  have HO := Lib.hid hOn
  have Hb2 := Lib.hid hbn
  have hc := Hc2.out w7 hbn
  clear hOn hbn
  obtain ⟨cp4, hcp⟩ : ∃ z, z = grownCap w7 ot.size 0 5 := ⟨_, rfl⟩
  obtain ⟨w8, hwc⟩ : ∃ z, z = Lib.bytesWorld w7 5 ot := ⟨_, rfl⟩
  have hcv : (convert 9 22 (.string ot)).run Try.prog w7 = .ok (.slice (some ⟨w7.heap.size, 0, none⟩) o8.length cp4) w8 := by
    rw [Ho8l.out, hcp, hwc]
    exact Lib.run_convert_string_bytes w7 _ _ 5 ot Try.underlying9 Try.underlying22 Try.underlying5
  have hbc : Below w7.heap.size w7 w8 := by
    rw [hwc]
    exact ⟨rfl, rfl, rfl, by rw [Lib.bytesWorld_size]; omega, fun i hi => Lib.bytesWorld_at_old w7 _ ot i hi⟩
  have hbb : Bs w8 w8.heap.size (some ⟨w7.heap.size, 0, none⟩) o8 := fun hp => ⟨w7.heap.size, 0, rfl, by rw [hwc, Lib.bytesWorld_size]; omega, fun j hj => by
    rw [hwc, Nat.zero_add, ← Ho8.out]
    exact Lib.bytesWorld_cell w7 _ ot j (by rw [← Ho8l.out]; exact hj)⟩
  have hOc : Owns w8 B 5 v4 ([] ++ X ++ Y ++ Z ++ N8) := HO.out.below hbc fun k hk => (HO.out.lt k hk).2
  have hlim : (([] ++ X ++ Y ++ Z ++ N8)).length + o8.length + 20 ≤ 140737488355328 := by simp only [List.length_append, List.length_nil]; omega
  have Hn := Lib.hid (rbytes_anyO B v4 (([] ++ X ++ Y ++ Z ++ N8)) o8 (some ⟨w7.heap.size, 0, none⟩) cp4 w8 hOc (Nat.le_trans (Nat.le_trans hL Hb2.out.size) hbc.size) hbb (fun b off e e2 => by injection e with e; injection e with e; have := (HO.out.lt b e2).2; omega) hlim)
  have HOc := Lib.hid hOc
  have Hbc := Lib.hid (Hb2.out.trans (hbc.mono (Nat.le_trans hL Hb2.out.size)))
  clear hbc hbb hOc hcp hwc hlim
  go_wp2_with fail
  refine Calls.mono Hn.out ?_
  rintro e w9 ⟨v5, rfl, hOn, hgn⟩
  have hbn : Below B W1 w9 := Hbc.out.trans (hgn.below (Nat.le_trans hL Hbc.out.size) fun k hk => (HOc.out.lt k hk).1)
  clear hgn HO Hb2 HOc Hbc hcv Hn hc
  rw [← HOe.out] at hOn
  have HO := Lib.hid hOn
  have Hb2 := Lib.hid hbn
  have hc := Hc0.out w9 hbn
  clear hOn hbn
  have hAr := HA1.out.below Hb2.out hgB
  have hbk : Bs w9 w9.heap.size (some ⟨g, 5, none⟩) o.blk := fun _ => ⟨g, 5, rfl, hAr.lt, fun j hj => by
    rw [hAr.cell, HOL.out]
    show ([.int .i64 o.kind, .string o.name, .string o.other, .int .i64 o.num, .int .i64 o.quota] ++ Lib.byteCells o.blk)[5 + j]? = _
    rw [List.getElem?_append_right (by simp)]
    have := byteCells_get hj
    simpa using this⟩
  have hbw : Below w.heap.size w w9 := Hb1.out.trans (Hb2.out.mono hwB)
  have hpl : ([] ++ X ++ Y ++ Z ++ N8 ++ O8).length ≤ 250 := by simp only [List.length_append, List.length_nil]; omega
  have hBr := Nat.le_trans hL Hb2.out.size
  obtain ⟨pre, hpre⟩ : ∃ p, p = [] ++ X ++ Y ++ Z ++ N8 ++ O8 := ⟨_, rfl⟩
  have hO2 := HO.out
  rw [← hpre] at Hev hO2 hpl
  have HO3 := Lib.hid hO2
  have Hbw := Lib.hid hbw
  have Hbk := Lib.hid hbk
  have Hpl := Lib.hid hpl
  clear HO hO2 hbw hbk hpl hAr hpre e1 e2 e3 e6 e7 hn8b ho8b
  by_cases h3 : kd = 3
  · have hd3 : decide (kd = 3) = true := by simpa using h3
    rw [if_pos h3] at Hev
    go_wp2_with (refine wpList_append_bs rfl _ _ 22 rfl B 5 i0 (.int .u8 0) Try.underlying22 hi hz0 hz1 hz2 rfl v5 pre rfl HO3.out w9.heap.size (some ⟨g, 5, none⟩) 48 48 o.blk rfl H48.out Hbk.out (by have := Hpl.out; omega) hBr ?_; intro v6 w10 hO6 hg6)
    have hb6 : Below w.heap.size w w10 := Hbw.out.trans (hg6.below (by have := Hbw.out.size; exact this) fun k hk => by have := (HO3.out.lt k hk).1; omega)
    rw [← Hev.out] at hO6
    have HO6 := Lib.hid (owns_down hO6 hwB)
    clear hg6 hc hO6
    go_wp2_with fail
    go_ret
    exact ⟨_, rfl, HO6.out, hb6⟩
  · have hd3 : decide (kd = 3) = false := by simpa using h3
    rw [if_neg h3, List.append_nil] at Hev
    have HO6 := Lib.hid (owns_down HO3.out hwB)
    rw [← Hev.out] at HO6
    go_wp2_with fail
    go_ret
    exact ⟨_, rfl, HO6.out, Hbw.out⟩
end Go.Proofs.Ytcajhndhjlfmaaa

namespace Go.Proofs.Ytcajhndhjlfmaaa
open Go.RowKit
set_option linter.unusedVariables false
set_option linter.unusedSimpArgs false

theorem OpsAt.more {w : World} {B B' : Nat} {A : Option Addr} {xs : List Op15} (h : OpsAt w B A xs) (hB : B ≤ B') : OpsAt w B' A xs :=
  ⟨h.1, fun hp => by obtain ⟨b, off, e, hlt, hc⟩ := h.2 hp; exact ⟨b, off, e, by omega, hc⟩⟩
/-- Names stay where nothing but older blocks is turned. -/
theorem nm_only {w w' : World} {F : Nat → Prop} {B n c : Nat} {A : Option Addr} {ns : List ByteArray} (h : NmsAt w B (.slice A n c) ns) (hO : Only F w w') (hF : ∀ b, F b → b < B) : NmAt w' A ns := fun j s hj => by
  obtain ⟨A2, c2, e, _, _, hN⟩ := h.slice
  injection e with e1 e2 e3
  subst e1
  obtain ⟨b, off, e4, hlt, hc⟩ := hN j s hj
  have hB : B ≤ b := by
    rcases h.2 with ⟨e5, _⟩ | ⟨g, cap, cur, e5, h1, _⟩
    · injection e5 with e5
      rw [e5] at e4; cases e4
    · injection e5 with e5
      rw [e5] at e4
      injection e4 with e4
      injection e4 with e4
      omega
  exact ⟨b, off, e4, Nat.lt_of_lt_of_le hlt hO.size, (World.cell?_of_block (hO.block b hlt fun hf => by have := hF b hf; omega)).trans hc⟩

set_option maxHeartbeats 32000000 in
set_option maxRecDepth 100000 in
theorem mdoes_walk (A : Option Addr) (n c : Nat) (xs : List Op15) (hn : xs.length = n) (hc : n ≤ c) (hm : c ≤ maxLen) (w : World) (hxs : OpsAt w w.heap.size A xs) :
    Calls Try.prog 4 #[.slice A n c] w fun e w' => e = .returned (.bool true) ∧ Below w.heap.size w w' := by
  unfold maxLen at hm
  obtain ⟨AZ, hAZ⟩ : ∃ z, z = ansZ := ⟨_, rfl⟩
  obtain ⟨OZ, hOZ⟩ : ∃ z, z = opZ := ⟨_, rfl⟩
  have HZA := Lib.hid (fun w : World => show (zeroValue 47).run Try.prog w = .ok (.agg AZ.toArray) w by rw [hAZ]; exact ansZero w)
  have HAi := Lib.hid (fun (AL : List Value) (h : AL.length = 51) => show (Try.prog.info? 47).map (·.size) = some AL.toArray.size ∧ AZ.toArray.size = AL.toArray.size by rw [List.size_toArray, List.size_toArray, h, hAZ]; exact ⟨ansSize, rfl⟩)
  have HZO := Lib.hid (fun w : World => show (zeroValue 44).run Try.prog w = .ok (.agg OZ.toArray) w by rw [hOZ]; exact opZero w)
  have HOZ := Lib.hid (show OZ.toArray.size = 53 by rw [hOZ]; rfl)
  have Hn := Lib.hid hn
  have Hxs := Lib.hid hxs
  clear hAZ hOZ hn hxs
  go_enter Try.func4, Try.ntmps4
  go_wp2_with fail
  refine Calls.mono (speaks15_any w) ?_
  rintro e w2 ⟨rfl, hb2⟩
  obtain ⟨gr, hgr⟩ : ∃ z, great15 xs = z := ⟨_, rfl⟩
  have Hgr := Lib.hid (great15_any xs A n c w2 Hn.out hc hm ((Hxs.out.below hb2 (Nat.le_refl _)).more hb2.size))
  rw [hgr] at Hgr
  go_wp2_with fail
  refine Calls.mono Hgr.out ?_
  rintro e w5 ⟨rfl, hb5⟩
  have hbw5 := hb2.trans (hb5.mono hb2.size)
  clear Hgr hb2 hb5
  cases gr with
  | true =>
    go_wp2_with fail
    go_ret
    exact ⟨rfl, hbw5⟩
  | false =>
    have hg80 := (great15_no hgr).1
    have Hnm := Lib.hid (great15_no hgr).2
    rw [Hn.out] at hg80
    clear hgr
    go_wp2_with fail
    refine Calls.mono (mnew_any w5) ?_
    rintro e w6 ⟨s, rfl, hs6, hM6, hb6⟩
    obtain ⟨B1, hB1⟩ : ∃ z, z = w5.heap.size := ⟨_, rfl⟩
    have hwB : w.heap.size ≤ B1 := by rw [hB1]; exact hbw5.size
    have hF6 : ∀ b, newF (fun _ => False) w5 w6 b → B1 ≤ b := fun b h => h.elim (fun h => h.elim) fun h => by rw [hB1]; exact h.1
    obtain ⟨F6, hFe⟩ : ∃ z, z = newF (fun _ => False) w5 w6 := ⟨_, rfl⟩
    rw [← hFe] at hF6 hM6
    rw [← hB1] at hb6
    have Hxs5 := Lib.hid (Hxs.out.below hbw5 (Nat.le_refl _))
    have Hbw5 := Lib.hid hbw5
    have HB1 := Lib.hid hB1
    clear hFe hbw5 hB1
    go_upto_region 6 with fail
    obtain ⟨w7, hw7⟩ : ∃ z, z = w6.alloc (.cells #[] 106) := ⟨_, rfl⟩
    change Code.wp _ _ _ _ (w6.alloc (.cells #[] 106))
    rw [← hw7]
    have hb67 : Below w6.heap.size w6 w7 := by rw [hw7]; exact (Below.refl _ _).alloc (Nat.le_refl _) _
    have hM7 := hM6.below hb67
    have hb7 : Below B1 w5 w7 := hb6.trans (hb67.mono (by have := hb6.size; rw [HB1.out]; exact this))
    have HS7 := Lib.hid (show VSl w7 (fun _ => False) (some ⟨w6.heap.size, 0, none⟩) 0 0 [] from ⟨[], rfl, rfl, Nat.le_refl _, by unfold maxLen; omega, ⟨fun h => absurd h (by simp), fun x hx => by cases hx⟩, .inr ⟨_, 0, rfl⟩⟩)
    clear hM6 hb6 hb67 hw7
    go_wp2_with fail
    go_loopw [4, 17] (fun lv i wr => ∃ (k : Nat) (F G : Nat → Prop) (L : List Vol) (Al : Option Addr) (ml cl : Nat), k ≤ n ∧ i = .int .i64 k ∧ lv = .slice Al ml cl ∧ MdL wr F s L ∧ Hid (VSl wr G Al ml cl L) ∧ Hid (L.length ≤ k) ∧ Hid (∀ v ∈ L, v.cells.length ≤ k) ∧ Hid (∀ b, F b → B1 ≤ b) ∧ Hid (∀ b, G b → ¬ F b ∧ b < wr.heap.size) ∧ Below B1 w5 wr) (fun _ i _ => n - (Go.RowKit.intOf i).toNat)
    case atStart => exact ⟨0, F6, _, [], _, 0, 0, Nat.zero_le _, rfl, rfl, hM7, HS7, Nat.le_refl _, (fun v hv => by cases hv), Lib.hid hF6, (fun b hb => hb.elim), hb7⟩
    case round =>
      clear hM7 hF6 hb7 HS7
      obtain ⟨k, F, G, L, Al, ml, cl, hk, rfl, rfl, hM, HS, HL, HC, HF, HG, hbr⟩ := hrel
      by_cases hlt : k < n
      · have hd1 : decide ((k : Int) < (n : Int)) = true := by simp; omega
        obtain ⟨x, hx⟩ : ∃ x, xs[k]? = some x := ⟨xs[k]'(by rw [Hn.out]; exact hlt), List.getElem?_eq_getElem _⟩
        obtain ⟨b, off, rfl, hblk, hrow⟩ := Hxs5.out.2 (by rw [Hn.out]; omega)
        have hxo := Hxs5.out.1 x (List.mem_of_getElem? hx)
        have Hxn := Lib.hid (Hnm.out x (List.mem_of_getElem? hx))
        obtain ⟨VL, hVL⟩ : ∃ VL, VL = opC x := ⟨_, rfl⟩
        have hVl : VL.length = 53 := by rw [hVL, opC_length hxo.b48]
        have hrg : wr.rangeAt b (off + k * 53) VL := fun j v hj => by
          rw [hVL] at hj
          rw [← hrow k x hx j v hj]
          exact World.cell?_of_block (hbr.block b (by have := hwB; omega))
        have HVi := Lib.hid (show (Try.prog.info? 44).map (·.size) = some VL.length by rw [hVl]; exact opSize)
        have HVj := Lib.hid (show (Try.prog.info? 44).map (·.size) = some VL.toArray.size by rw [List.size_toArray, hVl]; exact opSize)
        have HV1 := Lib.hid (show VL.toArray.all (·.oneCell') = true by rw [hVL]; exact all_oneCell_toArray (opC_one x))
        have HVz := Lib.hid (show OZ.toArray.size = VL.toArray.size by rw [HOZ.out, List.size_toArray, hVl])
        obtain ⟨wa, hwa⟩ : ∃ W, W = (wr.alloc (.cells OZ.toArray 44)).setRow wr.heap.size VL.toArray := ⟨_, rfl⟩
        obtain ⟨hVa, hbra⟩ := alloc_row wr 44 OZ.toArray VL
        rw [← hwa] at hVa hbra
        have Hwa := Lib.hid hwa
        have HVL := Lib.hid hVL
        have Hxo := Lib.hid hxo
        clear hwa hx hrow hVL hVl hxo
        have hMa := hM.below hbra
        have HSa := Lib.hid (HS.out.below hbra)
        have HGa := Lib.hid (show ∀ b, G b → ¬ F b ∧ b < wa.heap.size from fun b hb => ⟨(HG.out b hb).1, Nat.lt_of_lt_of_le (HG.out b hb).2 hbra.size⟩)
        have hba : Below B1 w5 wa := hbr.trans (hbra.mono (by have := hbr.size; rw [HB1.out]; exact this))
        have hBa : B1 ≤ wa.heap.size := by have := hba.size; rw [HB1.out]; exact this
        obtain ⟨gx, hgx⟩ : ∃ z, z = wr.heap.size := ⟨_, rfl⟩
        have Hgx := Lib.hid hgx
        have HNG := Lib.hid (show ¬ F gx from fun e => by have := hM.lt gx e; omega)
        have HFa := Lib.hid (show ∀ b, F b → b < wa.heap.size from hMa.lt)
        rw [← hgx] at hVa
        clear hM hbra hbr hgx HS HG
        go_upto_region 9 with (first | ((with_reducible refine wpList_at 20 (by rfl) ?_); refine wpList_load_mid rfl _ _ rfl b (off + k * 53) rfl VL _ hrg Try.underlying44 rfl HVi.out ?_) | (refine wpList_allocZC rfl 44 rfl OZ.toArray (HZO.out _) ?_) | (refine wpList_store_row rfl _ _ _ rfl wr.heap.size VL.toArray rfl rfl 44 OZ.toArray (heap_alloc_new wr _) HVj.out HVz.out HV1.out ?_; rw [← Hwa.out]))
        rw [← Hgx.out]
        clear hrg
        have hL80 : L.length ≤ 80 := by have := HL.out; omega
        go_wp2_with (first | ((with_reducible refine wpList_at 23 (by rfl) ?_); refine wpList_load_row rfl 44 _ rfl gx rfl 44 VL.toArray (0, 0) _ hVa Try.underlying44 rfl HVj.out ?_))
        obtain ⟨L8, a8, hdo⟩ : ∃ L' a', doL L x = (L', a') := ⟨_, _, rfl⟩
        have hl8 : L8.length ≤ k + 1 := by have := doL_length L x; rw [hdo] at this; have := HL.out; dsimp only at *; omega
        have Hc8 := Lib.hid (show ∀ v ∈ L8, v.cells.length ≤ k + 1 by have := doL_cells L x k HC.out; rw [hdo] at this; exact this)
        have Hblk := Lib.hid (show a8.blk.length = 48 by have := doL_blk hMa x; rw [hdo] at this; exact this)
        have Hbl := Lib.hid (show (blksV L8).length ≤ 1000000 from blksV_small Hc8.out (by omega) (by omega))
        refine Calls.mono (rdo_any Al ml cl L x Hxo.out VL HVL.out wa G HSa.out (fun b hb => (HGa.out b hb).2) (by omega) hMa.rise hMa.ok) ?_
        rintro e w7 ⟨A7, n7, c7, nv7, he, hS7, hN7, hb7⟩
        rw [hdo] at he hS7 hN7
        dsimp only at he hS7 hN7
        obtain ⟨An, cn, hnv, hn1, hn2, hNA⟩ := hN7.slice
        subst hnv
        obtain ⟨nn, hnn⟩ : ∃ z, a8.nms.length = z := ⟨_, rfl⟩
        rw [hnn] at he hn1 hN7
        obtain ⟨WL, hWL⟩ : ∃ z, z = ansV a8 (.slice An nn cn) := ⟨_, rfl⟩
        rw [← hWL] at he
        subst he
        have hWl : WL.length = 51 := by rw [hWL]; unfold ansV; exact ansC_length (by rw [Lib.byteCells_length]; exact Hblk.out)
        have HWi := Lib.hid (HAi.out WL hWl)
        have HWn := Lib.hid (show (Try.prog.info? 47).map (·.size) = some WL.length by rw [hWl]; exact ansSize)
        have HWo := Lib.hid (show WL.toArray.all (·.oneCell') = true by rw [hWL]; exact ansC_one rfl)
        have HWL := Lib.hid hWL
        have Hnn := Lib.hid hnn
        have Hn12 := Lib.hid (show nn ≤ cn ∧ cn ≤ maxLen from ⟨hn1, hn2⟩)
        have hV7 := hVa.up hb7
        have hM7 := hMa.below hb7
        have hb7w : Below B1 w5 w7 := hba.trans (hb7.mono hBa)
        have hsz7 := hb7.size
        obtain ⟨G7, hG7⟩ : ∃ z : Nat → Prop, z = (fun b => G b ∨ (wa.heap.size ≤ b ∧ b < w7.heap.size)) := ⟨_, rfl⟩
        have hS7' : VSl w7 G7 A7 n7 c7 L8 := hS7.more fun b hb h => by rw [hG7]; exact h.elim .inl fun h => .inr ⟨h, hb⟩
        have HG7 := Lib.hid (show ∀ b, G7 b → ¬ F b ∧ b < w7.heap.size by
          rw [hG7]
          rintro b (h | ⟨h1, h2⟩)
          · exact ⟨(HGa.out b h).1, Nat.lt_of_lt_of_le (HGa.out b h).2 hsz7⟩
          · exact ⟨fun hf => by have := HFa.out b hf; omega, h2⟩)
        obtain ⟨ga, hga⟩ : ∃ z, z = w7.heap.size := ⟨_, rfl⟩
        have HNA := Lib.hid (show ¬ F ga from fun e => by have := HFa.out ga e; omega)
        have HN7 := Lib.hid hN7
        have HS7 := Lib.hid hS7'
        have Hdo := Lib.hid hdo
        have hBw7 : B1 ≤ w7.heap.size := by have := hb7w.size; rw [HB1.out]; exact this
        have Hga := Lib.hid hga
        clear hVa hMa hba hb7 hS7 hS7' hN7 hNA hnn hWL hWl hdo hG7 HSa HGa hga hn1 hn2
        go_upto_region 10 with (first | ((with_reducible refine wpList_at 8 (by rfl) ?_); refine wpList_allocZC rfl 47 rfl AZ.toArray (HZA.out _) ?_) | (change wpList _ _ _ _ _ (w7.alloc (.cells AZ.toArray 47)); refine wpList_store_row rfl _ _ _ rfl w7.heap.size WL.toArray rfl rfl 47 AZ.toArray (heap_alloc_new w7 _) HWi.out.1 HWi.out.2 HWo.out ?_; obtain ⟨w8, hw8⟩ : ∃ x, x = (w7.alloc (.cells AZ.toArray 47)).setRow w7.heap.size WL.toArray := ⟨_, rfl⟩; rw [← hw8]; obtain ⟨hPx, hby⟩ := alloc_row w7 47 AZ.toArray WL; rw [← hw8] at hPx hby; clear hw8))
        rw [← Hga.out] at hPx ⊢
        have hV8 := hV7.up hby
        have hM8 := hM7.below hby
        have HS8 := Lib.hid (HS7.out.below hby)
        have HN8 := Lib.hid (HN7.out.up hby)
        have hb8 : Below B1 w5 w8 := hb7w.trans (hby.mono hBw7)
        have hB8 : B1 ≤ w8.heap.size := Nat.le_trans hBw7 hby.size
        have HG8 := Lib.hid (show ∀ b, G7 b → ¬ F b ∧ b < w8.heap.size from fun b hb => ⟨(HG7.out b hb).1, Nat.lt_of_lt_of_le (HG7.out b hb).2 hby.size⟩)
        have HF8 := Lib.hid (show ∀ b, F b → b < w8.heap.size from hM8.lt)
        obtain ⟨kx, hkx⟩ : ∃ z, z = x.kind := ⟨_, rfl⟩
        have Hkx := Lib.hid (fun (w' : World) (h : Arr w' gx 44 VL) => show w'.cell? ⟨gx, 0, none⟩ = some (.int .i64 kx) by rw [hkx]; exact (c12_cells h HVL.out).1)
        obtain ⟨ch, hch⟩ : ∃ z, changesB kx = z := ⟨_, rfl⟩
        have Hch := Lib.hid hch
        have hcc : (ch != ch) = false := by cases ch <;> rfl
        obtain ⟨dl, hdl⟩ : ∃ z, distL L8 = z := ⟨_, rfl⟩
        have Hdl := Lib.hid hdl
        have hdd : (((dl : Nat) : Int) != ((dl : Nat) : Int)) = false := by simp
        have hdd2 : ((dl : Int) == (dl : Int)) = true := by simp
        have Hzs := HS8
        obtain ⟨ne, hne⟩ : ∃ z, (evF x).length = z := ⟨_, rfl⟩
        have Hne := Lib.hid hne
        have Hnel := Lib.hid (show ne ≤ maxLen by rw [← hne]; have := ev_le Hxo.out.b48 Hxn.out.1 Hxn.out.2; unfold maxLen; omega)
        have hVx := hV8
        have hPz := hPx
        clear hV7 hM7 hb7w hby HS7 HN7 HG7 hkx hch hdl hne
        refine wp_region_held_drew (S := (fun w' => Arr w' gx 44 VL ∧ Arr w' ga 47 WL)) (by kernel_rfl) ⟨hVx, hPz⟩ (fun hHeld => ?_)
        refine anyH_take (i := 0) (v := (.pointer (some ⟨s, 0, none⟩))) (some 27) rfl rfl (by kernel_rfl) (by kernel_rfl) (by kernel_rfl) (fun _ _ _ h => h) (Or.inl ⟨by rfl, fun w' hw => by (go_simp)⟩) (by assumption) ?_
        simp only [Act.put, List.setIfInBounds_toArray, List.set_cons_zero, List.set_cons_succ]
        refine anyH_take (i := 1) (some 28) rfl rfl (by kernel_rfl) (by kernel_rfl) (by kernel_rfl) (fun _ _ _ h => h) (yieldsIf_load_mid (by rfl) 44 (.tmp 6) rfl gx 0 rfl VL _ (fun w' h => (h.1).range) Try.underlying44 rfl HVi.out) (by assumption) ?_
        simp only [Act.put, List.setIfInBounds_toArray, List.set_cons_zero, List.set_cons_succ]
        refine anyH_take (i := 3) (some 30) rfl rfl (by kernel_rfl) (by kernel_rfl) (by kernel_rfl) (fun _ _ _ h => h) (yieldsIf_load_mid (by rfl) 47 (.tmp 8) rfl ga 0 rfl WL _ (fun w' h => (h.2).range) Try.underlying47 rfl HWn.out) (by assumption) ?_
        simp only [Act.put, List.setIfInBounds_toArray, List.set_cons_zero, List.set_cons_succ]
        refine wpAnyH_ready (rs := [2]) (by kernel_rfl) (by simp) ?_
        refine AllReadyH.cons rfl (fun K hK => ?_) AllReadyH.nil
        go_simp
        go_at_call 17
        refine Calls.mono (do_any s x Hxo.out VL HVL.out _ F L (hM8.below (Below.dN (Below.refl _ w8) 1)) (by omega)) ?_
        rintro e w9 ⟨nv9, he, hN9, hM9, hO9⟩
        have hO9 : Only F w8 w9 := (Only.of_below (Below.dN (Below.refl _ w8) 1)).trans hO9
        have hN9 : NmsAt w9 w8.heap.size nv9 (doL L x).2.nms := hN9
        have hM9 : MdL w9 (newF F w8 w9) s (doL L x).1 := hM9
        rw [Hdo.out] at he hN9 hM9
        dsimp only at he hN9 hM9
        obtain ⟨Am, cm, hnv, hm1, hm2, hMA⟩ := hN9.slice
        subst hnv
        rw [Hnn.out] at he hm1
        obtain ⟨ML, hML⟩ : ∃ z, z = ansV a8 (.slice Am nn cm) := ⟨_, rfl⟩
        rw [← hML] at he
        subst he
        have HML := Lib.hid hML
        have hV9 := only_arr hVx hO9 HNG.out
        have hP9 := only_arr hPz hO9 HNA.out
        have HS9 := Lib.hid (HS8.out.only hO9 fun b hb => (HG8.out b hb).1)
        have HNx := Lib.hid (nm_only HN8.out hO9 HFa.out)
        have hB9 : Below B1 w5 w9 := hb8.trans (hO9.below hB8 HF.out)
        have HF9 := Lib.hid (show ∀ b, newF F w8 w9 b → B1 ≤ b from fun b h => h.elim (HF.out b) fun h => Nat.le_trans hB8 h.1)
        have HG9 := Lib.hid (show ∀ b, G7 b → ¬ newF F w8 w9 b ∧ b < w9.heap.size from fun b hb => ⟨fun h => h.elim (HG8.out b hb).1 fun h => by have := (HG8.out b hb).2; omega, Nat.lt_of_lt_of_le (HG8.out b hb).2 hO9.size⟩)
        have hs9 : B1 ≤ w9.heap.size := Nat.le_trans hB8 hO9.size
        obtain ⟨F9, hFe⟩ : ∃ z, z = newF F w8 w9 := ⟨_, rfl⟩
        rw [← hFe] at hM9 HF9 HG9
        clear hFe hN9 hO9 hML hVx hPz
        refine hK.out _ _ ⟨hV9, hP9⟩ (fun hHeldx => ?_)
        clear hK K
        try simp only [Act.put, List.setIfInBounds_toArray, List.set_cons_zero, List.set_cons_succ]
        refine wpAnyH_ready (rs := [4]) (by kernel_rfl) (by simp) ?_
        refine AllReadyH.cons rfl (fun K hK => ?_) AllReadyH.nil
        go_simp
        go_at_call 16
        refine Calls.mono (sans_any a8 Hblk.out Am An nn cm cn Hnn.out ⟨hm1, hm2⟩ Hn12.out ML WL HML.out HWL.out w9 hMA HNx.out) ?_
        rintro e w10 ⟨rfl, hb10⟩
        have hV10 := hV9.up hb10
        have hP10 := hP9.up hb10
        have hM10 := hM9.below hb10
        have HS10 := Lib.hid (HS9.out.below hb10)
        have hB10 := hB9.trans (hb10.mono hs9)
        have hs10 := Nat.le_trans hs9 hb10.size
        have HG10 := Lib.hid (show ∀ b, G7 b → ¬ F9 b ∧ b < w10.heap.size from fun b hb => ⟨(HG9.out b hb).1, Nat.lt_of_lt_of_le (HG9.out b hb).2 hb10.size⟩)
        clear hb10 hV9 hP9 hM9 hB9 hMA
        refine hK.out _ _ ⟨hV10, hP10⟩ (fun hHeldx => ?_)
        clear hK K
        try simp only [Act.put, List.setIfInBounds_toArray, List.set_cons_zero, List.set_cons_succ]
        refine anyH_take (i := 5) (v := .bool false) (some 32) rfl rfl (by kernel_rfl) (by kernel_rfl) (by kernel_rfl) (fun _ _ _ h => h) (Or.inl ⟨by rfl, fun w' hw => by (go_simp)⟩) (by assumption) ?_
        simp only [Act.put, List.setIfInBounds_toArray, List.set_cons_zero, List.set_cons_succ]
        refine anyH_take (i := 6) (v := .bool false) (some 33) rfl rfl (by kernel_rfl) (by kernel_rfl) (by kernel_rfl) (fun _ _ _ h => h) (Or.inl ⟨by rfl, fun w' hw => by (go_simp)⟩) (by assumption) ?_
        simp only [Act.put, List.setIfInBounds_toArray, List.set_cons_zero, List.set_cons_succ]
        refine anyH_take (i := 7) (v := (.pointer (some ⟨s, 0, none⟩))) (some 34) rfl rfl (by kernel_rfl) (by kernel_rfl) (by kernel_rfl) (fun _ _ _ h => h) (Or.inl ⟨by rfl, fun w' hw => by (go_simp)⟩) (by assumption) ?_
        simp only [Act.put, List.setIfInBounds_toArray, List.set_cons_zero, List.set_cons_succ]
        refine anyH_take (i := 9) (v := .slice A7 n7 c7) (some 36) rfl rfl (by kernel_rfl) (by kernel_rfl) (by kernel_rfl) (fun _ _ _ h => h) (Or.inl ⟨by rfl, fun w' hw => by (go_simp)⟩) (by assumption) ?_
        simp only [Act.put, List.setIfInBounds_toArray, List.set_cons_zero, List.set_cons_succ]
        refine wpAnyH_ready (rs := [8]) (by kernel_rfl) (by simp) ?_
        refine AllReadyH.cons rfl (fun K hK => ?_) AllReadyH.nil
        go_simp
        go_at_call 19
        refine Calls.mono (images_any s w10 F9 L8 hM10 (by omega)) ?_
        rintro e w11 ⟨A11, c11, ys, rfl, hy1, hy2, hy3, hy4, hb11⟩
        have hV11 := hV10.up hb11
        have hP11 := hP10.up hb11
        have hM11 := hM10.below hb11
        have HS11 := Lib.hid (HS10.out.below hb11)
        have hB11 := hB10.trans (hb11.mono hs10)
        have hs11 := Nat.le_trans hs10 hb11.size
        have HG11 := Lib.hid (show ∀ b, G7 b → ¬ F9 b ∧ b < w11.heap.size from fun b hb => ⟨(HG10.out b hb).1, Nat.lt_of_lt_of_le (HG10.out b hb).2 hb11.size⟩)
        obtain ⟨ny, hny⟩ : ∃ z, ys.length = z := ⟨_, rfl⟩
        rw [hny] at hy1 ⊢
        have Hny := Lib.hid hny
        obtain ⟨zs, hz1, hz2, hz3, hz4, hz5, _⟩ := HS11.out
        have Hsm := Lib.hid (same12_any A11 A7 ny c11 n7 c7 ys zs w11 _ _ hy3 hz5 Hny.out hz2 hy1 hy2 hz3 hz4 true (by rw [hy4, hz1]; simp))
        clear hy3 hy4 hny hz1 hz2 hz5
        clear hb11 hV10 hP10 hM10 hB10
        refine hK.out _ _ ⟨hV11, hP11⟩ (fun hHeldx => ?_)
        clear hK K
        try simp only [Act.put, List.setIfInBounds_toArray, List.set_cons_zero, List.set_cons_succ]
        refine wpAnyH_ready (rs := [10]) (by kernel_rfl) (by simp) ?_
        refine AllReadyH.cons rfl (fun K hK => ?_) AllReadyH.nil
        go_simp
        go_at_call 18
        refine Calls.mono (Hsm.out) ?_
        rintro e w12 ⟨rfl, hD12⟩
        have hb12 : Below w11.heap.size w11 w12 := by obtain ⟨dn, e⟩ := hD12; rw [e]; exact Below.dN (Below.refl _ _) dn
        clear Hsm hD12
        have hV12 := hV11.up hb12
        have hP12 := hP11.up hb12
        have hM12 := hM11.below hb12
        have HS12 := Lib.hid (HS11.out.below hb12)
        have hB12 := hB11.trans (hb12.mono hs11)
        have hs12 := Nat.le_trans hs11 hb12.size
        have HG12 := Lib.hid (show ∀ b, G7 b → ¬ F9 b ∧ b < w12.heap.size from fun b hb => ⟨(HG11.out b hb).1, Nat.lt_of_lt_of_le (HG11.out b hb).2 hb12.size⟩)
        clear hb12 hV11 hP11 hM11 hB11
        refine hK.out _ _ ⟨hV12, hP12⟩ (fun hHeldx => ?_)
        clear hK K
        try simp only [Act.put, List.setIfInBounds_toArray, List.set_cons_zero, List.set_cons_succ]
        refine anyH_take (i := 11) (v := .bool false) (some 38) rfl rfl (by kernel_rfl) (by kernel_rfl) (by kernel_rfl) (fun _ _ _ h => h) (Or.inl ⟨by rfl, fun w' hw => by (go_simp)⟩) (by assumption) ?_
        simp only [Act.put, List.setIfInBounds_toArray, List.set_cons_zero, List.set_cons_succ]
        refine anyH_take (i := 12) (v := .bool false) (some 39) rfl rfl (by kernel_rfl) (by kernel_rfl) (by kernel_rfl) (fun _ _ _ h => h) (Or.inl ⟨by rfl, fun w' hw => by (go_simp)⟩) (by assumption) ?_
        simp only [Act.put, List.setIfInBounds_toArray, List.set_cons_zero, List.set_cons_succ]
        refine anyH_take (i := 13) (v := .bool false) (some 40) rfl rfl (by kernel_rfl) (by kernel_rfl) (by kernel_rfl) (fun _ _ _ h => h) (Or.inl ⟨by rfl, fun w' hw => by (go_simp)⟩) (by assumption) ?_
        simp only [Act.put, List.setIfInBounds_toArray, List.set_cons_zero, List.set_cons_succ]
        refine anyH_take (i := 14) (v := (.pointer (some ⟨s, 0, none⟩))) (some 41) rfl rfl (by kernel_rfl) (by kernel_rfl) (by kernel_rfl) (fun _ _ _ h => h) (Or.inl ⟨by rfl, fun w' hw => by (go_simp)⟩) (by assumption) ?_
        simp only [Act.put, List.setIfInBounds_toArray, List.set_cons_zero, List.set_cons_succ]
        refine anyH_take (i := 16) (v := .slice A7 n7 c7) (some 43) rfl rfl (by kernel_rfl) (by kernel_rfl) (by kernel_rfl) (fun _ _ _ h => h) (Or.inl ⟨by rfl, fun w' hw => by (go_simp)⟩) (by assumption) ?_
        simp only [Act.put, List.setIfInBounds_toArray, List.set_cons_zero, List.set_cons_succ]
        refine wpAnyH_ready (rs := [15]) (by kernel_rfl) (by simp) ?_
        refine AllReadyH.cons rfl (fun K hK => ?_) AllReadyH.nil
        go_simp
        go_at_call 20
        refine Calls.mono (distinct_any s w12 F9 L8 hM12 (by omega)) ?_
        rintro e w13 ⟨he, hb13⟩
        rw [Hdl.out] at he
        subst he
        have hV13 := hV12.up hb13
        have hP13 := hP12.up hb13
        have hM13 := hM12.below hb13
        have HS13 := Lib.hid (HS12.out.below hb13)
        have hB13 := hB12.trans (hb13.mono hs12)
        have hs13 := Nat.le_trans hs12 hb13.size
        have HG13 := Lib.hid (show ∀ b, G7 b → ¬ F9 b ∧ b < w13.heap.size from fun b hb => ⟨(HG12.out b hb).1, Nat.lt_of_lt_of_le (HG12.out b hb).2 hb13.size⟩)
        clear hb13 hV12 hP12 hM12 hB12
        refine hK.out _ _ ⟨hV13, hP13⟩ (fun hHeldx => ?_)
        clear hK K
        try simp only [Act.put, List.setIfInBounds_toArray, List.set_cons_zero, List.set_cons_succ]
        refine wpAnyH_ready (rs := [17]) (by kernel_rfl) (by simp) ?_
        refine AllReadyH.cons rfl (fun K hK => ?_) AllReadyH.nil
        go_simp
        go_at_call 21
        refine Calls.mono (rblocks_any A7 n7 c7 L8 w13 _ HS13.out Hbl.out) ?_
        rintro e w14 ⟨A14, m14, c14, rfl, hm14, hb14⟩
        rw [Hdl.out] at hm14
        subst m14
        have hV14 := hV13.up hb14
        have hP14 := hP13.up hb14
        have hM14 := hM13.below hb14
        have HS14 := Lib.hid (HS13.out.below hb14)
        have hB14 := hB13.trans (hb14.mono hs13)
        have hs14 := Nat.le_trans hs13 hb14.size
        have HG14 := Lib.hid (show ∀ b, G7 b → ¬ F9 b ∧ b < w14.heap.size from fun b hb => ⟨(HG13.out b hb).1, Nat.lt_of_lt_of_le (HG13.out b hb).2 hb14.size⟩)
        clear hb14 hV13 hP13 hM13 hB13
        refine hK.out _ _ ⟨hV14, hP14⟩ (fun hHeldx => ?_)
        clear hK K
        try simp only [Act.put, List.setIfInBounds_toArray, List.set_cons_zero, List.set_cons_succ]
        refine anyH_take (i := 18) (v := .int .i64 (dl : Nat)) (some 45) rfl rfl (by kernel_rfl) (by kernel_rfl) (by kernel_rfl) (fun _ _ _ h => h) (Or.inl ⟨by rfl, fun w' hw => by (go_simp)⟩) (by assumption) ?_
        simp only [Act.put, List.setIfInBounds_toArray, List.set_cons_zero, List.set_cons_succ]
        refine anyH_take (i := 19) (v := .bool false) (some 46) rfl rfl (by kernel_rfl) (by kernel_rfl) (by kernel_rfl) (fun _ _ _ h => h) (Or.inl ⟨by rfl, fun w' hw => by (go_simp)⟩) (by assumption) ?_
        simp only [Act.put, List.setIfInBounds_toArray, List.set_cons_zero, List.set_cons_succ]
        refine anyH_take (i := 20) (v := .bool false) (some 47) rfl rfl (by kernel_rfl) (by kernel_rfl) (by kernel_rfl) (fun _ _ _ h => h) (Or.inl ⟨by rfl, fun w' hw => by (go_simp)⟩) (by assumption) ?_
        simp only [Act.put, List.setIfInBounds_toArray, List.set_cons_zero, List.set_cons_succ]
        refine anyH_take (i := 21) (v := .bool false) (some 48) rfl rfl (by kernel_rfl) (by kernel_rfl) (by kernel_rfl) (fun _ _ _ h => h) (Or.inl ⟨by rfl, fun w' hw => by (go_simp)⟩) (by assumption) ?_
        simp only [Act.put, List.setIfInBounds_toArray, List.set_cons_zero, List.set_cons_succ]
        refine anyH_take (i := 22) (v := .pointer (some ⟨gx, 0, none⟩)) (some 49) rfl rfl (by kernel_rfl) (by kernel_rfl) (by kernel_rfl) (fun _ _ _ h => h) (Or.inl ⟨by rfl, fun w' hw => by (go_simp)⟩) (by assumption) ?_
        simp only [Act.put, List.setIfInBounds_toArray, List.set_cons_zero, List.set_cons_succ]
        refine anyH_take (i := 23) (v := .int .i64 kx) (some 50) rfl rfl (by kernel_rfl) (by kernel_rfl) (by kernel_rfl) (fun _ _ _ h => h) (Or.inl ⟨by rfl, fun w' hw => by (have hcq := Hkx.out w' hw.1; go_simp)⟩) (by assumption) ?_
        simp only [Act.put, List.setIfInBounds_toArray, List.set_cons_zero, List.set_cons_succ]
        refine anyH_take (i := 25) (v := .pointer (some ⟨gx, 0, none⟩)) (some 52) rfl rfl (by kernel_rfl) (by kernel_rfl) (by kernel_rfl) (fun _ _ _ h => h) (Or.inl ⟨by rfl, fun w' hw => by (go_simp)⟩) (by assumption) ?_
        simp only [Act.put, List.setIfInBounds_toArray, List.set_cons_zero, List.set_cons_succ]
        refine anyH_take (i := 26) (v := .int .i64 kx) (some 53) rfl rfl (by kernel_rfl) (by kernel_rfl) (by kernel_rfl) (fun _ _ _ h => h) (Or.inl ⟨by rfl, fun w' hw => by (have hcq := Hkx.out w' hw.1; go_simp)⟩) (by assumption) ?_
        simp only [Act.put, List.setIfInBounds_toArray, List.set_cons_zero, List.set_cons_succ]
        refine wpAnyH_ready (rs := [24]) (by kernel_rfl) (by simp) ?_
        refine AllReadyH.cons rfl (fun K hK => ?_) AllReadyH.nil
        go_simp
        go_at_call 22
        refine Calls.mono (changes_any kx w14 ch Hch.out) ?_
        rintro e w15 ⟨rfl, rfl⟩
        refine hK.out _ _ ⟨hV14, hP14⟩ (fun hHeldx => ?_)
        clear hK K
        try simp only [Act.put, List.setIfInBounds_toArray, List.set_cons_zero, List.set_cons_succ]
        refine wpAnyH_ready (rs := [27]) (by kernel_rfl) (by simp) ?_
        refine AllReadyH.cons rfl (fun K hK => ?_) AllReadyH.nil
        go_simp
        go_at_call 23
        refine Calls.mono (rchanges_any kx w14 ch Hch.out) ?_
        rintro e w15 ⟨rfl, rfl⟩
        refine hK.out _ _ ⟨hV14, hP14⟩ (fun hHeldx => ?_)
        clear hK K
        try simp only [Act.put, List.setIfInBounds_toArray, List.set_cons_zero, List.set_cons_succ]
        refine anyH_take (i := 28) (v := .bool false) (some 55) rfl rfl (by kernel_rfl) (by kernel_rfl) (by kernel_rfl) (fun _ _ _ h => h) (Or.inl ⟨by rfl, fun w' hw => by (go_simp)⟩) (by assumption) ?_
        simp only [Act.put, List.setIfInBounds_toArray, List.set_cons_zero, List.set_cons_succ]
        refine anyH_take (i := 29) (v := .bool false) (some 56) rfl rfl (by kernel_rfl) (by kernel_rfl) (by kernel_rfl) (fun _ _ _ h => h) (Or.inl ⟨by rfl, fun w' hw => by (go_simp)⟩) (by assumption) ?_
        simp only [Act.put, List.setIfInBounds_toArray, List.set_cons_zero, List.set_cons_succ]
        refine anyH_take (i := 30) (v := .bool false) (some 57) rfl rfl (by kernel_rfl) (by kernel_rfl) (by kernel_rfl) (fun _ _ _ h => h) (Or.inl ⟨by rfl, fun w' hw => by (go_simp)⟩) (by assumption) ?_
        simp only [Act.put, List.setIfInBounds_toArray, List.set_cons_zero, List.set_cons_succ]
        refine anyH_take (i := 31) (some 58) rfl rfl (by kernel_rfl) (by kernel_rfl) (by kernel_rfl) (fun _ _ _ h => h) (yieldsIf_load_mid (by rfl) 44 (.tmp 6) rfl gx 0 rfl VL _ (fun w' h => (h.1).range) Try.underlying44 rfl HVi.out) (by assumption) ?_
        simp only [Act.put, List.setIfInBounds_toArray, List.set_cons_zero, List.set_cons_succ]
        refine anyH_take (i := 33) (some 60) rfl rfl (by kernel_rfl) (by kernel_rfl) (by kernel_rfl) (fun _ _ _ h => h) (yieldsIf_load_mid (by rfl) 44 (.tmp 6) rfl gx 0 rfl VL _ (fun w' h => (h.1).range) Try.underlying44 rfl HVi.out) (by assumption) ?_
        simp only [Act.put, List.setIfInBounds_toArray, List.set_cons_zero, List.set_cons_succ]
        refine wpAnyH_ready (rs := [32]) (by kernel_rfl) (by simp) ?_
        refine AllReadyH.cons rfl (fun K hK => ?_) AllReadyH.nil
        go_simp
        go_at_call 24
        refine Calls.mono (event_any x Hxo.out Hxn.out.1 Hxn.out.2 VL HVL.out w14) ?_
        rintro e w15 ⟨v15, rfl, hv15, hb15⟩
        obtain ⟨A15, c15, rfl, hle15, hcm15, hbs15⟩ := hv15.slice
        rw [Hne.out] at hle15 ⊢
        have hV15 := hV14.up hb15
        have hP15 := hP14.up hb15
        have hM15 := hM14.below hb15
        have HS15 := Lib.hid (HS14.out.below hb15)
        have hB15 := hB14.trans (hb15.mono hs14)
        have hs15 := Nat.le_trans hs14 hb15.size
        have HG15 := Lib.hid (show ∀ b, G7 b → ¬ F9 b ∧ b < w15.heap.size from fun b hb => ⟨(HG14.out b hb).1, Nat.lt_of_lt_of_le (HG14.out b hb).2 hb15.size⟩)
        have Hbs15 := Lib.hid hbs15
        clear hb15 hV14 hP14 hM14 hB14
        refine hK.out _ _ ⟨hV15, hP15⟩ (fun hHeldx => ?_)
        clear hK K
        try simp only [Act.put, List.setIfInBounds_toArray, List.set_cons_zero, List.set_cons_succ]
        refine wpAnyH_ready (rs := [34]) (by kernel_rfl) (by simp) ?_
        refine AllReadyH.cons rfl (fun K hK => ?_) AllReadyH.nil
        go_simp
        go_at_call 25
        refine Calls.mono (revent_any x Hxo.out Hxn.out.1 Hxn.out.2 VL HVL.out w15) ?_
        rintro e w16 ⟨v16, rfl, hv16, hb16⟩
        obtain ⟨A16, c16, rfl, hle16, hcm16, hbs16⟩ := hv16.slice
        rw [Hne.out] at hle16 ⊢
        have Hbs15x := Lib.hid (Hbs15.out.below hb16 (Nat.le_refl _))
        have hV16 := hV15.up hb16
        have hP16 := hP15.up hb16
        have hM16 := hM15.below hb16
        have HS16 := Lib.hid (HS15.out.below hb16)
        have hB16 := hB15.trans (hb16.mono hs15)
        have hs16 := Nat.le_trans hs15 hb16.size
        have HG16 := Lib.hid (show ∀ b, G7 b → ¬ F9 b ∧ b < w16.heap.size from fun b hb => ⟨(HG15.out b hb).1, Nat.lt_of_lt_of_le (HG15.out b hb).2 hb16.size⟩)
        have Hbs16 := Lib.hid hbs16
        clear hb16 hV15 hP15 hM15 hB15
        refine hK.out _ _ ⟨hV16, hP16⟩ (fun hHeldx => ?_)
        clear hK K
        try simp only [Act.put, List.setIfInBounds_toArray, List.set_cons_zero, List.set_cons_succ]
        refine wpAnyH_ready (rs := [35]) (by kernel_rfl) (by simp) ?_
        refine AllReadyH.cons rfl (fun K hK => ?_) AllReadyH.nil
        go_simp
        go_at_call 10
        refine Calls.mono (same_n _ _ A15 A16 c15 c16 ne ne (evF x) (evF x) w16 true Hbs15x.out Hbs16.out Hne.out Hne.out Hnel.out Hnel.out (by simp)) ?_
        rintro e w17 ⟨rfl, hD17⟩
        have hb17 : Below w16.heap.size w16 w17 := by obtain ⟨dn, e⟩ := hD17; rw [e]; exact Below.dN (Below.refl _ _) dn
        clear hD17
        have hV17 := hV16.up hb17
        have hP17 := hP16.up hb17
        have hM17 := hM16.below hb17
        have HS17 := Lib.hid (HS16.out.below hb17)
        have hB17 := hB16.trans (hb17.mono hs16)
        have hs17 := Nat.le_trans hs16 hb17.size
        have HG17 := Lib.hid (show ∀ b, G7 b → ¬ F9 b ∧ b < w17.heap.size from fun b hb => ⟨(HG16.out b hb).1, Nat.lt_of_lt_of_le (HG16.out b hb).2 hb17.size⟩)
        have HM17 := Lib.hid hM17
        have HB17 := Lib.hid hB17
        clear hb17 hV16 hP16 hM16 hB16
        refine hK.out _ _ ⟨hV17, hP17⟩ (fun hHeldx => ?_)
        clear hK K
        try simp only [Act.put, List.setIfInBounds_toArray, List.set_cons_zero, List.set_cons_succ]
        refine anyH_take (i := 36) (v := .bool false) (some 63) rfl rfl (by kernel_rfl) (by kernel_rfl) (by kernel_rfl) (fun _ _ _ h => h) (Or.inl ⟨by rfl, fun w' hw => by (go_simp)⟩) (by assumption) ?_
        simp only [Act.put, List.setIfInBounds_toArray, List.set_cons_zero, List.set_cons_succ]
        refine anyH_take (i := 37) (v := .bool false) (some 64) rfl rfl (by kernel_rfl) (by kernel_rfl) (by kernel_rfl) (fun _ _ _ h => h) (Or.inl ⟨by rfl, fun w' hw => by (go_simp)⟩) (by assumption) ?_
        simp only [Act.put, List.setIfInBounds_toArray, List.set_cons_zero, List.set_cons_succ]
        refine wpAnyH_done (by kernel_rfl) ?_ _
        go_wp2_with fail
        go_roundw
        case rel => exact ⟨k + 1, F9, G7, L8, A7, n7, c7, by omega, by go_num, rfl, HM17.out, HS17, hl8, Hc8, HF9, HG17, HB17.out⟩
        case measure => (simp [Go.RowKit.intOf]; try omega)
      · have hd1 : decide ((k : Int) < (n : Int)) = false := by simp; omega
        go_wp2_with fail
        go_ret
        exact ⟨rfl, Hbw5.out.trans (hbr.mono hwB)⟩

end Go.Proofs.Ytcajhndhjlfmaaa

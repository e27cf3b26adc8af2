/-
  The walk of BinCodes.
-/
import Derived.Test.YtccccpadnaocfaaInCalls
import Derived.Test.YtccccpadnaocfaaDig
import Derived.Test.YtccccpadnaocfaaBinRoot
import Derived.Test.YtccccpadnaocfaaBinStand
import Derived.Test.YtccccpadnaocfaaDiskWrite
import Derived.Test.YtccccpadnaocfaaDiskBad
import Derived.Test.YtccccpadnaocfaaBinRead
import Derived.Test.YtccccpadnaocfaaDiskTurn
import Derived.Test.YtccccpadnaocfaaDiskNew
import Derived.Test.YtccccpadnaocfaaBinMath
import Derived.Test.YtccccpadnaocfaaFrom
import Derived.Test.YtccccpadnaocfaaRefNum
import Derived.Test.YtccccpadnaocfaaPackMath
import Derived.Deep.Slices
import Derived.Deep.Fields
import Derived.Test.YtccccpadnaocfaaSame
namespace Go.Proofs.Ytccccpadnaocfaa
open Go.RowKit
set_option linter.unusedVariables false

set_option maxHeartbeats 1000000 in
theorem wrong_in (p : Nat) (l : List UInt8) (wr : Bool) (w : World) (h : PIn w p l wr) :
    Calls Try.prog 39 #[.pointer (some ⟨p, 0, none⟩)] w fun e w' => e = .returned (.bool wr) ∧ w = w' := by
  obtain ⟨A, c, hg, h1, h2, h3, h4⟩ := h
  obtain ⟨c0, c1, f0, f1⟩ := PIn.cells hg
  go_enter Try.func39, Try.ntmps39
  go_wp2
  go_ret
  exact ⟨rfl, rfl⟩

end Go.Proofs.Ytccccpadnaocfaa

namespace Go.Proofs.Ytccccpadnaocfaa
open Go.RowKit
set_option linter.unusedVariables false

def rdF (L : List UInt8) (o : Nat) (wr : Bool) : List UInt8 := (takeF 32 L o wr).1 ++ zeros.drop (takeF 32 L o wr).1.length

def RDigPost (q : Nat) (L : List UInt8) (A : Option Addr) (c o : Nat) (wr : Bool) (w : World) (e : Ending) (w' : World) : Prop :=
  e = .returned (digV (rdF L o wr)) ∧ RIn w' q L A c (takeF 32 L o wr).2.1 (takeF 32 L o wr).2.2 ∧ Turn q w w'

theorem takeF_length (n : Nat) (L : List UInt8) (o : Nat) (wr : Bool) : (takeF n L o wr).1.length ≤ n := by
  unfold takeF
  split
  · simp
  · simp only [List.length_take]; omega

/-- The array behind k rounds. -/
def rowK (r : List UInt8) (k : Nat) : List Value := (Lib.byteCells r).take k ++ (Lib.byteCells zeros).drop k

theorem rowK_length {r : List UInt8} {k : Nat} (hk : k ≤ r.length) (hr : r.length ≤ 32) : (rowK r k).length = 32 := by
  unfold rowK
  rw [List.length_append, List.length_take, List.length_drop, zl, Lib.byteCells_length]
  omega

theorem rowK_get {r : List UInt8} {k : Nat} (hk : k < r.length) (hr : r.length ≤ 32) : (rowK r k)[k]? = some (.int .u8 0) := by
  unfold rowK
  have hl : ((Lib.byteCells r).take k).length = k := by rw [List.length_take, Lib.byteCells_length]; omega
  rw [List.getElem?_append_right (by omega), hl, Nat.sub_self, List.getElem?_drop]
  have : (Lib.byteCells zeros)[k + 0]? = some (.int .u8 ((zeros.getD k 0).toNat : Nat)) := byteCells_get (by simp [zeros]; omega)
  rw [this]
  have hz0 : zeros.getD k 0 = 0 := by
    unfold zeros
    simp only [List.getD, List.getElem?_replicate]
    split <;> rfl
  rw [hz0]
  rfl

theorem rowK_set {r : List UInt8} {k x : Nat} (hk : k < r.length) (hr : r.length ≤ 32) (hx : (r.getD k 0).toNat = x) : (rowK r k).set k (.int .u8 x) = rowK r (k + 1) := by
  have hl : ((Lib.byteCells r).take k).length = k := by rw [List.length_take, Lib.byteCells_length]; omega
  have hz : k < (Lib.byteCells zeros).length := by rw [zl]; omega
  have hkr : k < (Lib.byteCells r).length := by rw [Lib.byteCells_length]; omega
  unfold rowK
  rw [List.set_append_right _ _ (by omega), hl, Nat.sub_self, List.drop_eq_getElem_cons hz, List.set_cons_zero, List.take_succ_eq_append_getElem hkr, List.append_assoc]
  congr 2
  have h1 := byteCells_get hk
  rw [List.getElem?_eq_getElem hkr, hx] at h1
  injection h1 with h1
  rw [h1]

theorem Wrote.cell {g i : Nat} {w : World} {v : Value} : Wrote g w (w.setCell ⟨g, i, none⟩ v) :=
  ⟨⟨rfl, rfl, rfl, by simp [World.setCell], fun k _ hk => Below.heap_setCell w _ v k (fun e => hk (by rw [e]))⟩, by simp [World.setCell]⟩

set_option maxHeartbeats 8000000 in
set_option maxRecDepth 100000 in
theorem rdigest_in (q : Nat) (L : List UInt8) (A : Option Addr) (c o : Nat) (wb : Bool) (w : World) (h : RIn w q L A c o wb) (hf : RFix w q L A c) (ho : o ≤ L.length) :
    Calls Try.prog 41 #[.pointer (some ⟨q, 0, none⟩)] w (RDigPost q L A c o wb w) := by
  have hq := h.lt
  obtain ⟨Z, hZ⟩ : ∃ Z : Array Value, Z = (Lib.byteCells zeros).toArray := ⟨_, rfl⟩
  have hZs : Z.size = 32 := by rw [hZ]; simp [Lib.byteCells, zeros]
  have hZi : (Try.prog.info? 29).map (·.size) = some Z.size := by rw [hZs]; exact digInfo
  have hZ1 : Z.all (·.oneCell') = true := by rw [hZ]; simpa using byteCells_one zeros
  obtain ⟨W, hW⟩ : ∃ W, W = ((w.alloc (.cells Z 29)).alloc (.cells Z 29)).setRow (w.heap.size + 1) Z := ⟨_, rfl⟩
  have hD0 : ((w.alloc (.cells Z 29)).alloc (.cells Z 29)).heap[w.heap.size + 1]? = some (.cells Z 29 (0, 0)) := by
    have := heap_alloc_new (w.alloc (.cells Z 29)) (.cells Z 29)
    simpa using this
  have hWs : W.heap.size = w.heap.size + 2 := by rw [hW]; simp
  have hWD : W.heap[w.heap.size + 1]? = some (.cells Z 29 (0, 0)) := by rw [hW]; exact setRow_heap _ _ _ _ _ _ hD0
  have hWR : W.heap[w.heap.size]? = some (.cells Z 29 (0, 0)) := by
    rw [hW, setRow_other _ _ _ _ (by omega), Below.heap_alloc _ _ _ (by simp)]; exact heap_alloc_new w _
  have hWt : Turn q w W := by
    rw [hW]
    exact (((Turn.refl q w).alloc _).alloc _).fresh (Wrote.set _ _ _) (by omega)
  have hWh : RIn W q L A c o wb := by
    have hb : Below w.heap.size w W := by
      rw [hW]
      exact (((Below.refl _ w).alloc (Nat.le_refl _) _).alloc (by simp) _).trans ((Wrote.set _ _ _).1 |> fun hg => (Below.refl _ _).grown hg (by simp; omega) (fun k e => by injection e with e; omega))
    exact (hb.block q hq).trans h
  have hWf : RFix W q L A c := hf.turn hWt hq
  have HW := Lib.hid hW
  have HD0 := Lib.hid hD0
  have HZ := Lib.hid hZ
  have HZs := Lib.hid hZs
  have HZi := Lib.hid hZi
  have HZ1 := Lib.hid hZ1
  have HWD := Lib.hid hWD
  have HWR := Lib.hid hWR
  clear hW hD0 hZs hZi hZ1 hWD hWR h hf
  subst hZ
  go_enter Try.func41, Try.ntmps41
  go_wp2_with (refine wpList_store_row rfl _ _ _ rfl (w.heap.size + 1) (Lib.byteCells zeros).toArray rfl rfl 29 (Lib.byteCells zeros).toArray HD0.out HZi.out rfl HZ1.out ?_
               change wpList _ _ _ _ _ (((w.alloc (.cells (Lib.byteCells zeros).toArray 29)).alloc (.cells (Lib.byteCells zeros).toArray 29)).setRow (w.heap.size + 1) (Lib.byteCells zeros).toArray)
               rw [← HW.out])
  refine (take_in q 32 L A c o wb W hWh hWf ho (by omega)).mono ?_
  rintro e w1 ⟨v, rfl, hown, hR1, ht1⟩
  have hrl := takeF_length 32 L o wb
  obtain ⟨x, hx⟩ : ∃ x, takeF 32 L o wb = x := ⟨_, rfl⟩
  rw [hx] at hown hR1 hrl
  have Hx := Lib.hid hx
  clear hx
  obtain ⟨r, o1, wr1⟩ := x
  simp only at hown hR1 hrl
  have hs1 : w.heap.size + 2 ≤ w1.heap.size := by have := ht1.size; omega
  have hlt := hown.lt
  obtain ⟨A3, c3, rfl, h31, h32, hbs⟩ := hown.slice
  have hD1 : Hid (w1.heap[w.heap.size + 1]? = some (.cells (rowK r 0).toArray 29 (0, 0))) := by
    show _ = _
    have e0 : rowK r 0 = Lib.byteCells zeros := by simp [rowK]
    rw [ht1.block (w.heap.size + 1) (by omega) (fun e => by injection e with e; omega), e0]
    exact HWD.out
  have hR1' : Hid (w1.heap[w.heap.size]? = some (.cells (Lib.byteCells zeros).toArray 29 (0, 0))) :=
    (ht1.block w.heap.size (by omega) (fun e => by injection e with e; omega)).trans HWR.out
  have hown2 := Lib.hid hown
  have hl63 : r.length ≤ 9223372036854775807 := by omega
  have Hlt := Lib.hid hlt
  clear hlt hown
  go_wp2_with fail
  go_loopw [5] (fun i wr => ∃ k : Nat, i = .int .i64 k ∧ k ≤ r.length ∧ Hid (wr.heap[w.heap.size + 1]? = some (.cells (rowK r k).toArray 29 (0, 0))) ∧ Wrote (w.heap.size + 1) w1 wr) (fun i _ => r.length - (intOf i).toNat)
  case atStart => exact ⟨0, rfl, Nat.zero_le _, hD1, Wrote.refl _ _⟩
  case round =>
    obtain ⟨k, rfl, hk, hrow, hw⟩ := hrel
    have hws := hw.2
    by_cases hkl : k < r.length
    · have hA3 : Bs wr w1.heap.size A3 r := by
        have := hown2.out.apart hw.1 (fun j hj e => by have := (Hlt.out j hj).1; injection e with e; omega)
        rw [← hws]
        exact this.bs.2
      obtain ⟨b, off, x, rfl, hb, hc, hx, Hxx⟩ := hA3.at_ hkl
      have hcell : wr.cell? ⟨w.heap.size + 1, k, none⟩ = some (.int .u8 0) := by
        rw [cell_of_row wr (w.heap.size + 1) k _ _ (0, 0) hrow.out]
        simpa using rowK_get hkl hrl
      have hfz : wr.frozen? ⟨w.heap.size + 1, k, none⟩ = false := frozen_of_row wr _ _ _ _ hrow.out
      have hnew : Hid ((wr.setCell ⟨w.heap.size + 1, k, none⟩ (.int .u8 x)).heap[w.heap.size + 1]? = some (.cells (rowK r (k + 1)).toArray 29 (0, 0))) := by
        show _ = _
        rw [heap_setCell_same wr (w.heap.size + 1) k _ _ _ hrow.out, ← rowK_set hkl hrl Hxx.out]
        simp
      have hk32 : (k : Int) < 32 := by omega
      go_wp2_with fail
      go_roundw
      case rel => exact ⟨k + 1, by go_num, by omega, hnew, hw.trans Wrote.cell⟩
      case measure => simp [intOf]; omega
    · obtain rfl : k = r.length := by omega
      obtain ⟨DV, hDV⟩ : ∃ DV, DV = (rowK r r.length).toArray := ⟨_, rfl⟩
      have hDs : DV.size = 32 := by rw [hDV]; simpa using rowK_length (Nat.le_refl _) hrl
      have HDs := Lib.hid hDs
      have HDi := Lib.hid (show (Try.prog.info? 29).map (·.size) = some DV.size by rw [hDs]; exact digInfo)
      have hDb : DV = (Lib.byteCells (r ++ zeros.drop r.length)).toArray := by
        rw [hDV, Lib.byteCells_append]
        unfold rowK
        rw [List.take_of_length_le (by rw [Lib.byteCells_length]; exact Nat.le_refl _)]
        simp [Lib.byteCells]
      have HDb := Lib.hid hDb
      have HD1 := Lib.hid (show DV.all (·.oneCell') = true by rw [hDb]; simpa using byteCells_one (r ++ zeros.drop r.length))
      have hD2 : Hid (wr.heap[w.heap.size + 1]? = some (.cells DV 29 (0, 0))) := by
        show _ = _
        rw [hDV]; exact hrow.out
      have hR2 : Hid (wr.heap[w.heap.size]? = some (.cells (Lib.byteCells zeros).toArray 29 (0, 0))) :=
        (hw.1.block w.heap.size (by omega) (fun e => by injection e with e; omega)).trans hR1'.out
      have Hzs := Lib.hid (show (Lib.byteCells zeros).toArray.size = DV.size by rw [hDs]; simp [Lib.byteCells, zeros])
      have hset : Hid ((wr.setRow w.heap.size DV).heap[w.heap.size]? = some (.cells DV 29 (0, 0))) := setRow_heap wr w.heap.size _ DV _ _ hR2.out
      clear hDV hDs hDb hk hkl
      go_wp2_with (first
        | (refine wpList_load_row rfl _ _ rfl (w.heap.size + 1) rfl 29 DV (0, 0) _ hD2.out Try.underlying29 rfl HDi.out ?_)
        | (refine wpList_store_row rfl _ _ _ rfl w.heap.size DV rfl rfl 29 _ hR2.out HDi.out Hzs.out HD1.out ?_))
      refine bodyPost_ret (v := .agg DV) (results_cell_row (by rfl) _ _ w.heap.size 29 DV (0, 0) _ (by rfl) hset.out Try.underlying29 rfl HDi.out) rfl ?_
      have hT : Turn q w w1 := hWt.trans ht1
      refine ⟨by unfold digV rdF; rw [Hx.out, HDb.out], ?_, (hT.fresh hw (by omega)).fresh (Wrote.set w.heap.size wr DV) (Nat.le_refl _)⟩
      rw [Hx.out]
      have e1 := (Wrote.set w.heap.size wr DV).1.block q (by omega) (fun e => by injection e with e; omega)
      have e2 := hw.1.block q (by omega) (fun e => by injection e with e; omega)
      exact e1.trans (e2.trans hR1)

end Go.Proofs.Ytccccpadnaocfaa

namespace Go.Proofs.Ytccccpadnaocfaa
set_option linter.unusedVariables false

/-- What is left of both is one. -/
def Rel (l L : List UInt8) (o : Nat) (b : Bool) : Prop := (b = false → l = L.drop o) ∧ (b = true → l = []) ∧ o ≤ L.length

theorem numF_nil (most : Nat) : numF most [] = (0, [], true) := by unfold numF; rw [if_pos (.inl rfl)]

theorem rel_num {l L : List UInt8} {o : Nat} {b : Bool} (h : Rel l L o b) (most : Nat) :
    (numF most l).1 = (rnF most L o b).1 ∧ (b || (numF most l).2.2) = (rnF most L o b).2.2 ∧ Rel (numF most l).2.1 L (rnF most L o b).2.1 (rnF most L o b).2.2 := by
  obtain ⟨h1, h2, h3⟩ := h
  cases b with
  | true =>
    rw [h2 rfl, numF_nil]
    unfold rnF
    rw [if_pos (.inl rfl)]
    exact ⟨rfl, rfl, (fun h => by cases h), fun _ => rfl, h3⟩
  | false =>
    rw [h1 rfl]
    have hle := (lead_le (L.drop o)).1
    rw [List.length_drop] at hle
    unfold rnF
    by_cases hb : (lead (L.drop o)).2 = 0 ∨ most < (lead (L.drop o)).1
    · have : numF most (L.drop o) = (0, [], true) := by unfold numF; rw [if_pos hb]
      rw [this, if_pos (.inr rfl)]
      exact ⟨rfl, rfl, (fun h => by cases h), fun _ => rfl, h3⟩
    · have : numF most (L.drop o) = ((lead (L.drop o)).1, (L.drop o).drop (lead (L.drop o)).2, false) := by unfold numF; rw [if_neg hb]
      rw [this, if_neg (by simp)]
      refine ⟨rfl, rfl, fun _ => ?_, (fun h => by cases h), by simp only; omega⟩
      simp only [List.drop_drop, List.length_drop]
      congr 1
      omega

theorem rel_cut {l L : List UInt8} {o : Nat} {b : Bool} (h : Rel l L o b) (n : Nat) (hn : b = true → n = 0 ∨ 0 < n) :
    (cutF n l).1 = (takeF n L o b).1 ∧ (b || (cutF n l).2.2) = (takeF n L o b).2.2 ∧ Rel (cutF n l).2.1 L (takeF n L o b).2.1 (takeF n L o b).2.2 := by
  obtain ⟨h1, h2, h3⟩ := h
  cases b with
  | true =>
    rw [h2 rfl]
    have ht : takeF n L o true = ([], o, true) := by unfold takeF; rw [if_pos (.inl rfl)]
    rw [ht]
    unfold cutF
    split
    · exact ⟨rfl, rfl, (fun h => by cases h), fun _ => rfl, h3⟩
    · exact ⟨by simp, rfl, (fun h => by cases h), fun _ => by simp, h3⟩
  | false =>
    rw [h1 rfl]
    unfold takeF cutF
    rw [List.length_drop]
    by_cases hc : L.length - o < n
    · rw [if_pos hc, if_pos (.inr hc)]
      exact ⟨rfl, rfl, (fun h => by cases h), fun _ => rfl, h3⟩
    · rw [if_neg hc, if_neg (by simp; omega)]
      refine ⟨rfl, rfl, fun _ => ?_, (fun h => by cases h), by simp only; omega⟩
      simp only [List.drop_drop]

theorem rel_bytes {l L : List UInt8} {o : Nat} {b : Bool} (h : Rel l L o b) (most : Int) :
    (bytesF most l).1 = (rbF most L o b).1 ∧ (b || (bytesF most l).2.2) = (rbF most L o b).2.2 ∧ Rel (bytesF most l).2.1 L (rbF most L o b).2.1 (rbF most L o b).2.2 := by
  unfold bytesF rbF
  by_cases hm : most < 0
  · rw [if_pos hm, if_pos hm]
    exact ⟨rfl, by simp, (fun h => by cases h), fun _ => rfl, h.2.2⟩
  · rw [if_neg hm, if_neg hm]
    obtain ⟨e1, e2, e3⟩ := rel_num h most.toNat
    obtain ⟨f1, f2, f3⟩ := rel_cut e3 (rnF most.toNat L o b).1 (fun _ => by omega)
    rw [e1]
    refine ⟨f1, ?_, f3⟩
    rw [← f2, ← e2, Bool.or_assoc]

theorem rel_dig {l L : List UInt8} {o : Nat} {b : Bool} (h : Rel l L o b) : digF l = rdF L o b := by
  obtain ⟨f1, f2, f3⟩ := rel_cut h 32 (fun _ => by omega)
  unfold rdF
  rw [← f1]
  unfold digF cutF
  split
  · simp [zeros]
  · rename_i hl
    have h32 : (l.take 32).length = 32 := by rw [List.length_take]; omega
    simp only [h32]
    rw [List.drop_of_length_le (by simp [zeros]), List.append_nil]

theorem rel_done {l L : List UInt8} {o : Nat} {b : Bool} (h : Rel l L o b) : doneF (L.drop o) b = doneF l b := by
  cases b with
  | true => simp [doneF]
  | false => rw [h.1 rfl]

end Go.Proofs.Ytccccpadnaocfaa

namespace Go.Proofs.Ytccccpadnaocfaa
open Go.RowKit
set_option linter.unusedVariables false
set_option linter.unusedSimpArgs false

/-- A disk at blocks of which each is an elder one of F, or new. -/
def NAft (F : Nat → Prop) (w : World) (k n : Nat) (S L : List (List UInt8)) (W : List WrF) (w' : World) : Prop :=
  ∃ F', Disk w' F' k n S L W false 0 ∧ (∀ b, F' b → F b ∨ w.heap.size ≤ b) ∧ Only F w w'
theorem blk_splice {b : List UInt8} (h : b.length = 48) : splice (Lib.byteCells zero64) 0 (Lib.byteCells b) = Lib.byteCells (laidB b) := by
  unfold splice laidB zero64 Lib.byteCells
  rw [List.take_zero, List.nil_append, Nat.zero_add, List.length_map, List.map_append, ← List.map_drop, List.drop_replicate, h]
theorem byteSizeN : (Try.prog.info? 5).map (·.size) = some 1 := by kernel_rfl
theorem bs_cells {w : World} {B : Nat} {A : Option Addr} {l : List UInt8} (h : Bs w B A l) (hp : 0 < (Lib.byteCells l).length) : ∃ ad, A = some ad ∧ ∀ j v, (Lib.byteCells l)[j]? = some v → w.cell? (ad.add j) = some v := h.cells hp

set_option maxHeartbeats 16000000 in
set_option maxRecDepth 100000 in
theorem nwrite_yes (F : Nat → Prop) (k n a number : Nat) (S L : List (List UInt8)) (W : List WrF) (bs : List (List UInt8)) (DL : List Value) (b off m c : Nat) (w : World) (h : Disk w F k n S L W false 0)
    (hm : bs.length = m) (hm1 : 1 ≤ m) (hc : m ≤ c) (hcm : c ≤ 9223372036854775807) (h48 : ∀ s ∈ bs, s.length = 48) (hb : b < w.heap.size) (hr : ∀ i, i < m → w.rangeAt b (off + i * 48) (Lib.byteCells (bs.getD i []))) (hA : ¬ F b) (ha : a + m ≤ n) (hWN : W.length + m ≤ 100000) (hnum : number ≤ 9223372036854775807) (hDL : DL = binC (number : Nat) (a : Nat) (m : Nat) (rootF bs)) :
    Calls Try.prog 8 #[.pointer (some ⟨k, 0, none⟩), .int .i64 (number : Nat), .int .i64 (a : Nat), .slice (some ⟨b, off, none⟩) m c] w fun e w' => e = .returned (.tuple #[.agg DL.toArray, .int .i64 0]) ∧ NAft F w k n (putB S a bs m) L (W ++ putBW a bs m) w' := by
  have hn2 : n ≤ 65536 := by obtain ⟨gs, gl, bm, vw, base, nm, D, hD, _⟩ := h; exact hD.n2
  have hSn : S.length = n := by obtain ⟨gs, gl, bm, vw, base, nm, D, hD, _⟩ := h; exact hD.lS
  have hd0 : decide ((number : Int) < (0 : Int)) = false := by simp
  have hd1 : ((m : Int) == (0 : Int)) = false := by rw [beq_eq_false_iff_ne]; omega
  obtain ⟨W1, hW1⟩ : ∃ x, x = w.alloc (.cells binZ.toArray 31) := ⟨_, rfl⟩
  have hR1 : Arr W1 w.heap.size 31 binZ := by rw [hW1]; exact Arr.new w _ _
  have hb1 : Below w.heap.size w W1 := by rw [hW1]; exact (Below.refl _ w).alloc (Nat.le_refl _) _
  have HW1 := Lib.hid hW1
  clear hW1
  have hD1 : Disk W1 F k n S L W false 0 := h.below hb1
  have hFlt : ∀ b, F b → b < w.heap.size := h.Flt
  obtain ⟨gs, hseen⟩ := hD1.seenN
  have hk0 := hseen.c0
  have Hm := Lib.hid hm
  have HhS := Lib.hid hSn
  clear hm hseen hSn
  go_enter Try.func8, Try.ntmps8
  go_upto_region 1 with fail
  change Code.wp _ _ _ _ (w.alloc (.cells binZ.toArray 31))
  rw [← HW1.out]
  clear HW1
  go_wp2_with fail
  refine Calls.mono (nthere_is k gs n a m true W1 hk0 hn2 (by omega) (by simp; omega)) ?_
  rintro e wx ⟨rfl, rfl⟩
  go_wp2_with fail
  go_loopw [30] (fun v wr => ∃ i : Nat, i ≤ m ∧ v = .int .i64 i ∧ (∃ F', Disk wr F' k n (putB S a bs i) L (W ++ putBW a bs i) false 0 ∧ (∀ b, F' b → F b ∨ wx.heap.size ≤ b)) ∧ Only F wx wr) (fun v _ => m - (intOf v).toNat)
  case atStart => exact ⟨0, by omega, rfl, ⟨F, by simpa [putB, putBW] using hD1, fun b h => Or.inl h⟩, Only.refl _ _⟩
  case round =>
    clear hD1
    obtain ⟨i, hi, rfl, ⟨F', hD, hF'⟩, hO⟩ := hrel
    obtain ⟨w1, hwq⟩ : ∃ x, x = wr := ⟨_, rfl⟩
    subst hwq
    have hlw : b < wx.heap.size := Nat.lt_of_lt_of_le hb hb1.size
    by_cases hlt : i < m
    · have hd2 : decide ((i : Int) < (m : Int)) = true := by simp; exact hlt
      have hd3 : decide (i < m) = true := by simp; exact hlt
      obtain ⟨Y, hY⟩ : ∃ Y, Y = bs.getD i [] := ⟨_, rfl⟩
      have hYl : Y.length = 48 := by rw [hY]; exact h48 _ (by have := Hm.out; simp [List.getD, show i < bs.length by omega])
      have hrq : w1.rangeAt b (off + i * 48) (Lib.byteCells Y) := fun j v hj => by
        rw [hY] at hj
        rw [← hr i hlt j v hj]
        rw [World.cell?_of_block (w := wx) (hO.block b hlw hA)]
        exact hb1.cell (p := ⟨b, _, none⟩) hb
      obtain ⟨BL, hBL⟩ : ∃ BL, BL = Lib.byteCells Y := ⟨_, rfl⟩
      rw [← hBL] at hrq
      have hBl : BL.length = 48 := by rw [hBL, Lib.byteCells_length, hYl]
      have HBLi := Lib.hid (show (Try.prog.info? 40).map (·.size) = some BL.toArray.size by rw [List.size_toArray, hBl]; exact blkInfo)
      have HBLn := Lib.hid (show (Try.prog.info? 40).map (·.size) = some BL.length by rw [hBl]; exact blkInfo)
      have HBLs := Lib.hid (show (Lib.byteCells z48).toArray.size = BL.toArray.size by rw [List.size_toArray, List.size_toArray, hBl]; rfl)
      have HBL1 := Lib.hid (show BL.toArray.all (·.oneCell') = true by rw [hBL]; exact sec_one _)
      have HBL := Lib.hid hBL
      have HYe := Lib.hid hY
      clear hY hBL
      go_wp2_with (first
        | (refine wpList_load_mid rfl _ _ rfl b (off + i * 48) rfl BL _ hrq Try.underlying40 rfl HBLn.out ?_)
        | (change wpList _ _ _ _ _ (w1.alloc (.cells (Lib.byteCells z48).toArray 40)); refine wpList_store_row rfl _ _ _ rfl w1.heap.size BL.toArray rfl rfl 40 (Lib.byteCells z48).toArray (heap_alloc_new w1 _) HBLi.out HBLs.out HBL1.out ?_; obtain ⟨wa, hwa⟩ : ∃ x, x = (w1.alloc (.cells (Lib.byteCells z48).toArray 40)).setRow w1.heap.size BL.toArray := ⟨_, rfl⟩; rw [← hwa]; obtain ⟨hXa, hba⟩ := alloc_rowD w1 40 (Lib.byteCells z48).toArray BL; rw [← hwa] at hXa hba; clear hwa))
      obtain ⟨W2, hW2⟩ : ∃ W2, W2 = wa.alloc (.cells (Lib.byteCells zero64).toArray 37) := ⟨_, rfl⟩
      have hW2s : W2.heap.size = wa.heap.size + 1 := by rw [hW2]; simp
      have hZ2 : Hid (W2.drew.heap[wa.heap.size]? = some (.cells (Lib.byteCells zero64).toArray 37 (0, 0))) := by rw [hW2]; exact Arr.new wa _ _
      have hba2 : Below wa.heap.size wa W2 := by rw [hW2]; exact (Below.refl _ wa).alloc (Nat.le_refl _) _
      have hXl := hXa.lt
      have hX2 : Arr W2 w1.heap.size 40 (Lib.byteCells Y) := by rw [← HBL.out]; exact hXa.below hba2 hXl
      have hcs := Lib.hid ((hX2.bs.drewN 1).cells)
      have HN := Lib.hid (show (Lib.byteCells Y).length = Nat.min 48 64 by rw [Lib.byteCells_length, hYl]; rfl)
      have HF := Lib.hid (show 0 + (Lib.byteCells Y).length ≤ (Lib.byteCells zero64).length by rw [Lib.byteCells_length, Lib.byteCells_length, hYl, zero64_length]; omega)
      have H1 := Lib.hid (byteCells_one Y)
      have HW2 := Lib.hid hW2
      clear hW2
      change Code.wp _ _ _ _ (wa.alloc (.cells (Lib.byteCells zero64).toArray 37))
      rw [← HW2.out]
      go_region_held3 (fun w' => True) (trivial)
        (first
          | (refine step_copy_any (by rfl) _ _ _ _ (by rfl) 5 Try.underlying49 byteSizeN _ _ _ _ _ _ (by rfl) (by rfl) wa.heap.size 0 (Lib.byteCells zero64) 37 hZ2.out (Lib.byteCells Y) HN.out (fun hp => ⟨rfl, hcs.out hp⟩) HF.out H1.out ?_
             intro w2 hw2D hw2))
      obtain ⟨SL, hSL⟩ : ∃ SL, SL = Lib.byteCells (laidB Y) := ⟨_, rfl⟩
      have hl64 := laidB_length hYl
      have hSLl : SL.length = 64 := by rw [hSL, Lib.byteCells_length]; exact hl64
      have hD2 : Hid (w2.heap[wa.heap.size]? = some (.cells SL.toArray 37 (0, 0))) := by
        show _ = _
        rw [hSL, ← blk_splice hYl]
        exact hw2D.out
      have HSi := Lib.hid (show (Try.prog.info? 37).map (·.size) = some SL.toArray.size by rw [List.size_toArray, hSLl]; exact secInfo)
      have hbwa : Below wa.heap.size wa w2 := by
        have hbd : Below wa.heap.size wa W2.drew := ⟨hba2.os, hba2.tape, hba2.output, hba2.size, hba2.block⟩
        exact hbd.trans ⟨hw2.1.os, hw2.1.tape, hw2.1.output, hw2.1.size, fun j hj => hw2.1.block j (by have := hbd.size; omega) (fun e => by injection e with e; omega)⟩
      have hbw : Below w1.heap.size w1 w2 := hba.trans (hbwa.mono hba.size)
      have hDk := hD.below hbw
      obtain ⟨q, hqq⟩ : ∃ q, a + i = q := ⟨_, rfl⟩
      have hqI : (a : Int) + (i : Int) = (q : Int) := by omega
      have hqB : q ≤ 65536 := by omega
      have Hq := Lib.hid hqq
      have HSL := Lib.hid hSL
      clear hSL hqq
      go_wp2_with (first
        | (refine wpList_load_row rfl _ _ rfl wa.heap.size rfl 37 SL.toArray (0, 0) _ hD2.out Try.underlying37 rfl HSi.out ?_))
      go_at_call 29
      refine Calls.mono (write_live F' k n q (putB S a bs i) L (W ++ putBW a bs i) false 0 (laidB Y) SL w2 hDk rfl (by have := Hq.out; omega) hl64 HSL.out (by rw [List.length_append, putBW_length]; omega)) ?_
      rintro e w3 ⟨rfl, hD3, hO3⟩
      go_wp2_with fail
      case roundEnd =>
        refine ⟨⟨i + 1, by omega, by simp, ⟨newF F' w2 w3, ?_, ?_⟩, ?_⟩, by simp [intOf]; omega⟩
        · rw [putB, putBW_succ, ← List.append_assoc, Hq.out, ← HYe.out]
          exact hD3
        · rintro b (hb' | hb')
          · exact hF' b hb'
          · exact Or.inr (Nat.le_trans (Nat.le_trans hO.size hbw.size) hb'.1)
        · exact (hO.step hbw).then hO3 (fun j hj => hF' j hj)
    · obtain rfl : i = m := by omega
      have hd2 : decide ((i : Int) < (i : Int)) = false := by simp
      have hd3 : decide (i < i) = false := by simp
      have hR8 : Arr w1 w.heap.size 31 binZ := hR1.only hO (fun hF => Nat.lt_irrefl _ (hFlt _ hF))
      have hrq : ∀ j, j < i → w1.rangeAt b (off + j * 48) (Lib.byteCells (bs.getD j [])) := fun j hj u v hv => by
        rw [← hr j hj u v hv]
        rw [World.cell?_of_block (w := wx) (hO.block b hlw hA)]
        exact hb1.cell (p := ⟨b, _, none⟩) hb
      have hdl : DL.length = 35 := by rw [hDL]; exact binC_length _ _ _ (rootF_length bs)
      have HI := Lib.hid (show (Try.prog.info? 31).map (·.size) = some DL.toArray.size by rw [List.size_toArray, hdl]; exact binSize)
      have HS := Lib.hid (show binZ.toArray.size = DL.toArray.size by rw [List.size_toArray, List.size_toArray, hdl]; rfl)
      have H1 := Lib.hid (show DL.toArray.all (·.oneCell') = true by rw [hDL]; exact all_oneCell_toArray (binC_cell _ _ _ _))
      obtain ⟨RL, hRL⟩ : ∃ RL, RL = Lib.byteCells (rootF bs) := ⟨_, rfl⟩
      have HB := Lib.hid (show Try.prog.built 31 [(0, .int .i64 (number : Nat)), (1, .int .i64 (a : Nat)), (2, .int .i64 (i : Nat)), (3, .agg RL.toArray)] = some DL.toArray by rw [hDL]; exact bin_built number a i (rootF bs) RL hRL (rootF_length bs))
      have HRL := Lib.hid hRL
      clear hDL hRL
      go_wp2_with fail
      go_at_call 30
      refine Calls.mono (nroot_at bs i c b off RL w1 Hm.out (by omega) hc hcm h48 (Nat.lt_of_lt_of_le hlw hO.size) hrq HRL.out) ?_
      rintro e w9 ⟨rfl, hb9⟩
      have hR9 := hR8.below hb9 hR8.lt
      have H0 : Hid (w9.heap[w.heap.size]? = some (.cells binZ.toArray 31 (0, 0))) := Lib.hid hR9
      go_wp2_with (first
        | (refine wpList_builtD rfl _ _ rfl _ rfl DL.toArray HB.out ?_)
        | (refine wpList_store_row rfl _ _ _ rfl w.heap.size DL.toArray rfl rfl 31 binZ.toArray H0.out HI.out HS.out H1.out ?_))
      have hset := hR9.setRow DL
      have hO9 : Only (fun j => j = w.heap.size) w9 (w9.setRow w.heap.size DL.toArray) := (Only.refl (fun j => j = w.heap.size) w9).setRow (.inl rfl) DL.toArray
      (try simp only [Exit.inBlock, Exit.then])
      obtain ⟨V, hV⟩ : ∃ V, V = Value.tuple #[.agg DL.toArray, .int .i64 0] := ⟨_, rfl⟩
      refine bodyPost_ret (v := V) ?hx1 ?h2 ?h3
      case hx1 => rw [hV]; exact results_cell2 (fn := Try.f8) (by rfl) _ _ w.heap.size 31 DL.toArray (0, 0) _ (by rfl) _ (by rfl) hset Try.underlying31 rfl HI.out
      case h2 => rfl
      case h3 =>
        refine ⟨by rw [hV], F', ?_, ?_, ?_⟩
        · refine hD.kept (Nat.le_trans hb9.size hO9.size) fun b hb' => ?_
          have hlt : b < w1.heap.size := hD.Flt b hb'
          have hne : ¬ b = w.heap.size := by
            rcases hF' b hb' with h1 | h1
            · exact Nat.ne_of_lt (hFlt b h1)
            · have := hR1.lt; omega
          rw [hO9.block b (by have := hb9.size; omega) hne]
          exact hb9.block b hlt
        · intro b hb'
          rcases hF' b hb' with h1 | h1
          · exact .inl h1
          · exact .inr (Nat.le_trans hb1.size h1)
        · exact (((Only.of_below hb1).trans (hO.trans (Only.of_below hb9))).then hO9 (fun j hj => .inr (by omega)))


end Go.Proofs.Ytccccpadnaocfaa

namespace Go.Proofs.Ytccccpadnaocfaa
open Go.RowKit
set_option linter.unusedVariables false
set_option linter.unusedSimpArgs false

theorem blkInfoN : (Try.prog.info? 40).map (fun i => (i.zero, i.size, i.bytes)) = some (some (.agg (Lib.byteCells z48).toArray), 48, 48) := by kernel_rfl
theorem blkC_zero (n : Nat) : blkC (List.replicate n z48) = List.replicate (n * 48) (.int .u8 0) := by
  induction n with
  | zero => rfl
  | succ n ih =>
    rw [List.replicate_succ, blkC_cons, ih, show (n + 1) * 48 = 48 + n * 48 by omega, ← List.replicate_append_replicate]
    rfl
theorem run_make_blks (n : Nat) (hn : n ≤ 65536) (w : World) :
    (Instr.makeSlice 22 (.int .i64 (n : Nat)) (.int .i64 (n : Nat))).run Try.prog w = .ok (.slice (some ⟨w.heap.size, 0, none⟩) n n) (w.alloc (.cells (blkC (List.replicate n z48)).toArray 40)) := by
  obtain ⟨i0, hi, hz0, hz1, hz2⟩ := info_parts blkInfoN
  have h := run_make (P := Try.prog) w 22 40 i0 (.agg (Lib.byteCells z48).toArray) Try.underlying22 hi hz0 .i64 .i64 (n : Nat) (n : Nat) (by omega) (by omega) (by rw [hz2]; omega) (by omega)
  rw [h, hz1, Int.toNat_natCast]
  have e : madeCells (Value.agg (Lib.byteCells z48).toArray).cells (n * 48) = (blkC (List.replicate n z48)).toArray := by
    rw [blkC_zero]
    exact made_rep (.int .u8 0) 48 (n * 48) (by omega)
  rw [e]
/-- The first i blocks read, the others not yet. -/
def partB (S : List (List UInt8)) (a m i : Nat) : List (List UInt8) := standsF S a i ++ List.replicate (m - i) z48
theorem partB_zero (S : List (List UInt8)) (a m : Nat) : partB S a m 0 = List.replicate m z48 := by simp [partB, standsF]
theorem partB_length (S : List (List UInt8)) (a : Nat) {m i : Nat} (h : i ≤ m) : (partB S a m i).length = m := by simp [partB, standsF_length]; omega
theorem partB_all (S : List (List UInt8)) (a m : Nat) : partB S a m m = standsF S a m := by simp [partB]
theorem partB_step (S : List (List UInt8)) (a : Nat) {m i : Nat} (h : i < m) : (partB S a m i).set i (standF S (a + i)) = partB S a m (i + 1) := by
  unfold partB
  rw [List.set_append_right _ _ (by rw [standsF_length]; exact Nat.le_refl _), standsF_length, Nat.sub_self, show m - i = (m - (i + 1)) + 1 by omega, List.replicate_succ, List.set_cons_zero]
  simp [standsF, List.range_succ]
theorem partB_48 {S : List (List UInt8)} (h : ∀ s ∈ S, s.length = 64) {a m i : Nat} (hn : a + i ≤ S.length) : ∀ s ∈ partB S a m i, s.length = 48 := fun s hs => by
  rcases List.mem_append.1 hs with hs | hs
  · exact standsF_48 h hn s hs
  · rw [(List.mem_replicate.1 hs).2]; rfl

set_option maxHeartbeats 16000000 in
set_option maxRecDepth 100000 in
theorem nall_at (k gs n : Nat) (S : List (List UInt8)) (num : Int) (a m : Nat) (rd : List UInt8) (DL : List Value) (ok : Bool) (w : World) (hS : SeenN w k gs n S) (hrd : rd.length = 32) (hDL : DL = binC num a m rd) (hm1 : 1 ≤ m) (ha : a + m ≤ n) (hok : decide (rootF (standsF S a m) = rd) = ok) :
    Calls Try.prog 14 #[.pointer (some ⟨k, 0, none⟩), .agg DL.toArray] w fun e w' => (ok = true → ∃ g, e = .returned (.tuple #[.slice (some ⟨g, 0, none⟩) m m, .int .i64 0]) ∧ Arr w' g 40 (blkC (standsF S a m)) ∧ w.heap.size ≤ g) ∧ (ok = false → e = .returned (.tuple #[.slice none 0 0, .int .i64 7])) ∧ Below w.heap.size w w' := by
  have hn2 := hS.n2
  have hSn := hS.lS
  have h64 := hS.s64
  have hd0 : decide ((m : Int) < (1 : Int)) = false := by simp; omega
  obtain ⟨W1, hW1⟩ : ∃ x, x = w.alloc (.cells DL.toArray 31) := ⟨_, rfl⟩
  have hX1 : Arr W1 w.heap.size 31 DL := by rw [hW1]; exact Arr.new w _ DL
  have hb1 : Below w.heap.size w W1 := by rw [hW1]; exact (Below.refl _ w).alloc (Nat.le_refl _) _
  have hS1 := hS.below hb1
  have hD1 : DL[1]? = some (.int .i64 (a : Nat)) := by rw [hDL]; rfl
  have hc1 : W1.cell? ⟨w.heap.size, 1, none⟩ = some (.int .i64 (a : Nat)) := by rw [hX1.cell]; exact hD1
  have hc2 : W1.cell? ⟨w.heap.size, 2, none⟩ = some (.int .i64 (m : Nat)) := by rw [hX1.cell, hDL]; rfl
  obtain ⟨FL, hFL⟩ : ∃ FL, FL = Lib.byteCells rd := ⟨_, rfl⟩
  have hFD : ∀ j v, FL[j]? = some v → DL[3 + j]? = some v := fun j v hj => by rw [hDL]; rw [hFL] at hj; exact binC_dig num a m rd j v hj
  have hFl : FL.length = 32 := by rw [hFL, Lib.byteCells_length, hrd]
  have HFLn := Lib.hid (show (Try.prog.info? 29).map (·.size) = some FL.length by rw [hFl]; exact digInfo)
  obtain ⟨V, hV⟩ : ∃ V, V = W1.alloc (.cells (blkC (List.replicate m z48)).toArray 40) := ⟨_, rfl⟩
  have hG : Arr V W1.heap.size 40 (blkC (partB S a m 0)) := by rw [hV, partB_zero]; exact Arr.new W1 _ _
  have hbV : Below W1.heap.size W1 V := by rw [hV]; exact (Below.refl _ W1).alloc (Nat.le_refl _) _
  obtain ⟨g, hg⟩ : ∃ g, g = W1.heap.size := ⟨_, rfl⟩
  rw [← hg] at hG hbV
  have hwg : w.heap.size < g := by rw [hg]; exact hX1.lt
  have hgW : g ≤ W1.heap.size := by omega
  have hSg : ∀ b, (b = k ∨ b = gs) → b < g := fun b hb => by rw [hg]; exact hS1.lt b hb
  have hmk := run_make_blks m (by omega) W1
  rw [← hg, ← hV] at hmk
  have Hmk := Lib.hid hmk
  obtain ⟨GL, hGL⟩ : ∃ GL, GL = Lib.byteCells (rootF (standsF S a m)) := ⟨_, rfl⟩
  have hcmp : ∀ w, (Op.equalIn 10000 29 (.agg GL.toArray) (.agg FL.toArray)).run Try.prog w = .ok ok w := fun w => by
    rw [eqv_at Try.underlying29 _ rd (rootF_length _) hrd GL FL hGL hFL w, hok]
  have HGL := Lib.hid hGL
  have HW1 := Lib.hid hW1
  have hgt := gtDN
  have hz2 : V.heap.size = V.heap.size := rfl
  clear hW1 hDL hFL hGL hok hV hg hmk hz2
  go_enter Try.func14, Try.ntmps14
  go_upto_region 1 with fail
  change Code.wp _ _ _ _ (w.alloc (.cells DL.toArray 31))
  rw [← HW1.out]
  clear HW1
  go_wp2_with fail
  refine Calls.mono (nthere_is k gs n a m true W1 hS1.c0 hn2 (by omega) (by simp; omega)) ?_
  rintro e w2 ⟨rfl, rfl⟩
  go_wp2_with (first
    | (refine wpList_makeRun rfl _ _ _ rfl _ _ _ rfl rfl Hmk.out ?_))
  go_loopw [25] (fun v wr => ∃ i : Nat, i ≤ m ∧ v = .int .i64 i ∧ Arr wr g 40 (blkC (partB S a m i)) ∧ Only (fun b => b = g) V wr) (fun v _ => m - (intOf v).toNat)
  case atStart => exact ⟨0, by omega, rfl, hG, Only.refl _ _⟩
  case round =>
    clear hG
    obtain ⟨i, hi, rfl, hGi, hO⟩ := hrel
    obtain ⟨wq, hwq⟩ : ∃ x, x = wr := ⟨_, rfl⟩
    subst hwq
    have hbq : Below g w2 wq := hbV.trans (hO.below (Nat.le_trans hgW hbV.size) (by rintro k rfl; exact Nat.le_refl _))
    have hSq : SeenN wq k gs n S := hS1.kept hbq.size (fun b hb => hbq.block b (hSg b hb))
    have hXq : Arr wq w.heap.size 31 DL := hX1.below hbq hwg
    by_cases hlt : i < m
    · have hd : decide ((i : Int) < (m : Int)) = true := by simp; exact hlt
      have hdn : decide (i < m) = true := by simp; exact hlt
      have hcq : wq.cell? ⟨w.heap.size, 1, none⟩ = some (.int .i64 (a : Nat)) := by rw [hXq.cell]; exact hD1
      obtain ⟨q, hqq⟩ : ∃ q, a + i = q := ⟨_, rfl⟩
      have hqI : (a : Int) + (i : Int) = (q : Int) := by omega
      have hqn : q < n := by omega
      obtain ⟨XL, hXL⟩ : ∃ XL, XL = Lib.byteCells (standF S q) := ⟨_, rfl⟩
      have hx48 : (standF S q).length = 48 := standF_length h64 (by rw [hSn]; exact hqn)
      have hXl : XL.length = 48 := by rw [hXL, Lib.byteCells_length, hx48]
      have HXLi := Lib.hid (show (Try.prog.info? 40).map (·.size) = some XL.toArray.size by rw [List.size_toArray, hXl]; exact blkInfo)
      have HXLn := Lib.hid (show (Try.prog.info? 40).map (·.size) = some XL.length by rw [hXl]; exact blkInfo)
      have HXLs := Lib.hid (show (Lib.byteCells z48).toArray.size = XL.toArray.size by rw [List.size_toArray, List.size_toArray, hXl]; rfl)
      have HXL1 := Lib.hid (show XL.toArray.all (·.oneCell') = true by rw [hXL]; exact sec_one _)
      have HXL := Lib.hid hXL
      have Hqq := Lib.hid hqq
      clear hXL hqq
      go_wp2_with fail
      refine Calls.mono (standing_at k gs n q S wq hSq hqn XL HXL.out) ?_
      rintro e w3 ⟨rfl, hb3⟩
      have hG3 := hGi.below hb3 hGi.lt
      have hl3 : i * 48 + XL.toArray.size ≤ (blkC (partB S a m i)).length := by
        rw [blkC_length (partB_48 h64 (by rw [hSn]; omega)), partB_length _ _ hi, List.size_toArray, hXl]; omega
      have hth := Lib.hid (there_of_arr hG3 hl3)
      have hA3 : Arr (w3.setCells g (i * 48) XL) g 40 (blkC (partB S a m (i + 1))) := by
        rw [← partB_step S a hlt, ← blkC_set (partB_48 h64 (by rw [hSn]; omega)) (by rw [partB_length _ _ hi]; exact hlt) (standF S (a + i)) (by rw [Hqq.out]; exact hx48), Hqq.out, ← HXL.out]
        exact Arr.setIn XL (i * 48) _ w3 hG3 (by rw [List.size_toArray] at hl3; exact hl3)
      have hO3 : Only (fun b => b = g) V (w3.setCells g (i * 48) XL) := Only.setIn (R := fun b => b = g) rfl XL (i * 48) w3 (hO.step hb3)
      have HA3 := Lib.hid hA3
      have HO3 := Lib.hid hO3
      clear hG3 hGi hO hb3 hl3 hA3 hO3 hbq hSq hXq hcq
      go_wp2_with (first
        | (refine wpList_store_mid rfl 40 _ _ rfl g (i * 48) XL.toArray rfl rfl hth.out HXLi.out HXL1.out ?_))
      case roundEnd => exact ⟨⟨i + 1, by omega, by simp, HA3.out, HO3.out⟩, by simp [intOf]; omega⟩
    · obtain rfl : i = m := by omega
      have hd : decide ((i : Int) < (i : Int)) = false := by simp
      have hdn : decide (i < i) = false := by simp
      rw [partB_all] at hGi
      have h48 := standsF_48 h64 (a := a) (n := i) (by rw [hSn]; exact ha)
      have hgl := hGi.lt
      have hrq : ∀ j, j < i → wq.drew.rangeAt g (0 + j * 48) (Lib.byteCells ((standsF S a i).getD j [])) := fun j hj u v hv => by
        rw [Nat.zero_add]
        show wq.cell? _ = _
        rw [hGi.cell]
        exact blkC_at h48 (by rw [standsF_length]; exact hj) u v hv
      have hDrq : wq.drew.rangeAt w.heap.size 3 FL := fun j v hv => by
        show wq.cell? _ = _
        rw [hXq.cell]
        exact hFD j v hv
      have hXl := hXq.lt
      have hBq : Below w.heap.size w wq.drew := Below.dN (hb1.trans (hbq.mono (Nat.le_of_lt hwg))) 1
      go_wp2_with fail
      refine wp_region_held_drew (S := fun w' => w'.rangeAt w.heap.size 3 FL) (by kernel_rfl) hDrq (fun hHeld => ?_)
      refine anyH_take (i := 0) (v := .slice (some ⟨g, 0, none⟩) i i) (some 38) rfl rfl (by kernel_rfl) (by kernel_rfl) (by kernel_rfl) (fun _ _ _ h => h) (Or.inl ⟨by rfl, fun w' hw' => by go_simp⟩) (by assumption) ?_
      simp only [Act.put, List.setIfInBounds_toArray, List.set_cons_zero, List.set_cons_succ]
      refine anyH_take (i := 2) (v := .pointer (some ⟨w.heap.size, 3, none⟩)) (some 40) rfl rfl (by kernel_rfl) (by kernel_rfl) (by kernel_rfl) (fun _ _ _ h => h) (Or.inl ⟨by rfl, fun w' hw' => by go_simp⟩) (by assumption) ?_
      simp only [Act.put, List.setIfInBounds_toArray, List.set_cons_zero, List.set_cons_succ]
      refine anyH_take (i := 3) (some 41) rfl rfl (by kernel_rfl) (by kernel_rfl) (by kernel_rfl) (fun _ _ _ h => h) (yieldsIf_load_mid (by rfl) 29 (.tmp 40) rfl w.heap.size 3 rfl FL _ (fun _ h => h) Try.underlying29 rfl HFLn.out) (by assumption) ?_
      simp only [Act.put, List.setIfInBounds_toArray, List.set_cons_zero, List.set_cons_succ]
      refine wpAnyH_ready (rs := [1]) (by kernel_rfl) (by simp) ?_
      refine AllReadyH.cons rfl (fun K hK => ?_) AllReadyH.nil
      go_simp
      go_at_call 30
      refine Calls.mono (nroot_at (standsF S a i) i i g 0 GL wq.drew (standsF_length _ _ _) (by omega) (Nat.le_refl _) (by omega) h48 hgl hrq HGL.out) ?_
      rintro e w6 ⟨rfl, hb6⟩
      dsimp only
      go_wp2_with fail
      refine hK.out _ _ (rangeN_below hDrq hb6 hXl) (fun hHeld => ?_)
      clear hK K
      try simp only [Act.put, List.setIfInBounds_toArray, List.set_cons_zero, List.set_cons_succ]
      refine wpAnyH_ready (rs := [4]) (by kernel_rfl) (by simp) ?_
      refine AllReadyH.cons rfl (fun K hK => ?_) AllReadyH.nil
      go_simp
      refine hK.out _ _ (rangeN_below hDrq hb6 hXl) (fun hHeld => ?_)
      clear hK K
      try simp only [Act.put, List.setIfInBounds_toArray, List.set_cons_zero, List.set_cons_succ]
      have hGz : Arr w6 g 40 (blkC (standsF S a i)) := (hGi.drewN 1).below hb6 hgl
      have hBz := hBq.trans (hb6.mono hBq.size)
      have hgz : w.heap.size ≤ g := Nat.le_of_lt hwg
      clear hHeld hDrq hrq hXq hGi hBq hbq hSq hcmp hgt hb6 hO
      cases ok
      · refine wpAnyH_done (by kernel_rfl) ?_ _
        go_wp2_with fail
        exact bodyPost_ret (results_tmp2 (t := 4) (u := 5) (by rfl) _ _ _) rfl ⟨rfl, hBz⟩
      · refine wpAnyH_done (by kernel_rfl) ?_ _
        go_wp2_with fail
        exact bodyPost_ret (results_tmp2 (t := 4) (u := 5) (by rfl) _ _ _) rfl ⟨⟨g, rfl, hGz, hgz⟩, hBz⟩


end Go.Proofs.Ytccccpadnaocfaa

namespace Go.Proofs.Ytccccpadnaocfaa
open Go.RowKit
set_option linter.unusedVariables false
set_option linter.unusedSimpArgs false

theorem wpList_load_mid_if {P : Program} {ops : Array Oper} {rest : List Oper} {o : Oper} {a : Act} {w : World} {Q : Exit → Act → World → Prop} (hw : Region.wanted o (yielded ops a.tmps) = true) (ty : TypeId) (x : Operand) (ho : o.op = .load ty x)
    (b off : Nat) (hx : a.eval x = .pointer (some ⟨b, off, none⟩)) (cs : List Value) (d : TypeDesc) (hc : w.rangeAt b off cs)
    (hu : P.underlying ty = some d) (hd : d.isRow = true) (hi : (P.info? ty).map (·.size) = some cs.length)
    (h : wpList P ops Q rest (a.put o.dst (.agg cs.toArray)) w) : wpList P ops Q (o :: rest) a w :=
  wpList_step fun K hK => by
    rw [if_pos hw]
    exact wp_load_mid ty x ho b off hx cs d hc hu hd hi (hK _ _ h)
theorem wpList_built_if {P : Program} {ops : Array Oper} {rest : List Oper} {o : Oper} {a : Act} {w : World} {Q : Exit → Act → World → Prop} (hw : Region.wanted o (yielded ops a.tmps) = true) (t : TypeId) (parts : Array (Nat × Operand)) (ho : o.op = .build t parts)
    (ps : List (Nat × Value)) (hp : parts.toList.map (fun x => (x.1, a.eval x.2)) = ps) (cells : Array Value) (hf : P.built t ps = some cells)
    (h : wpList P ops Q rest (a.put o.dst (.agg cells)) w) : wpList P ops Q (o :: rest) a w :=
  wpList_step fun K hK => by
    rw [if_pos hw]
    unfold Oper.wp execOp
    simp only [ho, Sem.run_bind, run_build w t _ cells (show P.built t (parts.map fun (i, x) => (i, a.eval x)).toList = some cells by rw [← hf, ← hp]; simp), Result.andThen_ok, Sem.run_pure]
    exact hK _ _ h

theorem Only.upN {F : Nat → Prop} {B : Nat} {w0 w w' : World} (h : Below B w0 w) (hO : Only F w w') (hF : ∀ b, F b → B ≤ b) (hB : B ≤ w0.heap.size) : Below B w0 w' := h.trans (hO.below (Nat.le_trans hB h.size) hF)
def sp9N : List (List UInt8) := List.replicate 9 zero64
def blk1 : List UInt8 := 1 :: List.replicate 47 0
def blk2 : List UInt8 := 2 :: List.replicate 47 0
theorem blk1_built : Try.prog.built 40 [(0, .int .u8 1)] = some (Lib.byteCells blk1).toArray := by kernel_rfl
theorem blk2_built : Try.prog.built 40 [(0, .int .u8 2)] = some (Lib.byteCells blk2).toArray := by kernel_rfl
theorem blk12_48 : ∀ s ∈ [blk1, blk2], s.length = 48 := by
  intro s hs
  simp only [List.mem_cons, List.not_mem_nil, or_false] at hs
  rcases hs with rfl | rfl <;> rfl
theorem fill_blk2 (X Y : List Value) (hX : X.length = 48) (hY : Y.length = 48) (cells : Array Value) (hc : cells.size = 96) : Instr.fill (fun i => some (i * 48, 48)) cells [(0, .agg X.toArray), (1, .agg Y.toArray)] = some (X ++ Y).toArray := by
  have h1 := fill_mid (fun i => some (i * 48, 48)) cells 0 0 X (by rw [hX]) (by rw [hX, hc]; omega)
  rw [fill_consN _ _ _ _ _ h1]
  have hd : (cells.toList.drop (0 + X.length)).length = 48 := by rw [List.length_drop, hX]; simp [hc]
  have h2 := fill_mid (fun i => some (i * 48, 48)) (cells.toList.take 0 ++ (X ++ cells.toList.drop (0 + X.length))).toArray 1 48 Y (by rw [hY]) (by rw [hY, List.size_toArray, List.length_append, List.length_append, hd, hX]; simp)
  rw [h2]
  congr 1
  apply congrArg List.toArray
  simp only [List.take_zero, List.nil_append]
  rw [show (48 : Nat) = X.length from hX.symm, List.take_left, hY, ← hX, List.drop_append, List.drop_of_length_le (by omega : X.length ≤ X.length + X.length)]
  rw [List.nil_append, List.drop_of_length_le (by rw [hd]; omega), List.append_nil]
theorem blkInfoS : (Try.prog.info? 40).map (fun i => (i.zero, i.size, i.bytes)) = some (some (.agg (Lib.byteCells z48).toArray), 48, 48) := by kernel_rfl
/-- '[]api.Block{x, y}'. -/
theorem wpList_build_blks {ops : Array Oper} {rest : List Oper} {o : Oper} {a : Act} {w : World} {Q : Exit → Act → World → Prop} (hg : o.guard = none) (x y : Operand) (ho : o.op = .buildSlice 22 2 #[(0, x), (1, y)]) (X Y : List Value) (hX : X.length = 48) (hY : Y.length = 48) (hx : a.eval x = .agg X.toArray) (hy : a.eval y = .agg Y.toArray)
    (h : wpList Try.prog ops Q rest (a.put o.dst (.slice (some ⟨w.heap.size, 0, none⟩) 2 2)) (w.alloc (.cells (X ++ Y).toArray 40))) : wpList Try.prog ops Q (o :: rest) a w := by
  refine wpList_plain hg fun K hK => ?_
  obtain ⟨i0, hi, hz0, hz1, hz2⟩ := info_parts blkInfoS
  refine wp_buildSlice 22 40 2 #[(0, x), (1, y)] ho (X ++ Y).toArray i0 _ Try.underlying22 hi hz0 (by rw [hz1]; decide) (by rw [hz1]; decide) ?_ (hK _ _ h)
  rw [hz1]
  simp only [List.map_toArray, List.map_cons, List.map_nil, hx, hy]
  exact fill_blk2 X Y hX hY _ (by simp)

set_option maxHeartbeats 16000000 in
set_option maxRecDepth 100000 in
theorem nspeaks_true (w : World) : Calls Try.prog 6 #[] w fun e w' => e = .returned (.bool true) ∧ Below w.heap.size w w' := by
  obtain ⟨XL, hXL⟩ : ∃ X, X = Lib.byteCells blk1 := ⟨_, rfl⟩
  obtain ⟨YL, hYL⟩ : ∃ X, X = Lib.byteCells blk2 := ⟨_, rfl⟩
  have hXl : XL.length = 48 := by rw [hXL]; rfl
  have hYl : YL.length = 48 := by rw [hYL]; rfl
  have HXb := Lib.hid (show Try.prog.built 40 [(0, .int .u8 1)] = some XL.toArray by rw [hXL]; exact blk1_built)
  have HYb := Lib.hid (show Try.prog.built 40 [(0, .int .u8 2)] = some YL.toArray by rw [hYL]; exact blk2_built)
  have HXY := Lib.hid (show XL ++ YL = blkC [blk1, blk2] by rw [hXL, hYL]; simp [blkC])
  have HYn := Lib.hid (show (Try.prog.info? 40).map (·.size) = some YL.length by rw [hYl]; exact blkInfo)
  have hcmp : ∀ w, (Op.equalIn 10000 40 (.agg YL.toArray) (.agg YL.toArray)).run Try.prog w = .ok true w := fun w => by
    rw [eqv_at Try.underlying40 blk2 blk2 rfl rfl YL YL hYL hYL w]
    simp
  obtain ⟨DL, hDL⟩ : ∃ x, x = binC (1 : Nat) (2 : Nat) (2 : Nat) (rootF [blk1, blk2]) := ⟨_, rfl⟩
  have hDl : DL.length = 35 := by rw [hDL]; exact binC_length _ _ _ (rootF_length _)
  have HDLi := Lib.hid (show (Try.prog.info? 31).map (·.size) = some DL.toArray.size by rw [List.size_toArray, hDl]; exact binSize)
  have HDLn := Lib.hid (show (Try.prog.info? 31).map (·.size) = some DL.length by rw [hDl]; exact binSize)
  have HDLs := Lib.hid (show binZ.toArray.size = DL.toArray.size by rw [List.size_toArray, List.size_toArray, hDl]; rfl)
  have HDL1 := Lib.hid (show DL.toArray.all (·.oneCell') = true by rw [hDL]; exact all_oneCell_toArray (binC_cell _ _ _ _))
  have HYL := Lib.hid hYL
  have HDL := Lib.hid hDL
  have hgt := gtBN
  clear hXL hYL hDL
  go_enter Try.func6, Try.ntmps6
  go_wp2_with fail
  go_at_call 7
  refine Calls.mono (show Calls Try.prog 7 #[.int .i64 9] w (NewPost 9 w) from new_yes 9 w (by omega) (by omega)) ?_
  rintro e w2 ⟨k, rfl, hD2, hb2⟩
  have hF2 : ∀ b, newF (fun _ => False) w w2 b → w.heap.size ≤ b := fun b h => h.elim (fun h => h.elim) (fun h => h.1)
  go_wp2_with (first
    | (refine wpList_builtD rfl _ _ rfl [(0, .int .u8 1)] rfl XL.toArray HXb.out ?_)
    | (refine wpList_builtD rfl _ _ rfl [(0, .int .u8 2)] rfl YL.toArray HYb.out ?_)
    | (refine wpList_build_blks rfl _ _ rfl XL YL hXl hYl rfl rfl ?_))
  obtain ⟨w3, hw3⟩ : ∃ x, x = w2.alloc (.cells (XL ++ YL).toArray 40) := ⟨_, rfl⟩
  have hA3 : Arr w3 w2.heap.size 40 (blkC [blk1, blk2]) := by rw [hw3, HXY.out]; exact Arr.new w2 _ _
  have hb3 : Below w2.heap.size w2 w3 := by rw [hw3]; exact (Below.refl _ w2).alloc (Nat.le_refl _) _
  have hD3 := hD2.below hb3
  have hB3 := hb2.trans (hb3.mono hb2.size)
  rw [← hw3]
  have hFn : ¬ newF (fun _ => False) w w2 w2.heap.size := fun h => h.elim (fun h => h) (fun h => Nat.lt_irrefl _ h.2)
  clear hw3
  refine Calls.mono (nwrite_yes _ k 9 2 1 (List.replicate 9 zero64) _ [] [blk1, blk2] DL w2.heap.size 0 2 2 w3 hD3 rfl (by omega) (Nat.le_refl _) (by omega) blk12_48 hA3.lt (fun i hi => by
    obtain ⟨b, off, e, _, hr⟩ := hA3.blks blk12_48 (by simp)
    injection e with e
    injection e with e1 e2
    subst e1 e2
    exact hr i hi) hFn (by omega) (by simp) (by omega) HDL.out) ?_
  rintro e w4 ⟨rfl, F4, hD4, hF4, hO4⟩
  have hB4 := Only.upN hB3 hO4 hF2 (Nat.le_refl _)
  obtain ⟨gs, hS4⟩ := hD4.seenN
  clear hD2 hD3 hD4 hA3 hb2 hb3 hO4 hF4 hF2 hFn
  go_wp2_with (first
    | (change wpList _ _ _ _ _ (w4.alloc (.cells binZ.toArray 31)); refine wpList_store_row rfl _ _ _ rfl w4.heap.size DL.toArray rfl rfl 31 binZ.toArray (heap_alloc_new w4 _) HDLi.out HDLs.out HDL1.out ?_; obtain ⟨w5, hw5⟩ : ∃ x, x = (w4.alloc (.cells binZ.toArray 31)).setRow w4.heap.size DL.toArray := ⟨_, rfl⟩; rw [← hw5]; obtain ⟨hP5, hb5⟩ := alloc_rowD w4 31 binZ.toArray DL; rw [← hw5] at hP5 hb5; clear hw5)
    | (refine wpList_load_row rfl _ _ rfl w4.heap.size rfl 31 DL.toArray (0, 0) _ hP5 Try.underlying31 rfl HDLi.out ?_))
  have hS5 := hS4.below hb5
  have hB5 := hB4.trans (hb5.mono hB4.size)
  clear hS4 hB4 hb5 hB3
  have hst : standsF (putB (List.replicate 9 zero64) 2 [blk1, blk2] 2) 2 2 = [blk1, blk2] := stands_put (bs := [blk1, blk2]) blk12_48 (by simp)
  refine Calls.mono (nall_at k gs 9 _ 1 2 2 (rootF [blk1, blk2]) DL true w5 hS5 (rootF_length _) HDL.out (by omega) (by omega) (by rw [hst]; simp)) ?_
  rintro e w6 ⟨h6, _, hb6⟩
  obtain ⟨g, rfl, hG6, hg6⟩ := h6 (by first | rfl | trivial)
  rw [hst] at hG6
  have hB6 := hB5.trans (hb6.mono hB5.size)
  have hY6 : w6.rangeAt g 48 YL := fun j v hj => by
    rw [HYL.out] at hj
    rw [hG6.cell]
    exact blkC_at blk12_48 (i := 1) (by simp) j v hj
  clear hS5 hP5 h6 hb6 hB5 hst hG6 hg6
  go_wp2_with (first
    | (refine wpList_load_mid_if (by rfl) _ _ rfl g 48 rfl YL _ hY6 Try.underlying40 rfl HYn.out ?_)
    | (refine wpList_built_if (by rfl) _ _ rfl [(0, .int .u8 2)] rfl YL.toArray HYb.out ?_))
  go_ret
  exact ⟨rfl, hB6⟩


end Go.Proofs.Ytccccpadnaocfaa

namespace Go.Proofs.Ytccccpadnaocfaa
open Go.RowKit
set_option linter.unusedVariables false
set_option linter.unusedSimpArgs false

theorem bin_fields : (Try.prog.fieldsOf 31).toList.map (fun f => (f.name == "_", f.type, f.offset)) = [(false, 3, 0), (false, 3, 1), (false, 3, 2), (false, 29, 3)] := by kernel_rfl
theorem bin_held : Try.prog.stoodInHeld 31 = false := by kernel_rfl
theorem bin_under : Try.prog.underlying 31 = some (.struct (Try.prog.fieldsOf 31)) := by kernel_rfl
theorem gtNN : Try.prog.eqGuardType Try.prog.depth 31 = false := by kernel_rfl
theorem bin_dig_part {d : List UInt8} (hd : d.length = 32) (x a n : Int) (w : World) : (part 29 (binC x a n d).toArray 3).run Try.prog w = .ok (.agg (Lib.byteCells d).toArray) w := by
  have hs : (Try.prog.info? 29).map (·.size) = some 32 := digInfo
  have hu := Try.underlying29
  have hl : (Lib.byteCells d).length = 32 := by rw [Lib.byteCells_length, hd]
  cases hq : Try.prog.info? 29 with
  | none => simp [hq] at hs
  | some i0 =>
    have h1 : i0.size = 32 := by simpa [hq] using hs
    have e : List.take 32 ((binC x a n d).drop 3) = Lib.byteCells d := by
      show List.take 32 (Lib.byteCells d) = _
      rw [List.take_of_length_le (Nat.le_of_eq hl)]
    simp [part, isAgg, run_underlying hu, sizeOf, typeInfo, hq, h1, e]
theorem bin_int_part (d : List UInt8) (x a n : Int) (w : World) : (part 3 (binC x a n d).toArray 0).run Try.prog w = .ok (.int .i64 x) w ∧ (part 3 (binC x a n d).toArray 1).run Try.prog w = .ok (.int .i64 a) w ∧ (part 3 (binC x a n d).toArray 2).run Try.prog w = .ok (.int .i64 n) w := by
  have hu := Try.underlying3
  have h := binC_at x a n d
  refine ⟨?_, ?_, ?_⟩ <;> simp [part, isAgg, run_underlying hu, h.1, h.2.1, h.2.2]
theorem bin_list : ∃ f g h k : Field, (Try.prog.fieldsOf 31).toList = [f, g, h, k] ∧ (f.name ≠ "_" ∧ f.type = 3 ∧ f.offset = 0) ∧ (g.name ≠ "_" ∧ g.type = 3 ∧ g.offset = 1) ∧ (h.name ≠ "_" ∧ h.type = 3 ∧ h.offset = 2) ∧ (k.name ≠ "_" ∧ k.type = 29 ∧ k.offset = 3) := by
  have h := bin_fields
  revert h
  generalize (Try.prog.fieldsOf 31).toList = l
  intro h
  cases l with
  | nil => simp at h
  | cons f l => cases l with
    | nil => simp at h
    | cons g l => cases l with
      | nil => simp at h
      | cons k l => cases l with
        | nil => simp at h
        | cons u l => cases l with
          | cons _ _ => simp at h
          | nil =>
            simp only [List.map_cons, List.map_nil, List.cons.injEq, Prod.mk.injEq, beq_eq_false_iff_ne, and_true] at h
            exact ⟨f, g, k, u, rfl, h.1, h.2.1, h.2.2.1, h.2.2.2⟩
theorem eqFieldsN_yes {P : Program} {d : Nat} {xs ys : Array Value} {f : Field} {fs : List Field} {w : World} {a b : Value} (hn : f.name ≠ "_") (ha : (part f.type xs f.offset).run P w = .ok a w) (hb : (part f.type ys f.offset).run P w = .ok b w) (he : (Op.equalIn d f.type a b).run P w = .ok true w) :
    (Op.eqFields d xs ys (f :: fs)).run P w = (Op.eqFields d xs ys fs).run P w := by
  rw [Op.eqFields, if_pos hn]
  simp only [Sem.run_bind, ha, hb, he, Result.andThen_ok, Bool.not_true, Bool.false_eq_true, if_false]
theorem eqFieldsN_nil {P : Program} {d : Nat} {xs ys : Array Value} {w : World} : (Op.eqFields d xs ys []).run P w = .ok true w := by
  rw [Op.eqFields, Sem.run_pure]
set_option maxRecDepth 100000 in
theorem dig_eqvN_at (e : Nat) (X : List UInt8) (hX : X.length = 32) (w : World) :
    (Op.equalIn (e + 1 + 1) 29 (.agg (Lib.byteCells X).toArray) (.agg (Lib.byteCells X).toArray)).run Try.prog w = .ok true w := by
  have hi : Try.prog.info? 5 = some ((Try.prog.info? 5).get (by kernel_rfl)) := (Option.some_get _).symm
  have h1 := run_equalIn_array (P := Try.prog) (w := w) (e + 1) (Lib.byteCells X).toArray (Lib.byteCells X).toArray Try.underlying29 hi
  have hc : Try.prog.cellsOf 5 = 1 := by kernel_rfl
  rw [hc, eqItems_bytes e X X w (List.range 32) (fun i hi => by have := List.mem_range.1 hi; omega), all_getD hX hX] at h1
  rw [h1]
  simp
theorem bin_refl (d : List UInt8) (hd : d.length = 32) (x a n : Int) (XL : List Value) (hXL : XL = binC x a n d) (w : World) : (Op.equalIn 10000 31 (.agg XL.toArray) (.agg XL.toArray)).run Try.prog w = .ok true w := by
  subst hXL
  obtain ⟨f, g, h, k, hl, ⟨f1, f2, f3⟩, ⟨g1, g2, g3⟩, ⟨h1, h2, h3⟩, ⟨k1, k2, k3⟩⟩ := bin_list
  show (Op.equalIn (9997 + 1 + 1 + 1) _ _ _).run _ _ = _
  rw [run_equalIn_struct w (9997 + 1 + 1) 31 _ _ bin_under bin_held, hl]
  obtain ⟨p1, p2, p3⟩ := bin_int_part d x a n w
  have p4 := bin_dig_part hd x a n w
  have q0 : ∀ z : Int, (Op.equalIn (9997 + 1 + 1) 3 (.int .i64 z) (.int .i64 z)).run Try.prog w = .ok true w := fun z => by
    rw [run_equalIn_int w (9997 + 1) 3 .i64 .i64 z z Try.underlying3]; simp
  have q4 := dig_eqvN_at 9997 d hd w
  rw [eqFieldsN_yes f1 (by rw [f2, f3]; exact p1) (by rw [f2, f3]; exact p1) (by rw [f2]; exact q0 x)]
  rw [eqFieldsN_yes g1 (by rw [g2, g3]; exact p2) (by rw [g2, g3]; exact p2) (by rw [g2]; exact q0 a)]
  rw [eqFieldsN_yes h1 (by rw [h2, h3]; exact p3) (by rw [h2, h3]; exact p3) (by rw [h2]; exact q0 n)]
  rw [eqFieldsN_yes k1 (by rw [k2, k3]; exact p4) (by rw [k2, k3]; exact p4) (by rw [k2]; exact q4), eqFieldsN_nil]

set_option maxHeartbeats 8000000 in
set_option maxRecDepth 100000 in
theorem nwrite_arg (p : Value) (a number : Int) (m c : Nat) (X : Option Addr) (DL : List Value) (w : World) (h : number < 0 ∨ m = 0) (hDL : DL = binZ) :
    Calls Try.prog 8 #[p, .int .i64 number, .int .i64 a, .slice X m c] w fun e w' => e = .returned (.tuple #[.agg DL.toArray, .int .i64 1]) ∧ Below w.heap.size w w' := by
  have hd : decide (number < (0 : Int)) = true ∨ (decide (number < (0 : Int)) = false ∧ ((m : Int) == (0 : Int)) = true) := by
    rw [decide_eq_true_eq, decide_eq_false_iff_not, beq_iff_eq]; omega
  obtain ⟨W1, hW1⟩ : ∃ x, x = w.alloc (.cells binZ.toArray 31) := ⟨_, rfl⟩
  have hR1 : Arr W1 w.heap.size 31 binZ := by rw [hW1]; exact Arr.new w _ _
  have hb1 : Below w.heap.size w W1 := by rw [hW1]; exact (Below.refl _ w).alloc (Nat.le_refl _) _
  have hDl : DL.length = 35 := by rw [hDL]; rfl
  have HDLi := Lib.hid (show (Try.prog.info? 31).map (·.size) = some DL.toArray.size by rw [List.size_toArray, hDl]; exact binSize)
  have HDLn := Lib.hid (show (Try.prog.info? 31).map (·.size) = some DL.length by rw [hDl]; exact binSize)
  have HDLs := Lib.hid (show binZ.toArray.size = DL.toArray.size by rw [List.size_toArray, List.size_toArray, hDl]; rfl)
  have HDL1 := Lib.hid (show DL.toArray.all (·.oneCell') = true by rw [hDL]; exact all_oneCell_toArray (binC_cell _ _ _ _))
  have HDb := Lib.hid (show Try.prog.built 31 [] = some DL.toArray by rw [hDL]; exact bin_built0)
  have H0 := Lib.hid hR1
  have HW1 := Lib.hid hW1
  clear hW1 h hDL hR1
  rcases hd with h1 | ⟨h1, h2⟩
  all_goals
    go_enter Try.func8, Try.ntmps8
    go_upto_region 1 with fail
    change Code.wp _ _ _ _ (w.alloc (.cells binZ.toArray 31))
    rw [← HW1.out]
    clear HW1
    go_wp2_with (first
      | (refine wpList_builtD rfl _ _ rfl [] rfl DL.toArray HDb.out ?_)
      | (refine wpList_store_row rfl _ _ _ rfl w.heap.size DL.toArray rfl rfl 31 binZ.toArray H0.out HDLi.out HDLs.out HDL1.out ?_))
    have hset := Arr.setRow H0.out DL
    have hfin : Below w.heap.size w (W1.setRow w.heap.size DL.toArray) := hb1.trans (((Only.refl (fun k => k = w.heap.size) W1).setRow (.inl rfl) DL.toArray).below hb1.size (by rintro k rfl; exact Nat.le_refl _))
    obtain ⟨V, hV⟩ : ∃ V, V = Value.tuple #[.agg DL.toArray, .int .i64 1] := ⟨_, rfl⟩
    refine bodyPost_ret (v := V) ?_ rfl ⟨by rw [hV], hfin⟩
    rw [hV]
    exact results_cell2 (fn := Try.f8) (by rfl) _ _ w.heap.size 31 DL.toArray (0, 0) _ (by rfl) _ (by rfl) hset Try.underlying31 rfl HDLi.out

set_option maxHeartbeats 8000000 in
set_option maxRecDepth 100000 in
theorem nwrite_range (k gs n : Nat) (a number : Int) (m c : Nat) (X : Option Addr) (DL : List Value) (w : World) (hc0 : w.cell? ⟨k, 0, none⟩ = some (.slice (some ⟨gs, 0, none⟩) n n)) (hkl : k < w.heap.size) (hn : n ≤ 65536) (h0 : 0 ≤ number) (hm : 1 ≤ m) (ha : a ≤ 9223372036854775807) (h : a < 0 ∨ (n : Int) - a < m) (hDL : DL = binZ) :
    Calls Try.prog 8 #[.pointer (some ⟨k, 0, none⟩), .int .i64 number, .int .i64 a, .slice X m c] w fun e w' => e = .returned (.tuple #[.agg DL.toArray, .int .i64 2]) ∧ Below w.heap.size w w' := by
  have hd0 : decide (number < (0 : Int)) = false := by simp; exact h0
  have hd1 : ((m : Int) == (0 : Int)) = false := by rw [beq_eq_false_iff_ne]; omega
  have hd2 : decide (0 ≤ a ∧ (m : Int) ≤ n - a) = false := by simp; omega
  obtain ⟨W1, hW1⟩ : ∃ x, x = w.alloc (.cells binZ.toArray 31) := ⟨_, rfl⟩
  have hR1 : Arr W1 w.heap.size 31 binZ := by rw [hW1]; exact Arr.new w _ _
  have hb1 : Below w.heap.size w W1 := by rw [hW1]; exact (Below.refl _ w).alloc (Nat.le_refl _) _
  have hc1 := (hb1.cell (p := ⟨k, 0, none⟩) hkl).trans hc0
  have hDl : DL.length = 35 := by rw [hDL]; rfl
  have HDLi := Lib.hid (show (Try.prog.info? 31).map (·.size) = some DL.toArray.size by rw [List.size_toArray, hDl]; exact binSize)
  have HDLn := Lib.hid (show (Try.prog.info? 31).map (·.size) = some DL.length by rw [hDl]; exact binSize)
  have HDLs := Lib.hid (show binZ.toArray.size = DL.toArray.size by rw [List.size_toArray, List.size_toArray, hDl]; rfl)
  have HDL1 := Lib.hid (show DL.toArray.all (·.oneCell') = true by rw [hDL]; exact all_oneCell_toArray (binC_cell _ _ _ _))
  have HDb := Lib.hid (show Try.prog.built 31 [] = some DL.toArray by rw [hDL]; exact bin_built0)
  have H0 := Lib.hid hR1
  have HW1 := Lib.hid hW1
  clear hW1 h hDL hR1
  go_enter Try.func8, Try.ntmps8
  go_upto_region 1 with fail
  change Code.wp _ _ _ _ (w.alloc (.cells binZ.toArray 31))
  rw [← HW1.out]
  clear HW1
  go_wp2_with fail
  refine Calls.mono (nthere_is k gs n a m false W1 hc1 hn ha hd2) ?_
  rintro e w2 ⟨rfl, rfl⟩
  go_wp2_with (first
    | (refine wpList_builtD rfl _ _ rfl [] rfl DL.toArray HDb.out ?_)
    | (refine wpList_store_row rfl _ _ _ rfl w.heap.size DL.toArray rfl rfl 31 binZ.toArray H0.out HDLi.out HDLs.out HDL1.out ?_))
  have hset := Arr.setRow H0.out DL
  have hfin : Below w.heap.size w (w2.setRow w.heap.size DL.toArray) := hb1.trans (((Only.refl (fun k => k = w.heap.size) w2).setRow (.inl rfl) DL.toArray).below hb1.size (by rintro k rfl; exact Nat.le_refl _))
  obtain ⟨V, hV⟩ : ∃ V, V = Value.tuple #[.agg DL.toArray, .int .i64 2] := ⟨_, rfl⟩
  refine bodyPost_ret (v := V) ?_ rfl ⟨by rw [hV], hfin⟩
  rw [hV]
  exact results_cell2 (fn := Try.f8) (by rfl) _ _ w.heap.size 31 DL.toArray (0, 0) _ (by rfl) _ (by rfl) hset Try.underlying31 rfl HDLi.out


end Go.Proofs.Ytccccpadnaocfaa

namespace Go.Proofs.Ytccccpadnaocfaa
open Go.RowKit
set_option linter.unusedVariables false
set_option linter.unusedSimpArgs false

/-- A whole number, taken modulo 2^64. -/
def uN (a : Int) : Nat := (IntKind.u64.wrap a).toNat
theorem uN_wrap (a : Int) : IntKind.u64.wrap a = ((uN a : Nat) : Int) ∧ uN a < 18446744073709551616 := by
  unfold uN
  have h : IntKind.u64.wrap a = a % 18446744073709551616 := by rw [IntKind.wrap_u64]
  omega
theorem uN_nat {n : Nat} (h : n < 18446744073709551616) : uN (n : Int) = n := by
  unfold uN
  rw [IntWalk.u64_in _ (by omega)]
  simp
/-- A bin as bytes. -/
def binP (n a c : Int) : Nat → List UInt8
  | 0 => []
  | 1 => Lib.uvarint (uN n)
  | 2 => Lib.uvarint (uN n) ++ Lib.uvarint (uN a)
  | _ => Lib.uvarint (uN n) ++ Lib.uvarint (uN a) ++ Lib.uvarint (uN c)
def binB (n a c : Int) (d : List UInt8) : List UInt8 := Lib.uvarint (uN n) ++ Lib.uvarint (uN a) ++ Lib.uvarint (uN c) ++ d
theorem binP_length (n a c : Int) (i : Nat) : (binP n a c i).length ≤ 30 := by
  have e1 := Lib.uvarint_length64 (uN_wrap n).2
  have e2 := Lib.uvarint_length64 (uN_wrap a).2
  have e3 := Lib.uvarint_length64 (uN_wrap c).2
  unfold binP
  split
  · simp
  · omega
  · rw [List.length_append]; omega
  · rw [List.length_append, List.length_append]; omega
theorem arr3_built (n a c : Int) : Try.prog.built 82 [(0, .int .i64 n), (1, .int .i64 a), (2, .int .i64 c)] = some #[.int .i64 n, .int .i64 a, .int .i64 c] := by kernel_rfl
theorem idx0 (n a c : Int) (w : World) : (Instr.index 82 (.agg #[.int .i64 n, .int .i64 a, .int .i64 c]) (.int .i64 0)).run Try.prog w = .ok (.int .i64 n) w := by kernel_rfl
theorem idx1 (n a c : Int) (w : World) : (Instr.index 82 (.agg #[.int .i64 n, .int .i64 a, .int .i64 c]) (.int .i64 1)).run Try.prog w = .ok (.int .i64 a) w := by kernel_rfl
theorem idx2 (n a c : Int) (w : World) : (Instr.index 82 (.agg #[.int .i64 n, .int .i64 a, .int .i64 c]) (.int .i64 2)).run Try.prog w = .ok (.int .i64 c) w := by kernel_rfl
theorem bin_dig_bs {w : World} {g : Nat} {T : TypeId} {n a c : Int} {d : List UInt8} {DL : List Value} (hDL : DL = binC n a c d) (h : Arr w g T DL) : Bs w w.heap.size (some ⟨g, 3, none⟩) d := fun _ => ⟨g, 3, rfl, h.lt, fun j hj => by
  rw [h.cell, hDL]
  exact binC_dig n a c d j _ (byteCells_get hj)⟩

set_option maxHeartbeats 8000000 in
set_option maxRecDepth 100000 in
theorem nput_any (n a c : Int) (d : List UInt8) (hd : d.length = 32) (DL : List Value) (hDL : DL = binC n a c d) (w : World) :
    Calls Try.prog 22 #[.slice none 0 0, .agg DL.toArray] w fun e w' => ∃ v, e = .returned v ∧ Owns w' w.heap.size 5 v (binB n a c d) ∧ Below w.heap.size w w' := by
  obtain ⟨i0, hi, hz0, hz1, hz2⟩ := info_parts byteInfo
  obtain ⟨W1, hW1⟩ : ∃ x, x = w.alloc (.cells DL.toArray 31) := ⟨_, rfl⟩
  have hX1 : Arr W1 w.heap.size 31 DL := by rw [hW1]; exact Arr.new w _ _
  have hb1 : Below w.heap.size w W1 := by rw [hW1]; exact (Below.refl _ w).alloc (Nat.le_refl _) _
  have HD0 := Lib.hid (show DL[0]? = some (.int .i64 n) by rw [hDL]; rfl)
  have HD1 := Lib.hid (show DL[1]? = some (.int .i64 a) by rw [hDL]; rfl)
  have HD2 := Lib.hid (show DL[2]? = some (.int .i64 c) by rw [hDL]; rfl)
  have Hbs := Lib.hid (show ∀ w' : World, Arr w' w.heap.size 31 DL → Bs w' w'.heap.size (some ⟨w.heap.size, 3, none⟩) d from fun w' h => bin_dig_bs hDL h)
  have HW1 := Lib.hid hW1
  clear hW1 hDL
  go_enter Try.func22, Try.ntmps22
  go_upto_region 1 with fail
  change Code.wp _ _ _ _ (w.alloc (.cells DL.toArray 31))
  rw [← HW1.out]
  clear HW1
  go_wp2_with fail
  go_at_call 36
  refine Calls.mono (show Calls Try.prog 36 #[.slice none 0 0] W1 _ from cloneb_any 0 none 0 [] W1 (Bs.nil _ _ _) (by simp)) ?_
  rintro e w2 ⟨v2, rfl, hown2, hb2⟩
  have hX2 := hX1.below hb2 hX1.lt
  have hwB : w.heap.size < W1.heap.size := hX1.lt
  obtain ⟨B, hB⟩ : ∃ B, B = W1.heap.size := ⟨_, rfl⟩
  rw [← hB] at hown2 hb2 hwB
  have hB2 : B ≤ w2.heap.size := by rw [hB]; exact hb2.size
  have hbw2 : Below w.heap.size w w2 := hb1.trans (hb2.mono (Nat.le_of_lt hwB))
  have c0 : w2.cell? ⟨w.heap.size, 0, none⟩ = some (.int .i64 n) := by rw [hX2.cell]; exact HD0.out
  have c1 : w2.cell? ⟨w.heap.size, 1, none⟩ = some (.int .i64 a) := by rw [hX2.cell]; exact HD1.out
  have c2 : w2.cell? ⟨w.heap.size, 2, none⟩ = some (.int .i64 c) := by rw [hX2.cell]; exact HD2.out
  have hb3 := arr3_built n a c
  have Hb3 := Lib.hid hb3
  clear hb3 hB hb1 hX1
  dsimp only
  go_wp2_with (first
    | (refine wpList_builtD rfl _ _ rfl _ rfl _ Hb3.out ?_))
  go_loopw [0, 16] (fun v x wr => ∃ i : Nat, i ≤ 3 ∧ x = .int .i64 i ∧ Owns wr B 5 v (binP n a c i) ∧ Arr wr w.heap.size 31 DL ∧ B ≤ wr.heap.size ∧ Below w.heap.size w wr) (fun _ x _ => 3 - (intOf x).toNat)
  case atStart => exact ⟨0, by omega, rfl, hown2, hX2, hB2, hbw2⟩
  case round =>
    clear hown2 hX2 hB2 hbw2 c0 c1 c2
    obtain ⟨i, hi3, rfl, hown, hX, hBr, hbr⟩ := hrel
    obtain ⟨wq, hwq⟩ : ∃ x, x = wr := ⟨_, rfl⟩
    subst hwq
    have hpl := binP_length n a c i
    by_cases h3 : i = 3
    · subst h3
      have hdl : (binP n a c 3 ++ d) = binB n a c d := rfl
      have Hdl := Lib.hid hdl
      have hbs := Hbs.out wq hX
      clear hdl
      go_wp2_with (at_builtin; refine wpList_append_bs rfl _ _ 49 rfl B 5 i0 (.int .u8 0) Try.underlying49 hi hz0 hz1 hz2 rfl _ (binP n a c 3) rfl hown wq.heap.size (some ⟨w.heap.size, 3, none⟩) 32 32 d rfl hd hbs (by omega) hBr ?_)
      intro v4 w4 hown4 hg4
      have hb4 : Below B wq w4 := hg4.below hBr (fun k hk => (hown.lt k hk).1)
      have hbw4 := hbr.trans (hb4.mono (Nat.le_of_lt hwB))
      rw [Hdl.out] at hown4
      clear hown hg4 hbs
      go_wp2_with fail
      go_ret
      exact ⟨v4, rfl, hown4.base (Nat.le_of_lt hwB), hbw4⟩
    have hstep : ∃ (z : Int) (x : Nat), IntKind.u64.wrap z = (x : Int) ∧ x < 18446744073709551616 ∧ binP n a c i ++ Lib.uvarint x = binP n a c (i + 1) ∧ ((i = 0 ∧ z = n) ∨ (i = 1 ∧ z = a) ∨ (i = 2 ∧ z = c)) := by
      have h012 : i = 0 ∨ i = 1 ∨ i = 2 := by omega
      rcases h012 with rfl | rfl | rfl
      · exact ⟨n, uN n, (uN_wrap n).1, (uN_wrap n).2, rfl, .inl ⟨rfl, rfl⟩⟩
      · exact ⟨a, uN a, (uN_wrap a).1, (uN_wrap a).2, rfl, .inr (.inl ⟨rfl, rfl⟩)⟩
      · exact ⟨c, uN c, (uN_wrap c).1, (uN_wrap c).2, rfl, .inr (.inr ⟨rfl, rfl⟩)⟩
    obtain ⟨z, x, hzx, hx, hP, hcase⟩ := hstep
    obtain ⟨P, hPe⟩ : ∃ P, P = binP n a c i := ⟨_, rfl⟩
    rw [← hPe] at hown hpl hP
    have HP := Lib.hid hP
    clear hPe hP
    have hx0 := fun w => idx0 n a c w
    have hx1 := fun w => idx1 n a c w
    have hx2 := fun w => idx2 n a c w
    rcases hcase with ⟨rfl, rfl⟩ | ⟨rfl, rfl⟩ | ⟨rfl, rfl⟩
    all_goals
      go_wp2_with fail
      refine Calls.mono (number_any B x hx _ P wq hown hBr (by omega)) ?_
      rintro e w4 ⟨v4, rfl, hown4, hg4⟩
      have hb4 : Below B wq w4 := hg4.below hBr (fun k hk => (hown.lt k hk).1)
      have hX4 : Arr w4 w.heap.size 31 DL := hX.below hb4 hwB
      have hbw4 := hbr.trans (hb4.mono (Nat.le_of_lt hwB))
      have hB4 : B ≤ w4.heap.size := Nat.le_trans hBr hb4.size
      rw [HP.out] at hown4
      clear hown hg4 hX hbr hb4
      go_wp2_with fail
      go_roundw
      case rel => exact ⟨_, by omega, by go_num, hown4, hX4, hB4, hbw4⟩
      case measure => simp [intOf]

set_option maxHeartbeats 8000000 in
set_option maxRecDepth 100000 in
theorem rnput_any (n a c : Int) (d : List UInt8) (hd : d.length = 32) (DL : List Value) (hDL : DL = binC n a c d) (w : World) :
    Calls Try.prog 24 #[.slice none 0 0, .agg DL.toArray] w fun e w' => ∃ v, e = .returned v ∧ Owns w' w.heap.size 5 v (binB n a c d) ∧ Below w.heap.size w w' := by
  obtain ⟨i0, hi, hz0, hz1, hz2⟩ := info_parts byteInfo
  obtain ⟨W1, hW1⟩ : ∃ x, x = w.alloc (.cells DL.toArray 31) := ⟨_, rfl⟩
  have hX1 : Arr W1 w.heap.size 31 DL := by rw [hW1]; exact Arr.new w _ _
  have hb1 : Below w.heap.size w W1 := by rw [hW1]; exact (Below.refl _ w).alloc (Nat.le_refl _) _
  have HD0 := Lib.hid (show DL[0]? = some (.int .i64 n) by rw [hDL]; rfl)
  have HD1 := Lib.hid (show DL[1]? = some (.int .i64 a) by rw [hDL]; rfl)
  have HD2 := Lib.hid (show DL[2]? = some (.int .i64 c) by rw [hDL]; rfl)
  have Hbs := Lib.hid (show ∀ w' : World, Arr w' w.heap.size 31 DL → Bs w' w'.heap.size (some ⟨w.heap.size, 3, none⟩) d from fun w' h => bin_dig_bs hDL h)
  obtain ⟨x, hx⟩ : ∃ x, uN n = x := ⟨_, rfl⟩
  obtain ⟨y, hy⟩ : ∃ y, uN a = y := ⟨_, rfl⟩
  obtain ⟨z, hz⟩ : ∃ z, uN c = z := ⟨_, rfl⟩
  have hxw : IntKind.u64.wrap n = (x : Int) := by rw [← hx]; exact (uN_wrap n).1
  have hyw : IntKind.u64.wrap a = (y : Int) := by rw [← hy]; exact (uN_wrap a).1
  have hzw : IntKind.u64.wrap c = (z : Int) := by rw [← hz]; exact (uN_wrap c).1
  have hxl : x < 18446744073709551616 := by rw [← hx]; exact (uN_wrap n).2
  have hyl : y < 18446744073709551616 := by rw [← hy]; exact (uN_wrap a).2
  have hzl : z < 18446744073709551616 := by rw [← hz]; exact (uN_wrap c).2
  have HBin := Lib.hid (show Lib.uvarint x ++ (Lib.uvarint y ++ (Lib.uvarint z ++ d)) = binB n a c d by rw [← hx, ← hy, ← hz]; simp [binB])
  have e1 := Lib.uvarint_length64 hxl
  have e2 := Lib.uvarint_length64 hyl
  have e3 := Lib.uvarint_length64 hzl
  obtain ⟨X, hXe⟩ : ∃ X, X = Lib.uvarint x := ⟨_, rfl⟩
  obtain ⟨Y, hYe⟩ : ∃ X, X = Lib.uvarint y := ⟨_, rfl⟩
  obtain ⟨Z, hZe⟩ : ∃ X, X = Lib.uvarint z := ⟨_, rfl⟩
  have HXe := Lib.hid hXe
  have HYe := Lib.hid hYe
  have HZe := Lib.hid hZe
  rw [← hXe] at e1
  rw [← hYe] at e2
  rw [← hZe] at e3
  have c0 : W1.cell? ⟨w.heap.size, 0, none⟩ = some (.int .i64 n) := by rw [hX1.cell]; exact HD0.out
  have HW1 := Lib.hid hW1
  obtain ⟨B, hB⟩ : ∃ B, B = W1.heap.size := ⟨_, rfl⟩
  have hwB : w.heap.size < B := by rw [hB]; exact hX1.lt
  have hB1 : B ≤ W1.heap.size := Nat.le_of_eq hB
  clear hW1 hDL hx hy hz hXe hYe hZe hB
  go_enter Try.func24, Try.ntmps24
  go_upto_region 1 with fail
  change Code.wp _ _ _ _ (w.alloc (.cells DL.toArray 31))
  rw [← HW1.out]
  clear HW1
  go_wp2_with fail
  go_at_call 43
  refine Calls.mono (rnumber_any B x hxl _ [] W1 (Owns.nil W1 B 5) hB1 (by simp)) ?_
  rintro e w2 ⟨v2, rfl, hown2, hg2⟩
  have hb2 : Below B W1 w2 := hg2.below hB1 (fun k hk => by cases hk)
  have hX2 := hX1.below hb2 hwB
  have hB2 : B ≤ w2.heap.size := Nat.le_trans hB1 hb2.size
  have hbw2 := hb1.trans (hb2.mono (Nat.le_of_lt hwB))
  have c1 : w2.cell? ⟨w.heap.size, 1, none⟩ = some (.int .i64 a) := by rw [hX2.cell]; exact HD1.out
  rw [← HXe.out] at hown2
  clear hX1 hb1 hg2 hb2 c0 hB1
  dsimp only
  go_wp2_with fail
  go_at_call 43
  refine Calls.mono (rnumber_any B y hyl _ _ w2 hown2 hB2 (by simp only [List.length_append, List.length_nil]; omega)) ?_
  rintro e w3 ⟨v3, rfl, hown3, hg3⟩
  have hb3 : Below B w2 w3 := hg3.below hB2 (fun k hk => (hown2.lt k hk).1)
  have hX3 := hX2.below hb3 hwB
  have hB3 : B ≤ w3.heap.size := Nat.le_trans hB2 hb3.size
  have hbw3 := hbw2.trans (hb3.mono (Nat.le_of_lt hwB))
  have c2 : w3.cell? ⟨w.heap.size, 2, none⟩ = some (.int .i64 c) := by rw [hX3.cell]; exact HD2.out
  rw [← HYe.out] at hown3
  clear hX2 hbw2 hg3 hb3 c1 hB2 hown2
  dsimp only
  go_wp2_with fail
  go_at_call 43
  refine Calls.mono (rnumber_any B z hzl _ _ w3 hown3 hB3 (by simp only [List.length_append, List.length_nil]; omega)) ?_
  rintro e w4 ⟨v4, rfl, hown4, hg4⟩
  have hb4 : Below B w3 w4 := hg4.below hB3 (fun k hk => (hown3.lt k hk).1)
  have hX4 := hX3.below hb4 hwB
  have hB4 : B ≤ w4.heap.size := Nat.le_trans hB3 hb4.size
  have hbw4 := hbw3.trans (hb4.mono (Nat.le_of_lt hwB))
  have hbs := Hbs.out w4 hX4
  rw [← HZe.out] at hown4
  clear hX3 hbw3 hg4 hb4 c2 hB3 hown3
  dsimp only
  go_wp2_with (at_builtin; refine wpList_append_bs rfl _ _ 49 rfl B 5 i0 (.int .u8 0) Try.underlying49 hi hz0 hz1 hz2 rfl v4 _ rfl hown4 w4.heap.size (some ⟨w.heap.size, 3, none⟩) 32 32 d rfl hd hbs (by simp only [List.length_append, List.length_nil]; omega) hB4 ?_)
  intro v5 w5 hown5 hg5
  have hb5 : Below B w4 w5 := hg5.below hB4 (fun k hk => (hown4.lt k hk).1)
  have hbw5 := hbw4.trans (hb5.mono (Nat.le_of_lt hwB))
  rw [HXe.out, HYe.out, HZe.out] at hown5
  try simp only [List.nil_append, List.append_assoc] at hown5
  rw [HBin.out] at hown5
  clear hown4 hg5 hbs
  go_wp2_with fail
  go_ret
  exact ⟨v5, rfl, hown5.base (Nat.le_of_lt hwB), hbw5⟩

end Go.Proofs.Ytccccpadnaocfaa

namespace Go.Proofs.Ytccccpadnaocfaa
open Go.RowKit
set_option linter.unusedVariables false
set_option linter.unusedSimpArgs false

theorem TurnN.only {p : Nat} {w w' : World} (h : Turn p w w') : Only (fun b => b = p) w w' := ⟨h.os, h.tape, h.output, h.size, fun k hk hn => h.block k hk (fun e => hn (by injection e))⟩
theorem Only.turnN {p : Nat} {w w' : World} (h : Only (fun b => b = p) w w') : Turn p w w' := ⟨h.os, h.tape, h.output, h.size, fun k hk hn => h.block k hk (fun e => hn (by rw [e]))⟩
/-- What lies at p and below stays. -/
def LowN (p : Nat) (w w' : World) : Prop := w.heap.size ≤ w'.heap.size ∧ ∀ k, k ≤ p → w'.heap[k]? = w.heap[k]?
theorem PIn.lowN {p : Nat} {l : List UInt8} {wr : Bool} {w w' : World} (h : PIn w p l wr) (hb : LowN p w w') : PIn w' p l wr := by
  obtain ⟨A, c, hg, h1, h2, h3, h4⟩ := h
  exact ⟨A, c, (hb.2 p (Nat.le_refl _)).trans hg, h1, h2, h3.keep fun b o hlt => World.cell?_of_block (hb.2 b (Nat.le_of_lt hlt)), h4⟩
theorem RIn.lowN {q : Nat} {L : List UInt8} {A : Option Addr} {c o : Nat} {wr : Bool} {w w' : World} (h : RIn w q L A c o wr) (hb : LowN q w w') : RIn w' q L A c o wr := (hb.2 q (Nat.le_refl _)).trans h
theorem RFix.lowN {q : Nat} {L : List UInt8} {A : Option Addr} {c : Nat} {w w' : World} (h : RFix w q L A c) (hb : LowN q w w') : RFix w' q L A c :=
  ⟨h.le, h.lim, h.cap, h.bytes.keep fun b o hlt => World.cell?_of_block (hb.2 b (Nat.le_of_lt hlt))⟩
/-- What Take gives. -/
def tkN (x a c : Nat) (d : List UInt8) (b : Bool) : List Value := if b then binZ else binC (x : Nat) (a : Nat) (c : Nat) d
theorem binC_dset {d e : List UInt8} (hd : d.length = 32) (he : e.length = 32) (x a c : Int) (VL : List Value) (hV : VL = Lib.byteCells e) : (binC x a c d).take 3 ++ (VL ++ (binC x a c d).drop (3 + VL.length)) = binC x a c e := by
  have hl : (Lib.byteCells d).length = 32 := by rw [Lib.byteCells_length, hd]
  have hV32 : VL.length = 32 := by rw [hV, Lib.byteCells_length, he]
  rw [hV32, List.drop_of_length_le (by rw [binC_length _ _ _ hd]; omega), List.append_nil, hV]
  rfl

set_option maxHeartbeats 8000000 in
set_option maxRecDepth 100000 in
theorem ntake_gen (p : Nat) (I0 I1 I2 I3 I4 : World → Prop) (d : List UInt8) (hdl : d.length = 32) (VL : List Value) (hVL : VL = Lib.byteCells d) (x a n : Nat) (hx : x ≤ 2147483647) (ha : a ≤ 65535) (hn : n ≤ 65536) (b3 : Bool) (TL : List Value) (hTL : TL = tkN x a n d b3)
    (k0 : ∀ w w', I0 w → LowN p w w' → I0 w') (k1 : ∀ w w', I1 w → LowN p w w' → I1 w') (k2 : ∀ w w', I2 w → LowN p w w' → I2 w') (k3 : ∀ w w', I3 w → LowN p w w' → I3 w') (k4 : ∀ w w', I4 w → LowN p w w' → I4 w')
    (hn0 : ∀ w, I0 w → Calls Try.prog 37 #[.pointer (some ⟨p, 0, none⟩), .int .u64 2147483647] w fun e w' => e = .returned (.int .u64 (x : Nat)) ∧ I1 w' ∧ Turn p w w')
    (hn1 : ∀ w, I1 w → Calls Try.prog 37 #[.pointer (some ⟨p, 0, none⟩), .int .u64 65535] w fun e w' => e = .returned (.int .u64 (a : Nat)) ∧ I2 w' ∧ Turn p w w')
    (hn2 : ∀ w, I2 w → Calls Try.prog 37 #[.pointer (some ⟨p, 0, none⟩), .int .u64 65536] w fun e w' => e = .returned (.int .u64 (n : Nat)) ∧ I3 w' ∧ Turn p w w')
    (hdig : ∀ w, I3 w → Calls Try.prog 38 #[.pointer (some ⟨p, 0, none⟩)] w fun e w' => e = .returned (.agg VL.toArray) ∧ I4 w' ∧ Turn p w w')
    (hwr : ∀ w, I4 w → Calls Try.prog 39 #[.pointer (some ⟨p, 0, none⟩)] w fun e w' => e = .returned (.bool b3) ∧ w' = w)
    (w : World) (h : I0 w) (hp : p < w.heap.size) :
    Calls Try.prog 18 #[.pointer (some ⟨p, 0, none⟩)] w fun e w' => e = .returned (.agg TL.toArray) ∧ I4 w' ∧ Turn p w w' := by
  have hVl : VL.length = 32 := by rw [hVL, Lib.byteCells_length]; exact hdl
  obtain ⟨Z32, hZ32⟩ : ∃ z, z = List.replicate 32 (0 : UInt8) := ⟨_, rfl⟩
  have hz32l : Z32.length = 32 := by rw [hZ32]; simp
  obtain ⟨D0, hD0⟩ : ∃ y, y = binC (x : Nat) 0 0 Z32 := ⟨_, rfl⟩
  obtain ⟨D1, hD1⟩ : ∃ y, y = binC (x : Nat) (a : Nat) 0 Z32 := ⟨_, rfl⟩
  obtain ⟨D2, hD2⟩ : ∃ y, y = binC (x : Nat) (a : Nat) (n : Nat) Z32 := ⟨_, rfl⟩
  obtain ⟨D3, hD3⟩ : ∃ y, y = binC (x : Nat) (a : Nat) (n : Nat) d := ⟨_, rfl⟩
  have hs1 : D0.set 1 (.int .i64 (a : Nat)) = D1 := by rw [hD0, hD1]; rfl
  have hs2 : D1.set 2 (.int .i64 (n : Nat)) = D2 := by rw [hD1, hD2]; rfl
  have hs3 : D2.take 3 ++ (VL ++ D2.drop (3 + VL.length)) = D3 := by rw [hD2, hD3]; exact binC_dset hz32l hdl _ _ _ VL hVL
  have h01 : D0[1]? = some (.int .i64 0) := by rw [hD0]; rfl
  have h12 : D1[2]? = some (.int .i64 0) := by rw [hD1]; rfl
  have HB1 := Lib.hid (show Try.prog.built 31 [(0, .int .i64 (x : Nat))] = some D0.toArray by rw [hD0, hZ32]; exact bin_built1 _)
  have hD0l : D0.length = 35 := by rw [hD0]; exact binC_length _ _ _ hz32l
  have hD2l : D2.length = 35 := by rw [hD2]; exact binC_length _ _ _ hz32l
  have hD3l : D3.length = 35 := by rw [hD3]; exact binC_length _ _ _ hdl
  have hTl : TL.length = 35 := by rw [hTL]; unfold tkN; split; exact binC_length _ _ _ (by simp); exact binC_length _ _ _ hdl
  have HD0i := Lib.hid (show (Try.prog.info? 31).map (·.size) = some D0.toArray.size by rw [List.size_toArray, hD0l]; exact binSize)
  have HD0n := Lib.hid (show (Try.prog.info? 31).map (·.size) = some D0.length by rw [hD0l]; exact binSize)
  have HD0s := Lib.hid (show binZ.toArray.size = D0.toArray.size by rw [List.size_toArray, List.size_toArray, hD0l]; rfl)
  have HD01 := Lib.hid (show D0.toArray.all (·.oneCell') = true by rw [hD0]; exact all_oneCell_toArray (binC_cell _ _ _ _))
  have HD3i := Lib.hid (show (Try.prog.info? 31).map (·.size) = some D3.toArray.size by rw [List.size_toArray, hD3l]; exact binSize)
  have HD3n := Lib.hid (show (Try.prog.info? 31).map (·.size) = some D3.length by rw [hD3l]; exact binSize)
  have HD3s := Lib.hid (show binZ.toArray.size = D3.toArray.size by rw [List.size_toArray, List.size_toArray, hD3l]; rfl)
  have HD31 := Lib.hid (show D3.toArray.all (·.oneCell') = true by rw [hD3]; exact all_oneCell_toArray (binC_cell _ _ _ _))
  have HTLi := Lib.hid (show (Try.prog.info? 31).map (·.size) = some TL.toArray.size by rw [List.size_toArray, hTl]; exact binSize)
  have HTLn := Lib.hid (show (Try.prog.info? 31).map (·.size) = some TL.length by rw [hTl]; exact binSize)
  have HTLs := Lib.hid (show binZ.toArray.size = TL.toArray.size by rw [List.size_toArray, List.size_toArray, hTl]; rfl)
  have HTL1 := Lib.hid (show TL.toArray.all (·.oneCell') = true by rw [hTL]; unfold tkN; split; exact all_oneCell_toArray (binC_cell _ _ _ _); exact all_oneCell_toArray (binC_cell _ _ _ _))
  have HVi := Lib.hid (show (Try.prog.info? 29).map (·.size) = some VL.toArray.size by rw [List.size_toArray, hVl]; exact digInfo)
  have HV1 := Lib.hid (show VL.toArray.all (·.oneCell') = true by rw [hVL]; simpa using byteCells_one d)
  have hix : IntKind.i64.wrap ((x : Nat) : Int) = ((x : Nat) : Int) := IntWalk.i64_in _ (by omega)
  have hia : IntKind.i64.wrap ((a : Nat) : Int) = ((a : Nat) : Int) := IntWalk.i64_in _ (by omega)
  have hin : IntKind.i64.wrap ((n : Nat) : Int) = ((n : Nat) : Int) := IntWalk.i64_in _ (by omega)
  have Hz := Lib.hid (show b3 = true → Try.prog.built 31 [] = some TL.toArray from fun e => by rw [hTL, e]; exact bin_built0)
  have He := Lib.hid (show b3 = false → D3 = TL from fun e => by rw [hTL, hD3, e]; rfl)
  obtain ⟨W1, hW1⟩ : ∃ x, x = w.alloc (.cells binZ.toArray 31) := ⟨_, rfl⟩
  have hR1 : Arr W1 w.heap.size 31 binZ := by rw [hW1]; exact Arr.new w _ _
  have hO1 : Only (fun b => b = p) w W1 := by rw [hW1]; exact (Only.refl _ w).alloc _
  have hz1 : w.heap.size < W1.heap.size := hR1.lt
  have hI1 : I0 W1 := k0 w W1 h ⟨by omega, fun k hk => by rw [hW1]; exact Below.heap_alloc w _ k (by omega)⟩
  have HW1 := Lib.hid hW1
  have HS1 := Lib.hid hs1
  have HS2 := Lib.hid hs2
  have HS3 := Lib.hid hs3
  clear hW1 hD0 hD1 hD2 hD3 hVL hTL hs1 hs2 hs3 hZ32 h
  go_enter Try.func18, Try.ntmps18
  go_upto_region 1 with fail
  change Code.wp _ _ _ _ (w.alloc (.cells binZ.toArray 31))
  rw [← HW1.out]
  clear HW1
  go_wp2_with fail
  go_at_call 37
  refine Calls.mono (hn0 W1 hI1) ?_
  rintro e w2 ⟨rfl, hI2, ht2⟩
  have hO2 := hO1.trans (TurnN.only ht2)
  have hR2 : Arr w2 w.heap.size 31 binZ := hR1.only (TurnN.only ht2) (by omega)
  have hz2 := ht2.size
  clear hn0 hO1 hR1 hI1 ht2
  go_wp2_with (first
    | (refine wpList_builtD rfl _ _ rfl [(0, .int .i64 (x : Nat))] rfl D0.toArray HB1.out ?_)
    | (change wpList _ _ _ _ _ (w2.alloc (.cells binZ.toArray 31)); refine wpList_store_row rfl _ _ _ rfl w2.heap.size D0.toArray rfl rfl 31 binZ.toArray (heap_alloc_new w2 _) HD0i.out HD0s.out HD01.out ?_; obtain ⟨w3, hw3⟩ : ∃ x, x = (w2.alloc (.cells binZ.toArray 31)).setRow w2.heap.size D0.toArray := ⟨_, rfl⟩; rw [← hw3]; obtain ⟨hX3, hb3⟩ := alloc_rowD w2 31 binZ.toArray D0; rw [← hw3] at hX3 hb3; clear hw3))
  obtain ⟨g, hg⟩ : ∃ g, g = w2.heap.size := ⟨_, rfl⟩
  rw [← hg] at hX3 ⊢
  have hgp : p < g := by omega
  have hgw : w.heap.size < g := by omega
  have hR3 : Arr w3 w.heap.size 31 binZ := hR2.below hb3 hR2.lt
  have hO3 := hO2.step hb3
  have hI3 : I1 w3 := k1 w2 w3 hI2 ⟨hb3.size, fun k hk => hb3.block k (by omega)⟩
  have hz3 := hb3.size
  have hgz : g < w3.heap.size := hX3.lt
  clear hb3 hO2 hR2 hI2 hg hz3 hz2
  refine Calls.mono (hn1 w3 hI3) ?_
  rintro e w4 ⟨rfl, hI4, ht4⟩
  have hX4 := hX3.only (TurnN.only ht4) (by omega)
  have hR4 := hR3.only (TurnN.only ht4) (by omega)
  have hO4 := hO3.trans (TurnN.only ht4)
  have hz4 := ht4.size
  have hc4 : w4.cell? ⟨g, 1, none⟩ = some (.int .i64 0) := by rw [hX4.cell]; exact h01
  have hf4 := hX4.frozen 1
  clear hX3 hR3 hO3 hI3 ht4 hn1
  go_wp2_with fail
  obtain ⟨w5, hw5⟩ : ∃ x, x = w4.setCell ⟨g, 1, none⟩ (.int .i64 (a : Nat)) := ⟨_, rfl⟩
  have hX5 : Arr w5 g 31 D1 := by rw [hw5, ← HS1.out]; exact hX4.set 1 _
  have hR5 : Arr w5 w.heap.size 31 binZ := by rw [hw5]; exact hR4.setOther (Nat.ne_of_lt hgw) _
  have hO5 : Only (fun b => b = p) w w5 := by rw [hw5]; exact hO4.setCell (p := ⟨g, 1, none⟩) (.inr (Nat.le_of_lt hgw)) _
  have hz5 : w5.heap.size = w4.heap.size := by rw [hw5]; simp [World.setCell]
  have hI5 : I2 w5 := k2 w4 w5 hI4 ⟨by omega, fun k hk => by rw [hw5]; exact Below.heap_setCell w4 _ _ k (show k ≠ g by omega)⟩
  rw [← hw5]
  clear hw5 hX4 hR4 hO4 hI4 hc4 hf4
  go_wp2_with fail
  refine Calls.mono (hn2 w5 hI5) ?_
  rintro e w6 ⟨rfl, hI6, ht6⟩
  have hX6 := hX5.only (TurnN.only ht6) (by omega)
  have hR6 := hR5.only (TurnN.only ht6) (by omega)
  have hO6 := hO5.trans (TurnN.only ht6)
  have hz6 := ht6.size
  have hc6 : w6.cell? ⟨g, 2, none⟩ = some (.int .i64 0) := by rw [hX6.cell]; exact h12
  have hf6 := hX6.frozen 2
  clear hX5 hR5 hO5 hI5 ht6 hn2
  go_wp2_with fail
  obtain ⟨w7, hw7⟩ : ∃ x, x = w6.setCell ⟨g, 2, none⟩ (.int .i64 (n : Nat)) := ⟨_, rfl⟩
  have hX7 : Arr w7 g 31 D2 := by rw [hw7, ← HS2.out]; exact hX6.set 2 _
  have hR7 : Arr w7 w.heap.size 31 binZ := by rw [hw7]; exact hR6.setOther (Nat.ne_of_lt hgw) _
  have hO7 : Only (fun b => b = p) w w7 := by rw [hw7]; exact hO6.setCell (p := ⟨g, 2, none⟩) (.inr (Nat.le_of_lt hgw)) _
  have hz7 : w7.heap.size = w6.heap.size := by rw [hw7]; simp [World.setCell]
  have hI7 : I3 w7 := k3 w6 w7 hI6 ⟨by omega, fun k hk => by rw [hw7]; exact Below.heap_setCell w6 _ _ k (show k ≠ g by omega)⟩
  rw [← hw7]
  clear hw7 hX6 hR6 hO6 hI6 hc6 hf6
  go_wp2_with fail
  refine Calls.mono (hdig w7 hI7) ?_
  rintro e w8 ⟨rfl, hI8, ht8⟩
  have hX8 := hX7.only (TurnN.only ht8) (by omega)
  have hR8 := hR7.only (TurnN.only ht8) (by omega)
  have hO8 := hO7.trans (TurnN.only ht8)
  have hz8 := ht8.size
  have hoff : 3 + VL.toArray.size ≤ D2.length := by rw [List.size_toArray, hVl, hD2l]; omega
  have hth := Lib.hid (there_of_arr hX8 hoff)
  obtain ⟨w9, hw9⟩ : ∃ x, x = w8.setCells g 3 VL := ⟨_, rfl⟩
  have hX9 : Arr w9 g 31 D3 := by rw [hw9, ← HS3.out]; exact Arr.setIn VL 3 _ w8 hX8 (by rw [List.size_toArray] at hoff; exact hoff)
  have hOg : Only (fun b => b = g) w8 w9 := by rw [hw9]; exact Only.setIn (R := fun b => b = g) rfl VL 3 w8 (Only.refl _ _)
  have hR9 : Arr w9 w.heap.size 31 binZ := hR8.only hOg (by omega)
  have hO9 : Only (fun b => b = p) w w9 := hO8.then hOg (fun i hi => .inr (by omega))
  have hz9 : w9.heap.size = w8.heap.size := by rw [hw9]; exact setCells_size _ _ _ _
  have hI9 : I4 w9 := k4 w8 w9 hI8 ⟨by omega, fun k hk => hOg.block k (by omega) (by omega)⟩
  have Hw9 := Lib.hid hw9
  clear hw9 hX7 hR7 hO7 hI7 ht8 hdig hX8 hR8 hO8 hOg hoff
  go_wp2_with (first | (refine wpList_store_mid rfl 29 _ _ rfl g 3 VL.toArray rfl rfl hth.out HVi.out HV1.out ?_; rw [show VL.toArray.toList = VL from rfl, ← Hw9.out]))
  have hR9h : Hid (w9.heap[w.heap.size]? = some (.cells binZ.toArray 31 (0, 0))) := hR9
  have hset := hR9.setRow TL
  have hOz : Only (fun b => b = p) w (w9.setRow w.heap.size TL.toArray) := hO9.setRow (.inr (Nat.le_refl _)) _
  have hIz : I4 (w9.setRow w.heap.size TL.toArray) := k4 w9 _ hI9 ⟨by simp, fun k hk => setRow_other w9 _ k _ (by omega)⟩
  cases b3
  · refine Calls.mono (hwr w9 hI9) ?_
    rintro e w10 ⟨rfl, rfl⟩
    have e := He.out (by first | rfl | trivial)
    subst e
    go_wp2_with (first
      | (refine wpList_load_row rfl _ _ rfl g rfl 31 D3.toArray (0, 0) _ hX9 Try.underlying31 rfl HD3i.out ?_)
      | (refine wpList_store_row rfl _ _ _ rfl w.heap.size D3.toArray rfl rfl 31 binZ.toArray hR9h.out HTLi.out HTLs.out HTL1.out ?_))
    exact bodyPost_ret (v := .agg D3.toArray) (results_cell_row (by rfl) _ _ w.heap.size 31 D3.toArray (0, 0) _ (by rfl) hset Try.underlying31 rfl HTLi.out) rfl ⟨rfl, hIz, Only.turnN hOz⟩
  · have Hz2 := Lib.hid (Hz.out (by first | rfl | trivial))
    refine Calls.mono (hwr w9 hI9) ?_
    rintro e w10 ⟨rfl, rfl⟩
    go_wp2_with (first
      | (refine wpList_builtD rfl _ _ rfl [] rfl TL.toArray Hz2.out ?_)
      | (refine wpList_store_row rfl _ _ _ rfl w.heap.size TL.toArray rfl rfl 31 binZ.toArray hR9h.out HTLi.out HTLs.out HTL1.out ?_))
    exact bodyPost_ret (v := .agg TL.toArray) (results_cell_row (by rfl) _ _ w.heap.size 31 TL.toArray (0, 0) _ (by rfl) hset Try.underlying31 rfl HTLi.out) rfl ⟨rfl, hIz, Only.turnN hOz⟩

set_option maxHeartbeats 8000000 in
set_option maxRecDepth 100000 in
theorem rntake_gen (p : Nat) (I0 I1 I2 I3 I4 : World → Prop) (d : List UInt8) (hdl : d.length = 32) (VL : List Value) (hVL : VL = Lib.byteCells d) (x a n : Nat) (hx : x ≤ 2147483647) (ha : a ≤ 65535) (hn : n ≤ 65536) (b3 : Bool) (TL : List Value) (hTL : TL = tkN x a n d b3)
    (k0 : ∀ w w', I0 w → LowN p w w' → I0 w') (k1 : ∀ w w', I1 w → LowN p w w' → I1 w') (k2 : ∀ w w', I2 w → LowN p w w' → I2 w') (k3 : ∀ w w', I3 w → LowN p w w' → I3 w') (k4 : ∀ w w', I4 w → LowN p w w' → I4 w')
    (hn0 : ∀ w, I0 w → Calls Try.prog 40 #[.pointer (some ⟨p, 0, none⟩), .int .u64 2147483647] w fun e w' => e = .returned (.int .u64 (x : Nat)) ∧ I1 w' ∧ Turn p w w')
    (hn1 : ∀ w, I1 w → Calls Try.prog 40 #[.pointer (some ⟨p, 0, none⟩), .int .u64 65535] w fun e w' => e = .returned (.int .u64 (a : Nat)) ∧ I2 w' ∧ Turn p w w')
    (hn2 : ∀ w, I2 w → Calls Try.prog 40 #[.pointer (some ⟨p, 0, none⟩), .int .u64 65536] w fun e w' => e = .returned (.int .u64 (n : Nat)) ∧ I3 w' ∧ Turn p w w')
    (hdig : ∀ w, I3 w → Calls Try.prog 41 #[.pointer (some ⟨p, 0, none⟩)] w fun e w' => e = .returned (.agg VL.toArray) ∧ I4 w' ∧ Turn p w w')
    (hwr : ∀ w, I4 w → w.cell? ⟨p, 2, none⟩ = some (.bool b3))
    (w : World) (h : I0 w) (hp : p < w.heap.size) :
    Calls Try.prog 19 #[.pointer (some ⟨p, 0, none⟩)] w fun e w' => e = .returned (.agg TL.toArray) ∧ I4 w' ∧ Turn p w w' := by
  have hVl : VL.length = 32 := by rw [hVL, Lib.byteCells_length]; exact hdl
  obtain ⟨Z32, hZ32⟩ : ∃ z, z = List.replicate 32 (0 : UInt8) := ⟨_, rfl⟩
  have hz32l : Z32.length = 32 := by rw [hZ32]; simp
  obtain ⟨D0, hD0⟩ : ∃ y, y = binC (x : Nat) 0 0 Z32 := ⟨_, rfl⟩
  obtain ⟨D1, hD1⟩ : ∃ y, y = binC (x : Nat) (a : Nat) 0 Z32 := ⟨_, rfl⟩
  obtain ⟨D2, hD2⟩ : ∃ y, y = binC (x : Nat) (a : Nat) (n : Nat) Z32 := ⟨_, rfl⟩
  obtain ⟨D3, hD3⟩ : ∃ y, y = binC (x : Nat) (a : Nat) (n : Nat) d := ⟨_, rfl⟩
  have hs1 : D0.set 1 (.int .i64 (a : Nat)) = D1 := by rw [hD0, hD1]; rfl
  have hs2 : D1.set 2 (.int .i64 (n : Nat)) = D2 := by rw [hD1, hD2]; rfl
  have hs3 : D2.take 3 ++ (VL ++ D2.drop (3 + VL.length)) = D3 := by rw [hD2, hD3]; exact binC_dset hz32l hdl _ _ _ VL hVL
  have h01 : D0[1]? = some (.int .i64 0) := by rw [hD0]; rfl
  have h12 : D1[2]? = some (.int .i64 0) := by rw [hD1]; rfl
  have HB1 := Lib.hid (show Try.prog.built 31 [(0, .int .i64 (x : Nat))] = some D0.toArray by rw [hD0, hZ32]; exact bin_built1 _)
  have hD0l : D0.length = 35 := by rw [hD0]; exact binC_length _ _ _ hz32l
  have hD2l : D2.length = 35 := by rw [hD2]; exact binC_length _ _ _ hz32l
  have hD3l : D3.length = 35 := by rw [hD3]; exact binC_length _ _ _ hdl
  have hTl : TL.length = 35 := by rw [hTL]; unfold tkN; split; exact binC_length _ _ _ (by simp); exact binC_length _ _ _ hdl
  have HD0i := Lib.hid (show (Try.prog.info? 31).map (·.size) = some D0.toArray.size by rw [List.size_toArray, hD0l]; exact binSize)
  have HD0n := Lib.hid (show (Try.prog.info? 31).map (·.size) = some D0.length by rw [hD0l]; exact binSize)
  have HD0s := Lib.hid (show binZ.toArray.size = D0.toArray.size by rw [List.size_toArray, List.size_toArray, hD0l]; rfl)
  have HD01 := Lib.hid (show D0.toArray.all (·.oneCell') = true by rw [hD0]; exact all_oneCell_toArray (binC_cell _ _ _ _))
  have HD3i := Lib.hid (show (Try.prog.info? 31).map (·.size) = some D3.toArray.size by rw [List.size_toArray, hD3l]; exact binSize)
  have HD3n := Lib.hid (show (Try.prog.info? 31).map (·.size) = some D3.length by rw [hD3l]; exact binSize)
  have HD3s := Lib.hid (show binZ.toArray.size = D3.toArray.size by rw [List.size_toArray, List.size_toArray, hD3l]; rfl)
  have HD31 := Lib.hid (show D3.toArray.all (·.oneCell') = true by rw [hD3]; exact all_oneCell_toArray (binC_cell _ _ _ _))
  have HTLi := Lib.hid (show (Try.prog.info? 31).map (·.size) = some TL.toArray.size by rw [List.size_toArray, hTl]; exact binSize)
  have HTLn := Lib.hid (show (Try.prog.info? 31).map (·.size) = some TL.length by rw [hTl]; exact binSize)
  have HTLs := Lib.hid (show binZ.toArray.size = TL.toArray.size by rw [List.size_toArray, List.size_toArray, hTl]; rfl)
  have HTL1 := Lib.hid (show TL.toArray.all (·.oneCell') = true by rw [hTL]; unfold tkN; split; exact all_oneCell_toArray (binC_cell _ _ _ _); exact all_oneCell_toArray (binC_cell _ _ _ _))
  have HVi := Lib.hid (show (Try.prog.info? 29).map (·.size) = some VL.toArray.size by rw [List.size_toArray, hVl]; exact digInfo)
  have HV1 := Lib.hid (show VL.toArray.all (·.oneCell') = true by rw [hVL]; simpa using byteCells_one d)
  have hix : IntKind.i64.wrap ((x : Nat) : Int) = ((x : Nat) : Int) := IntWalk.i64_in _ (by omega)
  have hia : IntKind.i64.wrap ((a : Nat) : Int) = ((a : Nat) : Int) := IntWalk.i64_in _ (by omega)
  have hin : IntKind.i64.wrap ((n : Nat) : Int) = ((n : Nat) : Int) := IntWalk.i64_in _ (by omega)
  have Hz := Lib.hid (show b3 = true → Try.prog.built 31 [] = some TL.toArray from fun e => by rw [hTL, e]; exact bin_built0)
  have He := Lib.hid (show b3 = false → D3 = TL from fun e => by rw [hTL, hD3, e]; rfl)
  obtain ⟨W1, hW1⟩ : ∃ x, x = w.alloc (.cells binZ.toArray 31) := ⟨_, rfl⟩
  have hR1 : Arr W1 w.heap.size 31 binZ := by rw [hW1]; exact Arr.new w _ _
  have hO1 : Only (fun b => b = p) w W1 := by rw [hW1]; exact (Only.refl _ w).alloc _
  have hz1 : w.heap.size < W1.heap.size := hR1.lt
  have hI1 : I0 W1 := k0 w W1 h ⟨by omega, fun k hk => by rw [hW1]; exact Below.heap_alloc w _ k (by omega)⟩
  have HW1 := Lib.hid hW1
  have HS1 := Lib.hid hs1
  have HS2 := Lib.hid hs2
  have HS3 := Lib.hid hs3
  clear hW1 hD0 hD1 hD2 hD3 hVL hTL hs1 hs2 hs3 hZ32 h
  go_enter Try.func19, Try.ntmps19
  go_upto_region 1 with fail
  change Code.wp _ _ _ _ (w.alloc (.cells binZ.toArray 31))
  rw [← HW1.out]
  clear HW1
  go_wp2_with fail
  go_at_call 40
  refine Calls.mono (hn0 W1 hI1) ?_
  rintro e w2 ⟨rfl, hI2, ht2⟩
  have hO2 := hO1.trans (TurnN.only ht2)
  have hR2 : Arr w2 w.heap.size 31 binZ := hR1.only (TurnN.only ht2) (by omega)
  have hz2 := ht2.size
  clear hn0 hO1 hR1 hI1 ht2
  go_wp2_with (first
    | (refine wpList_builtD rfl _ _ rfl [(0, .int .i64 (x : Nat))] rfl D0.toArray HB1.out ?_)
    | (change wpList _ _ _ _ _ (w2.alloc (.cells binZ.toArray 31)); refine wpList_store_row rfl _ _ _ rfl w2.heap.size D0.toArray rfl rfl 31 binZ.toArray (heap_alloc_new w2 _) HD0i.out HD0s.out HD01.out ?_; obtain ⟨w3, hw3⟩ : ∃ x, x = (w2.alloc (.cells binZ.toArray 31)).setRow w2.heap.size D0.toArray := ⟨_, rfl⟩; rw [← hw3]; obtain ⟨hX3, hb3⟩ := alloc_rowD w2 31 binZ.toArray D0; rw [← hw3] at hX3 hb3; clear hw3))
  obtain ⟨g, hg⟩ : ∃ g, g = w2.heap.size := ⟨_, rfl⟩
  rw [← hg] at hX3 ⊢
  have hgp : p < g := by omega
  have hgw : w.heap.size < g := by omega
  have hR3 : Arr w3 w.heap.size 31 binZ := hR2.below hb3 hR2.lt
  have hO3 := hO2.step hb3
  have hI3 : I1 w3 := k1 w2 w3 hI2 ⟨hb3.size, fun k hk => hb3.block k (by omega)⟩
  have hz3 := hb3.size
  have hgz : g < w3.heap.size := hX3.lt
  clear hb3 hO2 hR2 hI2 hg hz3 hz2
  refine Calls.mono (hn1 w3 hI3) ?_
  rintro e w4 ⟨rfl, hI4, ht4⟩
  have hX4 := hX3.only (TurnN.only ht4) (by omega)
  have hR4 := hR3.only (TurnN.only ht4) (by omega)
  have hO4 := hO3.trans (TurnN.only ht4)
  have hz4 := ht4.size
  have hc4 : w4.cell? ⟨g, 1, none⟩ = some (.int .i64 0) := by rw [hX4.cell]; exact h01
  have hf4 := hX4.frozen 1
  clear hX3 hR3 hO3 hI3 ht4 hn1
  go_wp2_with fail
  obtain ⟨w5, hw5⟩ : ∃ x, x = w4.setCell ⟨g, 1, none⟩ (.int .i64 (a : Nat)) := ⟨_, rfl⟩
  have hX5 : Arr w5 g 31 D1 := by rw [hw5, ← HS1.out]; exact hX4.set 1 _
  have hR5 : Arr w5 w.heap.size 31 binZ := by rw [hw5]; exact hR4.setOther (Nat.ne_of_lt hgw) _
  have hO5 : Only (fun b => b = p) w w5 := by rw [hw5]; exact hO4.setCell (p := ⟨g, 1, none⟩) (.inr (Nat.le_of_lt hgw)) _
  have hz5 : w5.heap.size = w4.heap.size := by rw [hw5]; simp [World.setCell]
  have hI5 : I2 w5 := k2 w4 w5 hI4 ⟨by omega, fun k hk => by rw [hw5]; exact Below.heap_setCell w4 _ _ k (show k ≠ g by omega)⟩
  rw [← hw5]
  clear hw5 hX4 hR4 hO4 hI4 hc4 hf4
  go_wp2_with fail
  refine Calls.mono (hn2 w5 hI5) ?_
  rintro e w6 ⟨rfl, hI6, ht6⟩
  have hX6 := hX5.only (TurnN.only ht6) (by omega)
  have hR6 := hR5.only (TurnN.only ht6) (by omega)
  have hO6 := hO5.trans (TurnN.only ht6)
  have hz6 := ht6.size
  have hc6 : w6.cell? ⟨g, 2, none⟩ = some (.int .i64 0) := by rw [hX6.cell]; exact h12
  have hf6 := hX6.frozen 2
  clear hX5 hR5 hO5 hI5 ht6 hn2
  go_wp2_with fail
  obtain ⟨w7, hw7⟩ : ∃ x, x = w6.setCell ⟨g, 2, none⟩ (.int .i64 (n : Nat)) := ⟨_, rfl⟩
  have hX7 : Arr w7 g 31 D2 := by rw [hw7, ← HS2.out]; exact hX6.set 2 _
  have hR7 : Arr w7 w.heap.size 31 binZ := by rw [hw7]; exact hR6.setOther (Nat.ne_of_lt hgw) _
  have hO7 : Only (fun b => b = p) w w7 := by rw [hw7]; exact hO6.setCell (p := ⟨g, 2, none⟩) (.inr (Nat.le_of_lt hgw)) _
  have hz7 : w7.heap.size = w6.heap.size := by rw [hw7]; simp [World.setCell]
  have hI7 : I3 w7 := k3 w6 w7 hI6 ⟨by omega, fun k hk => by rw [hw7]; exact Below.heap_setCell w6 _ _ k (show k ≠ g by omega)⟩
  rw [← hw7]
  clear hw7 hX6 hR6 hO6 hI6 hc6 hf6
  go_wp2_with fail
  refine Calls.mono (hdig w7 hI7) ?_
  rintro e w8 ⟨rfl, hI8, ht8⟩
  have hX8 := hX7.only (TurnN.only ht8) (by omega)
  have hR8 := hR7.only (TurnN.only ht8) (by omega)
  have hO8 := hO7.trans (TurnN.only ht8)
  have hz8 := ht8.size
  have hoff : 3 + VL.toArray.size ≤ D2.length := by rw [List.size_toArray, hVl, hD2l]; omega
  have hth := Lib.hid (there_of_arr hX8 hoff)
  obtain ⟨w9, hw9⟩ : ∃ x, x = w8.setCells g 3 VL := ⟨_, rfl⟩
  have hX9 : Arr w9 g 31 D3 := by rw [hw9, ← HS3.out]; exact Arr.setIn VL 3 _ w8 hX8 (by rw [List.size_toArray] at hoff; exact hoff)
  have hOg : Only (fun b => b = g) w8 w9 := by rw [hw9]; exact Only.setIn (R := fun b => b = g) rfl VL 3 w8 (Only.refl _ _)
  have hR9 : Arr w9 w.heap.size 31 binZ := hR8.only hOg (by omega)
  have hO9 : Only (fun b => b = p) w w9 := hO8.then hOg (fun i hi => .inr (by omega))
  have hz9 : w9.heap.size = w8.heap.size := by rw [hw9]; exact setCells_size _ _ _ _
  have hI9 : I4 w9 := k4 w8 w9 hI8 ⟨by omega, fun k hk => hOg.block k (by omega) (by omega)⟩
  have Hw9 := Lib.hid hw9
  clear hw9 hX7 hR7 hO7 hI7 ht8 hdig hX8 hR8 hO8 hOg hoff
  have hwc := hwr w9 hI9
  go_upto_region 5 with (first | (refine wpList_store_mid rfl 29 _ _ rfl g 3 VL.toArray rfl rfl hth.out HVi.out HV1.out ?_; rw [show VL.toArray.toList = VL from rfl, ← Hw9.out]))
  have hR9h : Hid (w9.heap[w.heap.size]? = some (.cells binZ.toArray 31 (0, 0))) := hR9
  have hset := hR9.setRow TL
  have hOz : Only (fun b => b = p) w (w9.setRow w.heap.size TL.toArray) := hO9.setRow (.inr (Nat.le_refl _)) _
  have hIz : I4 (w9.setRow w.heap.size TL.toArray) := k4 w9 _ hI9 ⟨by simp, fun k hk => setRow_other w9 _ k _ (by omega)⟩
  cases b3
  · skip
    have e := He.out (by first | rfl | trivial)
    subst e
    go_wp2_with (first
      | (refine wpList_load_row rfl _ _ rfl g rfl 31 D3.toArray (0, 0) _ hX9 Try.underlying31 rfl HD3i.out ?_)
      | (refine wpList_store_row rfl _ _ _ rfl w.heap.size D3.toArray rfl rfl 31 binZ.toArray hR9h.out HTLi.out HTLs.out HTL1.out ?_))
    exact bodyPost_ret (v := .agg D3.toArray) (results_cell_row (by rfl) _ _ w.heap.size 31 D3.toArray (0, 0) _ (by rfl) hset Try.underlying31 rfl HTLi.out) rfl ⟨rfl, hIz, Only.turnN hOz⟩
  · have Hz2 := Lib.hid (Hz.out (by first | rfl | trivial))
    skip
    go_wp2_with (first
      | (refine wpList_builtD rfl _ _ rfl [] rfl TL.toArray Hz2.out ?_)
      | (refine wpList_store_row rfl _ _ _ rfl w.heap.size TL.toArray rfl rfl 31 binZ.toArray hR9h.out HTLi.out HTLs.out HTL1.out ?_))
    exact bodyPost_ret (v := .agg TL.toArray) (results_cell_row (by rfl) _ _ w.heap.size 31 TL.toArray (0, 0) _ (by rfl) hset Try.underlying31 rfl HTLi.out) rfl ⟨rfl, hIz, Only.turnN hOz⟩

end Go.Proofs.Ytccccpadnaocfaa

namespace Go.Proofs.Ytccccpadnaocfaa
open Go.RowKit
set_option linter.unusedVariables false
set_option linter.unusedSimpArgs false

theorem numF_leN (most : Nat) (l : List UInt8) : (numF most l).1 ≤ most := by
  unfold numF
  split
  · exact Nat.zero_le _
  · rename_i h; exact Nat.le_of_not_lt (fun e => h (.inr e))
theorem ntake_at (L l1 l2 l3 l4 : List UInt8) (b1 b2 b3 b4 : Bool) (d : List UInt8) (x a n : Nat) (hx : (numF 2147483647 L).1 = x) (h1 : (numF 2147483647 L).2.1 = l1) (hb1 : (numF 2147483647 L).2.2 = b1)
    (ha : (numF 65535 l1).1 = a) (h2 : (numF 65535 l1).2.1 = l2) (hb2 : (b1 || (numF 65535 l1).2.2) = b2) (hn : (numF 65536 l2).1 = n) (h3 : (numF 65536 l2).2.1 = l3) (hb3 : (b2 || (numF 65536 l2).2.2) = b3)
    (hd : digF l3 = d) (h4 : (cutF 32 l3).2.1 = l4) (hb4 : (b3 || (cutF 32 l3).2.2) = b4)
    (TL : List Value) (hTL : TL = tkN x a n d b4) (p : Nat) (w : World) (h : PIn w p L false) :
    Calls Try.prog 18 #[.pointer (some ⟨p, 0, none⟩)] w fun e w' => e = .returned (.agg TL.toArray) ∧ PIn w' p l4 b4 ∧ Turn p w w' := by
  refine ntake_gen p (fun w => PIn w p L false) (fun w => PIn w p l1 b1) (fun w => PIn w p l2 b2) (fun w => PIn w p l3 b3) (fun w => PIn w p l4 b4) d (by rw [← hd]; exact digF_length l3) (Lib.byteCells d) rfl x a n (by rw [← hx]; exact numF_leN _ _) (by rw [← ha]; exact numF_leN _ _) (by rw [← hn]; exact numF_leN _ _) b4 TL hTL
    (fun _ _ h k => h.lowN k) (fun _ _ h k => h.lowN k) (fun _ _ h k => h.lowN k) (fun _ _ h k => h.lowN k) (fun _ _ h k => h.lowN k) (fun w h => ?_) (fun w h => ?_) (fun w h => ?_) (fun w h => ?_) (fun w h => ?_) w h h.lt
  · refine (show Calls Try.prog 37 #[.pointer (some ⟨p, 0, none⟩), .int .u64 2147483647] w _ from number_in p 2147483647 L false w h (by omega)).mono ?_
    rintro e w' ⟨he, hp, ht⟩
    rw [h1, hb1, Bool.false_or] at hp
    exact ⟨by rw [he, hx], hp, ht⟩
  · refine (show Calls Try.prog 37 #[.pointer (some ⟨p, 0, none⟩), .int .u64 65535] w _ from number_in p 65535 l1 b1 w h (by omega)).mono ?_
    rintro e w' ⟨he, hp, ht⟩
    rw [h2, hb2] at hp
    exact ⟨by rw [he, ha], hp, ht⟩
  · refine (show Calls Try.prog 37 #[.pointer (some ⟨p, 0, none⟩), .int .u64 65536] w _ from number_in p 65536 l2 b2 w h (by omega)).mono ?_
    rintro e w' ⟨he, hp, ht⟩
    rw [h3, hb3] at hp
    exact ⟨by rw [he, hn], hp, ht⟩
  · refine (digest_in p l3 b3 w h).mono ?_
    rintro e w' ⟨he, hp, ht⟩
    rw [h4, hb4] at hp
    exact ⟨by rw [he, hd]; rfl, hp, ht⟩
  · refine (wrong_in p l4 b4 w h).mono ?_
    rintro e w' ⟨he, hw⟩
    exact ⟨he, hw.symm⟩

theorem rntake_at (L : List UInt8) (A : Option Addr) (c o1 o2 o3 o4 : Nat) (b1 b2 b3 b4 : Bool) (d : List UInt8) (x a n : Nat) (hx : (rnF 2147483647 L 0 false).1 = x) (h1 : (rnF 2147483647 L 0 false).2.1 = o1) (hb1 : (rnF 2147483647 L 0 false).2.2 = b1)
    (ha : (rnF 65535 L o1 b1).1 = a) (h2 : (rnF 65535 L o1 b1).2.1 = o2) (hb2 : (rnF 65535 L o1 b1).2.2 = b2) (hn : (rnF 65536 L o2 b2).1 = n) (h3 : (rnF 65536 L o2 b2).2.1 = o3) (hb3 : (rnF 65536 L o2 b2).2.2 = b3)
    (hd : rdF L o3 b3 = d) (hdl : d.length = 32) (h4 : (takeF 32 L o3 b3).2.1 = o4) (hb4 : (takeF 32 L o3 b3).2.2 = b4) (k1 : o1 ≤ L.length) (k2 : o2 ≤ L.length) (k3 : o3 ≤ L.length)
    (hxl : x ≤ 2147483647) (hal : a ≤ 65535) (hnl : n ≤ 65536) (TL : List Value) (hTL : TL = tkN x a n d b4) (p : Nat) (w : World) (h : RIn w p L A c 0 false) (hf : RFix w p L A c) :
    Calls Try.prog 19 #[.pointer (some ⟨p, 0, none⟩)] w fun e w' => e = .returned (.agg TL.toArray) ∧ (RIn w' p L A c o4 b4 ∧ RFix w' p L A c) ∧ Turn p w w' := by
  refine rntake_gen p (fun w => RIn w p L A c 0 false ∧ RFix w p L A c) (fun w => RIn w p L A c o1 b1 ∧ RFix w p L A c) (fun w => RIn w p L A c o2 b2 ∧ RFix w p L A c) (fun w => RIn w p L A c o3 b3 ∧ RFix w p L A c) (fun w => RIn w p L A c o4 b4 ∧ RFix w p L A c) d hdl (Lib.byteCells d) rfl x a n hxl hal hnl b4 TL hTL
    (fun _ _ h k => ⟨h.1.lowN k, h.2.lowN k⟩) (fun _ _ h k => ⟨h.1.lowN k, h.2.lowN k⟩) (fun _ _ h k => ⟨h.1.lowN k, h.2.lowN k⟩) (fun _ _ h k => ⟨h.1.lowN k, h.2.lowN k⟩) (fun _ _ h k => ⟨h.1.lowN k, h.2.lowN k⟩) (fun w h => ?_) (fun w h => ?_) (fun w h => ?_) (fun w h => ?_) (fun w h => ?_) w ⟨h, hf⟩ h.lt
  · refine (show Calls Try.prog 40 #[.pointer (some ⟨p, 0, none⟩), .int .u64 2147483647] w _ from rnumber_in p 2147483647 L A c 0 false w h.1 h.2 (Nat.zero_le _) (by omega)).mono ?_
    rintro e w' ⟨he, hp, ht⟩
    rw [h1, hb1] at hp
    exact ⟨by rw [he, hx], ⟨hp, h.2.turn ht h.1.lt⟩, ht⟩
  · refine (show Calls Try.prog 40 #[.pointer (some ⟨p, 0, none⟩), .int .u64 65535] w _ from rnumber_in p 65535 L A c o1 b1 w h.1 h.2 k1 (by omega)).mono ?_
    rintro e w' ⟨he, hp, ht⟩
    rw [h2, hb2] at hp
    exact ⟨by rw [he, ha], ⟨hp, h.2.turn ht h.1.lt⟩, ht⟩
  · refine (show Calls Try.prog 40 #[.pointer (some ⟨p, 0, none⟩), .int .u64 65536] w _ from rnumber_in p 65536 L A c o2 b2 w h.1 h.2 k2 (by omega)).mono ?_
    rintro e w' ⟨he, hp, ht⟩
    rw [h3, hb3] at hp
    exact ⟨by rw [he, hn], ⟨hp, h.2.turn ht h.1.lt⟩, ht⟩
  · refine (rdigest_in p L A c o3 b3 w h.1 h.2 k3).mono ?_
    rintro e w' ⟨he, hp, ht⟩
    rw [h4, hb4] at hp
    exact ⟨by rw [he, hd]; rfl, ⟨hp, h.2.turn ht h.1.lt⟩, ht⟩
  · exact h.1.cells.2.2.1

theorem ntakes_both (L : List UInt8) : ∃ (d : List UInt8) (x a n : Nat) (b4 : Bool) (l4 : List UInt8) (o4 : Nat), d.length = 32 ∧ Rel l4 L o4 b4 ∧
    (∀ (TL : List Value) (p : Nat) (w : World), TL = tkN x a n d b4 → PIn w p L false → Calls Try.prog 18 #[.pointer (some ⟨p, 0, none⟩)] w fun e w' => e = .returned (.agg TL.toArray) ∧ PIn w' p l4 b4 ∧ Turn p w w') ∧
    (∀ (TL : List Value) (q : Nat) (A : Option Addr) (c : Nat) (w : World), TL = tkN x a n d b4 → RIn w q L A c 0 false → RFix w q L A c → Calls Try.prog 19 #[.pointer (some ⟨q, 0, none⟩)] w fun e w' => e = .returned (.agg TL.toArray) ∧ (RIn w' q L A c o4 b4 ∧ RFix w' q L A c) ∧ Turn q w w') := by
  have r0 : Rel L L 0 false := ⟨fun _ => rfl, (fun h => by cases h), Nat.zero_le _⟩
  obtain ⟨a1, e1, r1⟩ := rel_num r0 2147483647
  rw [Bool.false_or] at e1
  obtain ⟨a2, e2, r2⟩ := rel_num r1 65535
  obtain ⟨a3, e3, r3⟩ := rel_num r2 65536
  obtain ⟨_, e4, r4⟩ := rel_cut r3 32 (fun _ => by omega)
  have ed := rel_dig r3
  refine ⟨digF (numF 65536 (numF 65535 (numF 2147483647 L).2.1).2.1).2.1, (numF 2147483647 L).1, (numF 65535 (numF 2147483647 L).2.1).1, (numF 65536 (numF 65535 (numF 2147483647 L).2.1).2.1).1, _, _, _, digF_length _, r4, fun TL p w hT h => ?_, fun TL q A c w hT h hf => ?_⟩
  · exact ntake_at L _ _ _ _ _ _ _ _ _ _ _ _ rfl rfl rfl rfl rfl rfl rfl rfl rfl rfl rfl (by rw [e1, e2, e3]; exact e4) TL hT p w h
  · exact rntake_at L A c _ _ _ _ _ _ _ _ _ _ _ _ a1.symm rfl rfl a2.symm rfl rfl a3.symm rfl rfl ed.symm (digF_length _) rfl rfl r1.2.2 r2.2.2 r3.2.2 (numF_leN _ _) (numF_leN _ _) (numF_leN _ _) TL hT q w h hf

theorem numF_backN (most v : Nat) (r : List UInt8) (h : v ≤ most) (hv : v < 18446744073709551616) : numF most (Lib.uvarint v ++ r) = (v, r, false) := by
  unfold numF
  rw [lead_uv v r hv]
  have := Lib.uvarint_pos v
  rw [if_neg (by simp only; omega)]
  simp

theorem ntake_back (d : List UInt8) (hd : d.length = 32) (x a n : Nat) (hx : x ≤ 2147483647) (ha : a ≤ 65535) (hn : n ≤ 65536) (TL : List Value) (hTL : TL = binC (x : Nat) (a : Nat) (n : Nat) d) (p : Nat) (w : World) (h : PIn w p (binB x a n d) false) :
    Calls Try.prog 18 #[.pointer (some ⟨p, 0, none⟩)] w fun e w' => e = .returned (.agg TL.toArray) ∧ PIn w' p [] false ∧ Turn p w w' := by
  have hB : binB x a n d = Lib.uvarint x ++ (Lib.uvarint a ++ (Lib.uvarint n ++ d)) := by
    unfold binB
    rw [uN_nat (by omega), uN_nat (by omega), uN_nat (by omega)]
    simp
  have e1 := numF_backN 2147483647 x (Lib.uvarint a ++ (Lib.uvarint n ++ d)) hx (by omega)
  have e2 := numF_backN 65535 a (Lib.uvarint n ++ d) ha (by omega)
  have e3 := numF_backN 65536 n d hn (by omega)
  have hl : ¬ (d.length < 32) := by omega
  have hc : cutF 32 d = (d, [], false) := by
    unfold cutF; rw [if_neg hl, List.take_of_length_le (by omega), List.drop_of_length_le (by omega)]
  refine ntake_at (binB x a n d) (Lib.uvarint a ++ (Lib.uvarint n ++ d)) (Lib.uvarint n ++ d) d [] false false false false d x a n (by rw [hB, e1]) (by rw [hB, e1]) (by rw [hB, e1]) (by rw [e2]) (by rw [e2]) (by rw [e2]; rfl) (by rw [e3]) (by rw [e3]) (by rw [e3]; rfl) ?_ (by rw [hc]) (by rw [hc]; rfl) TL (by rw [hTL]; rfl) p w h
  unfold digF
  rw [if_neg hl, List.take_of_length_le (by omega)]


end Go.Proofs.Ytccccpadnaocfaa

namespace Go.Proofs.Ytccccpadnaocfaa
open Go.RowKit Go.ChangeShapes Go.WideShapes
set_option linter.unusedVariables false
set_option maxRecDepth 100000

/-- Sectors in memory, one behind the other. -/
def BsAt (w : World) (A : Option Addr) (ds : List (List UInt8)) : Prop :=
  0 < ds.length → ∃ b off, A = some ⟨b, off, none⟩ ∧ b < w.heap.size ∧ ∀ i, i < ds.length → (ds.getD i []).length = 48 ∧ w.rangeAt b (off + i * 48) (Lib.byteCells (ds.getD i []))

theorem blk_cellsN {H : Type} {enc : TypeId × Value → H} {W : World} {base : Nat} {sp : Nat → Bool} {held : Bool} {m : Nat} {cs : List Value} {x : DataW H × List MemPlace} (hl : cs.length = 48) (h : DataW.trod enc Try.prog W base sp held m 40 cs = some x) : ∃ l : List UInt8, l.length = 48 ∧ cs = Lib.byteCells l := by
  have hr : ∃ l : List UInt8, l.length = 48 ∧ (.agg cs.toArray : Value) = digV l := by
    obtain ⟨xs, m', _, _, hlen, hn, hel⟩ := DataW.trod_array Try.underlying40 h
    have hc1 : Try.prog.cellsOf 5 = 1 := by kernel_rfl
    have hall : ∀ i, i < 48 → ∃ b : UInt8, cs[i]? = some (.int .u8 (b.toNat : Nat)) := by
      intro i hi
      have h1 := hel i hi
      rw [hc1, Nat.mul_one] at h1
      have hx : xs[i]? = some (xs[i]'(by omega)) := List.getElem?_eq_getElem (by omega)
      rw [hx] at h1
      have hd : ((cs.drop i).take 1) = [cs[i]'(by omega)] := by rw [List.drop_eq_getElem_cons (by omega)]; rfl
      rw [hd] at h1
      obtain ⟨k, e, _, hw⟩ := DataW.trod_int Try.underlying5 h1
      have hb := bounds_u8 hw
      simp only [List.cons.injEq, and_true] at e
      refine ⟨k.toNat.toUInt8, ?_⟩
      rw [List.getElem?_eq_getElem (by omega), e, Lib.toUInt8_toNat (by omega), Int.toNat_of_nonneg hb.1]
    have hch : ∃ f : Nat → UInt8, ∀ i, i < 48 → cs[i]? = some (.int .u8 ((f i).toNat : Nat)) := by
      classical
      refine ⟨fun i => if hi : i < 48 then Classical.choose (hall i hi) else 0, fun i hi => ?_⟩
      simp only [dif_pos hi]
      exact Classical.choose_spec (hall i hi)
    obtain ⟨f, hf2⟩ := hch
    refine ⟨(List.range 48).map f, by simp, ?_⟩
    unfold digV
    congr 2
    apply List.ext_getElem?
    intro i
    by_cases hi : i < 48
    · rw [hf2 i hi]
      simp [Lib.byteCells, hi]
    · rw [List.getElem?_eq_none (by omega), List.getElem?_eq_none (by simp [Lib.byteCells]; omega)]
  obtain ⟨l, h1, h2⟩ := hr
  refine ⟨l, h1, ?_⟩
  unfold digV at h2
  injection h2 with h2
  simpa using congrArg Array.toList h2

theorem blks_arg {H : Type} {enc : TypeId × Value → H} {W : World} {A : Option Addr} {len cap : Nat} {d : DataW H} {p : List MemPlace} (h : DataW.Trod enc Try.prog W 0 (fun _ => true) true 22 (.slice A len cap) d p) :
    ∃ ds : List (List UInt8), ds.length = len ∧ len ≤ cap ∧ cap ≤ maxLen ∧ BsAt W A ds := by
  obtain ⟨fuel, hf⟩ := h
  rcases Go.Deep.open_slice Try.underlying22 hf with ⟨h0, _⟩ | ⟨a, len', cap', m, n, D, Pl, hcs, _, hl, hm, hmm, _, hi⟩
  · simp [Value.cells] at h0
    obtain ⟨rfl, rfl, rfl⟩ := h0
    exact ⟨[], rfl, Nat.le_refl _, by unfold maxLen; omega, fun h => absurd h (by simp)⟩
  · simp [Value.cells] at hcs
    obtain ⟨rfl, rfl, rfl⟩ := hcs
    have hC : Try.prog.cellsOf 40 = 48 := by kernel_rfl
    have hle : len ≤ m := by rw [hmm]; split <;> omega
    have hall : ∀ i, i < len → ∃ l : List UInt8, l.length = 48 ∧ ∀ j v, (Lib.byteCells l)[j]? = some v → W.cell? (a.add (i * 48 + j)) = some v := by
      intro i him
      obtain ⟨cs', hc, ht'⟩ := hi i (by omega)
      rw [hC] at hc
      obtain ⟨_, hcl, hat⟩ := World.cells?_some hc
      obtain ⟨l, hl48, rfl⟩ := blk_cellsN hcl ht'
      refine ⟨l, hl48, fun j v hj => ?_⟩
      have hj48 : j < 48 := by have := (List.getElem?_eq_some_iff.1 hj).1; rw [Lib.byteCells_length] at this; omega
      have h0 := hat j hj48
      rw [Go.Deep.add_add] at h0
      rw [h0, hj]
    have hch : ∃ f : Nat → List UInt8, ∀ i, i < len → (f i).length = 48 ∧ ∀ j v, (Lib.byteCells (f i))[j]? = some v → W.cell? (a.add (i * 48 + j)) = some v := by
      classical
      refine ⟨fun i => if hi : i < len then Classical.choose (hall i hi) else [], fun i hi => ?_⟩
      simp only [dif_pos hi]
      exact Classical.choose_spec (hall i hi)
    clear hall
    obtain ⟨f, hf2⟩ := hch
    refine ⟨(List.range len).map f, by simp, hl, hm, fun hp => ?_⟩
    have hp' : 0 < len := by simpa using hp
    obtain ⟨b, off, spot⟩ := a
    obtain ⟨h48, hc0⟩ := hf2 0 hp'
    have hc00 := hc0 0 _ (byteCells_get (l := f 0) (j := 0) (by omega))
    have hspot : spot = none := by simpa [Addr.add] using World.cell?_spot hc00
    subst hspot
    refine ⟨b, off, rfl, World.block_lt_of_cell? W _ (by simpa [Addr.add] using hc00), fun i hi => ?_⟩
    have hi' : i < len := by simpa using hi
    have hg : ((List.range len).map f).getD i [] = f i := by simp [List.getD, hi']
    rw [hg]
    refine ⟨(hf2 i hi').1, fun j v hj => ?_⟩
    have h1 := (hf2 i hi').2 j v hj
    have hadd : (⟨b, off, none⟩ : Addr).add (i * 48 + j) = ⟨b, off + i * 48 + j, none⟩ := by unfold Addr.add; split <;> simp_all <;> omega
    rwa [hadd] at h1

theorem dig_cellsN {H : Type} {enc : TypeId × Value → H} {W : World} {base : Nat} {sp : Nat → Bool} {held : Bool} {m : Nat} {cs : List Value} {x : DataW H × List MemPlace} (hl : cs.length = 32) (h : DataW.trod enc Try.prog W base sp held m 29 cs = some x) : ∃ l : List UInt8, l.length = 32 ∧ cs = Lib.byteCells l := by
  have hr : ∃ l : List UInt8, l.length = 32 ∧ (.agg cs.toArray : Value) = digV l := by
    obtain ⟨xs, m', _, _, hlen, hn, hel⟩ := DataW.trod_array Try.underlying29 h
    have hc1 : Try.prog.cellsOf 5 = 1 := by kernel_rfl
    have hall : ∀ i, i < 32 → ∃ b : UInt8, cs[i]? = some (.int .u8 (b.toNat : Nat)) := by
      intro i hi
      have h1 := hel i hi
      rw [hc1, Nat.mul_one] at h1
      have hx : xs[i]? = some (xs[i]'(by omega)) := List.getElem?_eq_getElem (by omega)
      rw [hx] at h1
      have hd : ((cs.drop i).take 1) = [cs[i]'(by omega)] := by rw [List.drop_eq_getElem_cons (by omega)]; rfl
      rw [hd] at h1
      obtain ⟨k, e, _, hw⟩ := DataW.trod_int Try.underlying5 h1
      have hb := bounds_u8 hw
      simp only [List.cons.injEq, and_true] at e
      refine ⟨k.toNat.toUInt8, ?_⟩
      rw [List.getElem?_eq_getElem (by omega), e, Lib.toUInt8_toNat (by omega), Int.toNat_of_nonneg hb.1]
    have hch : ∃ f : Nat → UInt8, ∀ i, i < 32 → cs[i]? = some (.int .u8 ((f i).toNat : Nat)) := by
      classical
      refine ⟨fun i => if hi : i < 32 then Classical.choose (hall i hi) else 0, fun i hi => ?_⟩
      simp only [dif_pos hi]
      exact Classical.choose_spec (hall i hi)
    obtain ⟨f, hf2⟩ := hch
    refine ⟨(List.range 32).map f, by simp, ?_⟩
    unfold digV
    congr 2
    apply List.ext_getElem?
    intro i
    by_cases hi : i < 32
    · rw [hf2 i hi]
      simp [Lib.byteCells, hi]
    · rw [List.getElem?_eq_none (by omega), List.getElem?_eq_none (by simp [Lib.byteCells]; omega)]
  obtain ⟨l, h1, h2⟩ := hr
  refine ⟨l, h1, ?_⟩
  unfold digV at h2
  injection h2 with h2
  simpa using congrArg Array.toList h2

theorem int_cellN {H : Type} {enc : TypeId × Value → H} {W : World} {base : Nat} {sp : Nat → Bool} {held : Bool} {v : Value} {y : DataW H × List MemPlace} {n : Nat} (h : DataW.trod enc Try.prog W base sp held n 3 [v] = some y) :
    ∃ z, v = .int .i64 z ∧ -9223372036854775808 ≤ z ∧ z ≤ 9223372036854775807 := by
  obtain ⟨z, hcs, _, hw⟩ := DataW.trod_int Try.underlying3 h
  simp at hcs
  exact ⟨z, hcs, bounds_i64 hw⟩

theorem bin_open {H : Type} {enc : TypeId × Value → H} {W : World} {r : Reach} {b0 base : Nat} {sp : Nat → Bool} {held : Bool} {v : Value} {d : DataW H} {p : List MemPlace}
    (hv : Value.okWide Try.prog W r b0 31 v) (h : DataW.Trod enc Try.prog W base sp held 31 v d p) :
    ∃ (l : List UInt8) (x a n : Int), l.length = 32 ∧ (-9223372036854775808 ≤ x ∧ x ≤ 9223372036854775807) ∧ (-9223372036854775808 ≤ a ∧ a ≤ 9223372036854775807) ∧ (-9223372036854775808 ≤ n ∧ n ≤ 9223372036854775807) ∧ v = .agg (binC x a n l).toArray := by
  have hT := Try.underlying31
  obtain ⟨cs0, rfl, hsz, _⟩ : ∃ cs, v = .agg cs ∧ cs.size = Try.prog.cellsOf 31 ∧ Row.okWide Try.prog W r b0 31 cs := by
    simpa [Value.okWide, hT] using hv
  obtain ⟨fuel, hf⟩ := h
  have hC : Try.prog.cellsOf 31 = 35 := by kernel_rfl
  rw [hC] at hsz
  obtain ⟨cs⟩ := cs0
  have hl : cs.length = 35 := hsz
  obtain ⟨ys, n', _, _, hlen, hyl, hff⟩ := DataW.trod_struct Try.underlying31 hf
  have hcs : (Value.agg cs.toArray).cells.toList = cs := by simp [Value.cells]
  have g : ∀ j (hj : j < ys.length), ys[j]? = some (ys[j]) := fun j hj => List.getElem?_eq_getElem hj
  have hy3 : ys.length = 4 := hyl
  have c0 : DataW.trod enc Try.prog W base sp held n' 3 ((cs.drop 0).take (Try.prog.cellsOf 3)) = ys[0]? := hcs ▸ hff 0 _ rfl
  have c1 : DataW.trod enc Try.prog W base sp held n' 3 ((cs.drop 1).take (Try.prog.cellsOf 3)) = ys[1]? := hcs ▸ hff 1 _ rfl
  have c2 : DataW.trod enc Try.prog W base sp held n' 3 ((cs.drop 2).take (Try.prog.cellsOf 3)) = ys[2]? := hcs ▸ hff 2 _ rfl
  have c3 : DataW.trod enc Try.prog W base sp held n' 29 ((cs.drop 3).take (Try.prog.cellsOf 29)) = ys[3]? := hcs ▸ hff 3 _ rfl
  have k1 : Try.prog.cellsOf 3 = 1 := by kernel_rfl
  have k32 : Try.prog.cellsOf 29 = 32 := by kernel_rfl
  rw [k1, g 0 (by omega), show (cs.drop 0).take 1 = [cs[0]'(by omega)] by rw [List.drop_eq_getElem_cons (by omega)]; rfl] at c0
  rw [k1, g 1 (by omega), show (cs.drop 1).take 1 = [cs[1]'(by omega)] by rw [List.drop_eq_getElem_cons (by omega)]; rfl] at c1
  rw [k1, g 2 (by omega), show (cs.drop 2).take 1 = [cs[2]'(by omega)] by rw [List.drop_eq_getElem_cons (by omega)]; rfl] at c2
  rw [k32, g 3 (by omega)] at c3
  obtain ⟨x, e0, hx⟩ := int_cellN c0
  obtain ⟨a, e1, ha⟩ := int_cellN c1
  obtain ⟨n, e2, hn⟩ := int_cellN c2
  obtain ⟨l, h32, e3⟩ := dig_cellsN (by rw [List.length_take, List.length_drop]; omega) c3
  refine ⟨l, x, a, n, h32, hx, ha, hn, ?_⟩
  congr 2
  unfold binC
  rw [← e0, ← e1, ← e2, ← e3, List.take_of_length_le (by rw [List.length_drop]; omega)]
  conv => lhs; rw [← List.drop_zero (l := cs), List.drop_eq_getElem_cons (by omega), List.drop_eq_getElem_cons (by omega), List.drop_eq_getElem_cons (by omega)]

end Go.Proofs.Ytccccpadnaocfaa

namespace Go.Proofs.Ytccccpadnaocfaa
open Go.RowKit
set_option linter.unusedVariables false
set_option linter.unusedSimpArgs false

theorem owns_emptyC (w : World) (B : Nat) (hB : B ≤ w.heap.size) : Owns (w.alloc (.cells #[] 5)) B 5 (.slice (some ⟨w.heap.size, 0, none⟩) 0 0) [] :=
  ⟨rfl, .inr ⟨w.heap.size, 0, #[], rfl, hB, heap_alloc_new w _, Nat.le_refl _, by unfold maxLen; omega, rfl, rfl⟩⟩
theorem rdone_nN (q : Nat) (L : List UInt8) (A : Option Addr) (c o : Nat) (b : Bool) (l : List UInt8) (d : Int) (w : World) (h : RIn w q L A c o b) (hf : RFix w q L A c) (hr : Rel l L o b) (hd : doneF l b = d) :
    Calls Try.prog 21 #[.pointer (some ⟨q, 0, none⟩)] w fun e w' => e = .returned (.int .i64 d) ∧ ∃ k, w' = w.drewN k := by
  subst hd
  rw [← rel_done hr]
  exact rdone_in q L A c o b w h hf
theorem done_nN (p : Nat) (l : List UInt8) (b : Bool) (d : Int) (w : World) (h : PIn w p l b) (hd : doneF l b = d) :
    Calls Try.prog 20 #[.pointer (some ⟨p, 0, none⟩)] w fun e w' => e = .returned (.int .i64 d) ∧ w' = w := by
  subst hd
  exact (done_in p l b w h).mono fun e w' h => ⟨h.1, h.2.symm⟩
theorem PIn.belowN {w w' : World} {B p : Nat} {l : List UInt8} {b : Bool} (h : PIn w p l b) (hb : Below B w w') (hB : w.heap.size ≤ B) : PIn w' p l b := h.lowN ⟨hb.size, fun k hk => hb.block k (by have := h.lt; omega)⟩
theorem Turn.belowN {p B : Nat} {w w' : World} (h : Turn p w w') (hB : B ≤ w.heap.size) (hp : B ≤ p) : Below B w w' := (TurnN.only h).below hB (fun k hk => by omega)
theorem tkN_refl (x a n : Nat) (d : List UInt8) (hd : d.length = 32) (b : Bool) (TL : List Value) (hT : TL = tkN x a n d b) (w : World) : (Op.equalIn 10000 31 (.agg TL.toArray) (.agg TL.toArray)).run Try.prog w = .ok true w := by
  cases b
  · exact bin_refl d hd x a n TL hT w
  · exact bin_refl (List.replicate 32 0) (by simp) 0 0 0 TL hT w

set_option maxHeartbeats 4000000 in
set_option maxRecDepth 100000 in
theorem bcodes_great (DL : List Value) (A : Option Addr) (n c : Nat) (w : World) (h : 300 < n) :
    Calls Try.prog 4 #[.agg DL.toArray, .slice A n c] w fun e w' => e = .returned (.bool true) ∧ Below w.heap.size w w' := by
  obtain ⟨W1, hW1⟩ : ∃ x, x = w.alloc (.cells DL.toArray 31) := ⟨_, rfl⟩
  have hb1 : Below w.heap.size w W1 := by rw [hW1]; exact (Below.refl _ w).alloc (Nat.le_refl _) _
  have HW1 := Lib.hid hW1
  have hd1 : decide ((300 : Int) < (n : Int)) = true := by simp; omega
  clear hW1
  go_enter Try.func4, Try.ntmps4
  go_upto_region 1 with fail
  change Code.wp _ _ _ _ (w.alloc (.cells DL.toArray 31))
  rw [← HW1.out]
  clear HW1
  go_wp2_with fail
  refine Calls.mono (nspeaks_true W1) ?_
  rintro e w1 ⟨rfl, hB1⟩
  go_wp2_with fail
  go_ret
  exact ⟨rfl, hb1.trans (hB1.mono hb1.size)⟩

set_option maxHeartbeats 16000000 in
set_option maxRecDepth 100000 in
theorem bcodes_in (d : List UInt8) (hd : d.length = 32) (f a z : Int) (DL : List Value) (hDL : DL = binC f a z d) (A : Option Addr) (n c : Nat) (bs : List UInt8) (hbl : bs.length = n) (hnc : n ≤ c) (hcm : c ≤ maxLen) (w : World) (hA : Bs w w.heap.size A bs) (h300 : n ≤ 300)
    (hf0 : -9223372036854775808 ≤ f) (hf1 : f ≤ 9223372036854775807) (ha0 : -9223372036854775808 ≤ a) (ha1 : a ≤ 9223372036854775807) (hz0 : -9223372036854775808 ≤ z) (hz1 : z ≤ 9223372036854775807) :
    Calls Try.prog 4 #[.agg DL.toArray, .slice A n c] w fun e w' => e = .returned (.bool true) ∧ Below w.heap.size w w' := by
  obtain ⟨i0, hi, hi0, hi1, hi2⟩ := info_parts byteInfo
  obtain ⟨td, tx, ta, tn, b3, l3, o3, htd, hrel3, hbt, hrt⟩ := ntakes_both bs
  obtain ⟨TL, hTL⟩ : ∃ T, T = tkN tx ta tn td b3 := ⟨_, rfl⟩
  have hcmpT := tkN_refl tx ta tn td htd b3 TL hTL
  have hcmpD := bin_refl d hd f a z DL hDL
  have hbt2 := fun p w => hbt TL p w hTL
  have hrt2 := fun q A c w => hrt TL q A c w hTL
  have hgt := gtNN
  obtain ⟨W1, hW1⟩ : ∃ x, x = w.alloc (.cells DL.toArray 31) := ⟨_, rfl⟩
  have hR1 : Arr W1 w.heap.size 31 DL := by rw [hW1]; exact Arr.new w _ _
  have hb1 : Below w.heap.size w W1 := by rw [hW1]; exact (Below.refl _ w).alloc (Nat.le_refl _) _
  have hDll : DL.length = 35 := by rw [hDL]; exact binC_length _ _ _ hd
  have HDi := Lib.hid (show (Try.prog.info? 31).map (·.size) = some DL.toArray.size by rw [List.size_toArray, hDll]; exact binSize)
  have HDn := Lib.hid (show (Try.prog.info? 31).map (·.size) = some DL.length by rw [hDll]; exact binSize)
  have h00 : DL[0]? = some (.int .i64 f) := by rw [hDL]; rfl
  have h01 : DL[1]? = some (.int .i64 a) := by rw [hDL]; rfl
  have h02 : DL[2]? = some (.int .i64 z) := by rw [hDL]; rfl
  have HW1 := Lib.hid hW1
  have HDL := Lib.hid hDL
  have Hbl := Lib.hid hbl
  have hd1 : decide ((300 : Int) < (n : Int)) = false := by simp; omega
  obtain ⟨B, hB⟩ : ∃ B, B = W1.heap.size := ⟨_, rfl⟩
  have hwB : w.heap.size < B := by rw [hB]; exact hR1.lt
  have hA1 : Bs W1 w.heap.size A bs := hA.below hb1 (Nat.le_refl _)
  have hrow0 : ∀ g k, B ≤ g → (Value.slice (some ⟨g, 0, none⟩) 0 0).ownBlock = some k → B ≤ k := fun g k hg hk => by
    simp only [Value.ownBlock, Option.some.injEq] at hk
    omega
  clear hW1 hDL hbl hTL hbt hrt hA
  go_enter Try.func4, Try.ntmps4
  go_upto_region 1 with fail
  change Code.wp _ _ _ _ (w.alloc (.cells DL.toArray 31))
  rw [← HW1.out]
  clear HW1
  go_wp2_with fail
  refine Calls.mono (nspeaks_true W1) ?_
  rintro e w2 ⟨rfl, hb2⟩
  rw [← hB] at hb2
  have hB2 : B ≤ w2.heap.size := by rw [hB]; exact hb2.size
  have hA2 : Bs w2 w.heap.size A bs := hA1.below hb2 (Nat.le_of_lt hwB)
  go_wp2_with (at_builtin; refine wpList_append_bs rfl _ _ 49 rfl w2.heap.size 5 i0 (.int .u8 0) Try.underlying49 hi hi0 hi1 hi2 rfl (.slice (some ⟨w2.heap.size, 0, none⟩) 0 0) [] rfl (owns_emptyC w2 w2.heap.size (Nat.le_refl _)) w.heap.size A n c bs rfl Hbl.out (hA2.alloc (by omega) _) (by simp; omega) (by simp) ?_; intro v3 w3 hown3 hg3)
  rw [List.nil_append] at hown3
  have hb3 : Below B W1 w3 := hb2.trans (((Below.refl B w2).alloc hB2 _).trans (hg3.below (by simp; omega) (fun k hk => hrow0 _ k hB2 hk)))
  have hB3 : B ≤ w3.heap.size := by rw [hB]; exact hb3.size
  obtain ⟨A3, c3, rfl, _, _, hs3⟩ := hown3.slice
  rw [Hbl.out]
  clear hown3 hg3 hA2 hb2 hB2
  go_wp2_with fail
  refine (from_n _ A3 c3 n bs w3 hs3 Hbl.out (by omega)).mono ?_
  rintro e w4 ⟨p, rfl, hp3, hpin, hb4⟩
  have hBp : B ≤ p := Nat.le_trans hB3 hp3
  have hb4 : Below B W1 w4 := hb3.trans (hb4.mono hB3)
  clear hs3 hb3 hB3 hp3
  have hplt := hpin.lt
  go_wp2_with fail
  obtain ⟨w5, hw5⟩ : ∃ x, x = w4.alloc (.cells #[.slice A n c, .int .i64 0, .bool false] 54) := ⟨_, rfl⟩
  change Calls _ _ _ (w4.alloc (.cells #[.slice A n c, .int .i64 0, .bool false] 54)) _
  rw [← hw5]
  have hri5 : RIn w5 w4.heap.size bs A c 0 false := by
    unfold RIn
    rw [hw5, Hbl.out]
    exact heap_alloc_new w4 _
  have hb5 : Below B W1 w5 := by rw [hw5]; exact hb4.alloc (Nat.le_trans hBp (Nat.le_of_lt hplt)) _
  have hp5 : PIn w5 p bs false := hpin.belowN (B := w4.heap.size) (by rw [hw5]; exact (Below.refl _ _).alloc (Nat.le_refl _) _) (Nat.le_refl _)
  have hB5 : B ≤ w5.heap.size := by rw [hB]; exact hb5.size
  obtain ⟨q, hq⟩ : ∃ q, q = w4.heap.size := ⟨_, rfl⟩
  rw [← hq] at hri5 hplt ⊢
  have hBq : B ≤ q := by omega
  have hqp : q ≠ p := by omega
  clear hw5 hq hb4 hpin
  refine Calls.mono (hbt2 p w5 hp5) ?_
  rintro e w6 ⟨rfl, hp6, ht6⟩
  have hri6 : RIn w6 q bs A c 0 false := (ht6.block q hri5.lt (fun e => hqp (by injection e))).trans hri5
  have hb6 : Below B W1 w6 := hb5.trans (ht6.belowN hB5 hBp)
  have hB6 : B ≤ w6.heap.size := by rw [hB]; exact hb6.size
  have hf6 : RFix w6 q bs A c := ⟨by rw [Hbl.out]; exact hnc, by rw [Hbl.out]; omega, hcm, (hA1.below hb6 (Nat.le_of_lt hwB)).more (by omega)⟩
  clear hp5 hri5 hb5 hB5 ht6
  go_wp2_with fail
  refine Calls.mono (hrt2 q A c w6 hri6 hf6) ?_
  rintro e w7 ⟨rfl, ⟨hri7, hf7⟩, ht7⟩
  have hp7 : PIn w7 p l3 b3 := hp6.lowN ⟨ht7.size, fun k hk => ht7.block k (by have := hp6.lt; omega) (fun e => by injection e with e; omega)⟩
  have hb7 : Below B W1 w7 := hb6.trans (ht7.belowN hB6 hBq)
  clear hp6 hri6 hf6 hb6 hB6 ht7
  obtain ⟨dn, hdn⟩ : ∃ x, doneF l3 b3 = x := ⟨_, rfl⟩
  have Hdn := Lib.hid hdn
  clear hdn
  go_wp2_with fail
  refine Calls.mono (done_nN p l3 b3 dn w7 hp7 Hdn.out) ?_
  rintro e w8 ⟨rfl, rfl⟩
  go_wp2_with fail
  refine Calls.mono (rdone_nN q bs A c o3 b3 l3 dn w8 hri7 hf7 hrel3 Hdn.out) ?_
  rintro e w9 ⟨rfl, nd, rfl⟩
  have hb9 : Below B W1 (w8.drewN nd) := Below.dN hb7 nd
  obtain ⟨w9, hw9⟩ : ∃ x, x = w8.drewN nd := ⟨_, rfl⟩
  rw [← hw9] at hb9 ⊢
  clear hw9 hri7 hf7 hp7 hb7 hqp hbt2 hrt2 hplt
  have hB9 : B ≤ w9.heap.size := by rw [hB]; exact hb9.size
  have hR9 : Arr w9 w.heap.size 31 DL := hR1.below hb9 hwB
  go_wp2_with (first
    | (refine wpList_load_row rfl _ _ rfl w.heap.size rfl 31 DL.toArray (0, 0) _ hR9 Try.underlying31 rfl HDi.out ?_))
  refine Calls.mono (nput_any f a z d hd DL HDL.out w9) ?_
  rintro e wb ⟨vb, rfl, hownb, hbb⟩
  have hbB : Below B W1 wb := hb9.trans (hbb.mono hB9)
  have hBb : B ≤ wb.heap.size := by rw [hB]; exact hbB.size
  have hRb : Arr wb w.heap.size 31 DL := hR1.below hbB hwB
  have hrB : (binB f a z d).length ≤ 62 := by
    have e0 := Lib.uvarint_length64 (uN_wrap f).2
    have e1 := Lib.uvarint_length64 (uN_wrap a).2
    have e2 := Lib.uvarint_length64 (uN_wrap z).2
    unfold binB
    simp only [List.length_append, hd]
    omega
  obtain ⟨R, hR⟩ : ∃ R, R = binB f a z d := ⟨_, rfl⟩
  rw [← hR] at hownb hrB
  obtain ⟨Ab, cb, rfl, hb1c, hb2c, hbsb⟩ := hownb.slice
  obtain ⟨m, hm⟩ : ∃ m, R.length = m := ⟨_, rfl⟩
  rw [hm] at hrB hb1c ⊢
  have Hm := Lib.hid hm
  have HRr := Lib.hid hR
  clear hm hR hownb hbb hR9 hb9
  go_wp2_with (first
    | (refine wpList_load_row rfl _ _ rfl w.heap.size rfl 31 DL.toArray (0, 0) _ hRb Try.underlying31 rfl HDi.out ?_))
  refine Calls.mono (rnput_any f a z d hd DL HDL.out wb) ?_
  rintro e wd ⟨vd, rfl, hownd, hbd⟩
  rw [← HRr.out] at hownd
  obtain ⟨Ad, cd, rfl, hd1c, hd2c, hbsd⟩ := hownd.slice
  rw [Hm.out]
  have hBd : Below B W1 wd := hbB.trans (hbd.mono hBb)
  have hbsb' : Bs wd wb.heap.size Ab R := hbsb.below hbd (Nat.le_refl _)
  have hbd2 : wb.heap.size ≤ wd.heap.size := hbd.size
  clear hownd hbsb hbd hRb hbB
  go_wp2_with fail
  refine Calls.mono (same_n wb.heap.size wd.heap.size Ab Ad cb cd m m R R wd true hbsb' hbsd Hm.out Hm.out (by unfold maxLen; omega) (by unfold maxLen; omega) (by simp)) ?_
  rintro e we ⟨rfl, ne, rfl⟩
  have hbE : Below B W1 (wd.drewN ne) := Below.dN hBd ne
  have hbsE : Bs (wd.drewN ne) wb.heap.size Ab R := hbsb'.drewN ne
  obtain ⟨we, hwe⟩ : ∃ x, x = wd.drewN ne := ⟨_, rfl⟩
  rw [← hwe] at hbE hbsE ⊢
  have hBe : B ≤ we.heap.size := by rw [hB]; exact hbE.size
  have hbbe : wb.heap.size ≤ we.heap.size := by rw [hwe]; exact hbd2
  clear hwe hbsb' hbsd hBd hbd2
  go_wp2_with fail
  refine (from_n _ Ab cb m R we (hbsE.more hbbe) Hm.out (by omega)).mono ?_
  rintro e wf ⟨p2, rfl, hp2, hpinf, hbf⟩
  have hbF : Below B W1 wf := hbE.trans (hbf.mono hBe)
  have hRf : Arr wf w.heap.size 31 DL := hR1.below hbF hwB
  have hBp2 : B ≤ p2 := Nat.le_trans hBe hp2
  have hBf : B ≤ wf.heap.size := Nat.le_trans hBe hbf.size
  have g0 : wf.cell? ⟨w.heap.size, 0, none⟩ = some (.int .i64 f) := by rw [hRf.cell]; exact h00
  have g1 : wf.cell? ⟨w.heap.size, 1, none⟩ = some (.int .i64 a) := by rw [hRf.cell]; exact h01
  have g2 : wf.cell? ⟨w.heap.size, 2, none⟩ = some (.int .i64 z) := by rw [hRf.cell]; exact h02
  have hlast : Below w.heap.size w wf.drew := Below.dN (hb1.trans (hbF.mono (Nat.le_of_lt hwB))) 1
  clear hbsE hbE hbf hBe hbbe hp2
  dsimp only
  by_cases c0 : f < 0
  · have q0 : decide ((0 : Int) ≤ f) = false := by simp; omega
    go_wp2_with fail
    refine wp_region_held_drew (S := fun w' => True) (by kernel_rfl) trivial (fun hHeld => ?_)
    refine anyH_take (i := 0) (v := .bool false) (some 70) rfl rfl (by kernel_rfl) (by kernel_rfl) (by kernel_rfl) (fun _ _ _ h => h) (Or.inl ⟨by rfl, fun w' hw' => by rfl⟩) (by assumption) ?_
    simp only [Act.put, List.setIfInBounds_toArray, List.set_cons_zero, List.set_cons_succ]
    refine anyH_take (i := 1) (v := .bool true) (some 71) rfl rfl (by kernel_rfl) (by kernel_rfl) (by kernel_rfl) (fun _ _ _ h => h) (Or.inl ⟨by rfl, fun w' hw' => by go_simp⟩) (by assumption) ?_
    simp only [Act.put, List.setIfInBounds_toArray, List.set_cons_zero, List.set_cons_succ]
    refine anyH_take (i := 2) (v := .bool true) (some 72) rfl rfl (by kernel_rfl) (by kernel_rfl) (by kernel_rfl) (fun _ _ _ h => h) (Or.inl ⟨by rfl, fun w' hw' => by rfl⟩) (by assumption) ?_
    simp only [Act.put, List.setIfInBounds_toArray, List.set_cons_zero, List.set_cons_succ]
    refine anyH_take (i := 3) (v := undef) (some 73) rfl rfl (by kernel_rfl) (by kernel_rfl) (by kernel_rfl) (fun _ _ _ h => h) (Or.inr ⟨by rfl, rfl⟩) (by assumption) ?_
    simp only [Act.put, List.setIfInBounds_toArray, List.set_cons_zero, List.set_cons_succ]
    refine anyH_take (i := 4) (v := undef) (some 74) rfl rfl (by kernel_rfl) (by kernel_rfl) (by kernel_rfl) (fun _ _ _ h => h) (Or.inr ⟨by rfl, rfl⟩) (by assumption) ?_
    simp only [Act.put, List.setIfInBounds_toArray, List.set_cons_zero, List.set_cons_succ]
    refine anyH_take (i := 5) (v := undef) (some 75) rfl rfl (by kernel_rfl) (by kernel_rfl) (by kernel_rfl) (fun _ _ _ h => h) (Or.inr ⟨by rfl, rfl⟩) (by assumption) ?_
    simp only [Act.put, List.setIfInBounds_toArray, List.set_cons_zero, List.set_cons_succ]
    refine anyH_take (i := 6) (v := undef) (some 76) rfl rfl (by kernel_rfl) (by kernel_rfl) (by kernel_rfl) (fun _ _ _ h => h) (Or.inr ⟨by rfl, rfl⟩) (by assumption) ?_
    simp only [Act.put, List.setIfInBounds_toArray, List.set_cons_zero, List.set_cons_succ]
    refine anyH_take (i := 7) (v := undef) (some 77) rfl rfl (by kernel_rfl) (by kernel_rfl) (by kernel_rfl) (fun _ _ _ h => h) (Or.inr ⟨by rfl, rfl⟩) (by assumption) ?_
    simp only [Act.put, List.setIfInBounds_toArray, List.set_cons_zero, List.set_cons_succ]
    refine anyH_take (i := 8) (v := undef) (some 78) rfl rfl (by kernel_rfl) (by kernel_rfl) (by kernel_rfl) (fun _ _ _ h => h) (Or.inr ⟨by rfl, rfl⟩) (by assumption) ?_
    simp only [Act.put, List.setIfInBounds_toArray, List.set_cons_zero, List.set_cons_succ]
    refine anyH_take (i := 9) (v := undef) (some 79) rfl rfl (by kernel_rfl) (by kernel_rfl) (by kernel_rfl) (fun _ _ _ h => h) (Or.inr ⟨by rfl, rfl⟩) (by assumption) ?_
    simp only [Act.put, List.setIfInBounds_toArray, List.set_cons_zero, List.set_cons_succ]
    refine anyH_take (i := 10) (v := undef) (some 80) rfl rfl (by kernel_rfl) (by kernel_rfl) (by kernel_rfl) (fun _ _ _ h => h) (Or.inr ⟨by rfl, rfl⟩) (by assumption) ?_
    simp only [Act.put, List.setIfInBounds_toArray, List.set_cons_zero, List.set_cons_succ]
    refine anyH_take (i := 11) (v := undef) (some 81) rfl rfl (by kernel_rfl) (by kernel_rfl) (by kernel_rfl) (fun _ _ _ h => h) (Or.inr ⟨by rfl, rfl⟩) (by assumption) ?_
    simp only [Act.put, List.setIfInBounds_toArray, List.set_cons_zero, List.set_cons_succ]
    refine anyH_take (i := 12) (v := .bool true) (some 82) rfl rfl (by kernel_rfl) (by kernel_rfl) (by kernel_rfl) (fun _ _ _ h => h) (Or.inl ⟨by rfl, fun w' hw' => by go_simp⟩) (by assumption) ?_
    simp only [Act.put, List.setIfInBounds_toArray, List.set_cons_zero, List.set_cons_succ]
    refine anyH_take (i := 13) (v := .bool true) (some 4) rfl rfl (by kernel_rfl) (by kernel_rfl) (by kernel_rfl) (fun _ _ _ h => h) (Or.inl ⟨by rfl, fun w' hw' => by rfl⟩) (by assumption) ?_
    simp only [Act.put, List.setIfInBounds_toArray, List.set_cons_zero, List.set_cons_succ]
    refine wpAnyH_done (by kernel_rfl) ?_ _
    clear hHeld hpinf
    go_wp2_with fail
    go_ret
    exact ⟨rfl, hlast⟩
  have q0 : decide ((0 : Int) ≤ f) = true := by simp; omega
  by_cases c1 : 2147483647 < f
  · have q1 : decide (f ≤ (2147483647 : Int)) = false := by simp; omega
    go_wp2_with fail
    refine wp_region_held_drew (S := fun w' => True) (by kernel_rfl) trivial (fun hHeld => ?_)
    refine anyH_take (i := 0) (v := .bool false) (some 70) rfl rfl (by kernel_rfl) (by kernel_rfl) (by kernel_rfl) (fun _ _ _ h => h) (Or.inl ⟨by rfl, fun w' hw' => by rfl⟩) (by assumption) ?_
    simp only [Act.put, List.setIfInBounds_toArray, List.set_cons_zero, List.set_cons_succ]
    refine anyH_take (i := 1) (v := .bool true) (some 71) rfl rfl (by kernel_rfl) (by kernel_rfl) (by kernel_rfl) (fun _ _ _ h => h) (Or.inl ⟨by rfl, fun w' hw' => by go_simp⟩) (by assumption) ?_
    simp only [Act.put, List.setIfInBounds_toArray, List.set_cons_zero, List.set_cons_succ]
    refine anyH_take (i := 2) (v := .bool true) (some 72) rfl rfl (by kernel_rfl) (by kernel_rfl) (by kernel_rfl) (fun _ _ _ h => h) (Or.inl ⟨by rfl, fun w' hw' => by rfl⟩) (by assumption) ?_
    simp only [Act.put, List.setIfInBounds_toArray, List.set_cons_zero, List.set_cons_succ]
    refine anyH_take (i := 3) (v := undef) (some 73) rfl rfl (by kernel_rfl) (by kernel_rfl) (by kernel_rfl) (fun _ _ _ h => h) (Or.inr ⟨by rfl, rfl⟩) (by assumption) ?_
    simp only [Act.put, List.setIfInBounds_toArray, List.set_cons_zero, List.set_cons_succ]
    refine anyH_take (i := 4) (v := undef) (some 74) rfl rfl (by kernel_rfl) (by kernel_rfl) (by kernel_rfl) (fun _ _ _ h => h) (Or.inr ⟨by rfl, rfl⟩) (by assumption) ?_
    simp only [Act.put, List.setIfInBounds_toArray, List.set_cons_zero, List.set_cons_succ]
    refine anyH_take (i := 5) (v := undef) (some 75) rfl rfl (by kernel_rfl) (by kernel_rfl) (by kernel_rfl) (fun _ _ _ h => h) (Or.inr ⟨by rfl, rfl⟩) (by assumption) ?_
    simp only [Act.put, List.setIfInBounds_toArray, List.set_cons_zero, List.set_cons_succ]
    refine anyH_take (i := 6) (v := undef) (some 76) rfl rfl (by kernel_rfl) (by kernel_rfl) (by kernel_rfl) (fun _ _ _ h => h) (Or.inr ⟨by rfl, rfl⟩) (by assumption) ?_
    simp only [Act.put, List.setIfInBounds_toArray, List.set_cons_zero, List.set_cons_succ]
    refine anyH_take (i := 7) (v := undef) (some 77) rfl rfl (by kernel_rfl) (by kernel_rfl) (by kernel_rfl) (fun _ _ _ h => h) (Or.inr ⟨by rfl, rfl⟩) (by assumption) ?_
    simp only [Act.put, List.setIfInBounds_toArray, List.set_cons_zero, List.set_cons_succ]
    refine anyH_take (i := 8) (v := undef) (some 78) rfl rfl (by kernel_rfl) (by kernel_rfl) (by kernel_rfl) (fun _ _ _ h => h) (Or.inr ⟨by rfl, rfl⟩) (by assumption) ?_
    simp only [Act.put, List.setIfInBounds_toArray, List.set_cons_zero, List.set_cons_succ]
    refine anyH_take (i := 9) (v := undef) (some 79) rfl rfl (by kernel_rfl) (by kernel_rfl) (by kernel_rfl) (fun _ _ _ h => h) (Or.inr ⟨by rfl, rfl⟩) (by assumption) ?_
    simp only [Act.put, List.setIfInBounds_toArray, List.set_cons_zero, List.set_cons_succ]
    refine anyH_take (i := 10) (v := undef) (some 80) rfl rfl (by kernel_rfl) (by kernel_rfl) (by kernel_rfl) (fun _ _ _ h => h) (Or.inr ⟨by rfl, rfl⟩) (by assumption) ?_
    simp only [Act.put, List.setIfInBounds_toArray, List.set_cons_zero, List.set_cons_succ]
    refine anyH_take (i := 11) (v := undef) (some 81) rfl rfl (by kernel_rfl) (by kernel_rfl) (by kernel_rfl) (fun _ _ _ h => h) (Or.inr ⟨by rfl, rfl⟩) (by assumption) ?_
    simp only [Act.put, List.setIfInBounds_toArray, List.set_cons_zero, List.set_cons_succ]
    refine anyH_take (i := 12) (v := .bool true) (some 82) rfl rfl (by kernel_rfl) (by kernel_rfl) (by kernel_rfl) (fun _ _ _ h => h) (Or.inl ⟨by rfl, fun w' hw' => by go_simp⟩) (by assumption) ?_
    simp only [Act.put, List.setIfInBounds_toArray, List.set_cons_zero, List.set_cons_succ]
    refine anyH_take (i := 13) (v := .bool true) (some 4) rfl rfl (by kernel_rfl) (by kernel_rfl) (by kernel_rfl) (fun _ _ _ h => h) (Or.inl ⟨by rfl, fun w' hw' => by rfl⟩) (by assumption) ?_
    simp only [Act.put, List.setIfInBounds_toArray, List.set_cons_zero, List.set_cons_succ]
    refine wpAnyH_done (by kernel_rfl) ?_ _
    clear hHeld hpinf
    go_wp2_with fail
    go_ret
    exact ⟨rfl, hlast⟩
  have q1 : decide (f ≤ (2147483647 : Int)) = true := by simp; omega
  by_cases c2 : a < 0
  · have q2 : decide ((0 : Int) ≤ a) = false := by simp; omega
    go_wp2_with fail
    refine wp_region_held_drew (S := fun w' => True) (by kernel_rfl) trivial (fun hHeld => ?_)
    refine anyH_take (i := 0) (v := .bool false) (some 70) rfl rfl (by kernel_rfl) (by kernel_rfl) (by kernel_rfl) (fun _ _ _ h => h) (Or.inl ⟨by rfl, fun w' hw' => by rfl⟩) (by assumption) ?_
    simp only [Act.put, List.setIfInBounds_toArray, List.set_cons_zero, List.set_cons_succ]
    refine anyH_take (i := 1) (v := .bool true) (some 71) rfl rfl (by kernel_rfl) (by kernel_rfl) (by kernel_rfl) (fun _ _ _ h => h) (Or.inl ⟨by rfl, fun w' hw' => by go_simp⟩) (by assumption) ?_
    simp only [Act.put, List.setIfInBounds_toArray, List.set_cons_zero, List.set_cons_succ]
    refine anyH_take (i := 2) (v := .bool true) (some 72) rfl rfl (by kernel_rfl) (by kernel_rfl) (by kernel_rfl) (fun _ _ _ h => h) (Or.inl ⟨by rfl, fun w' hw' => by rfl⟩) (by assumption) ?_
    simp only [Act.put, List.setIfInBounds_toArray, List.set_cons_zero, List.set_cons_succ]
    refine anyH_take (i := 3) (v := undef) (some 73) rfl rfl (by kernel_rfl) (by kernel_rfl) (by kernel_rfl) (fun _ _ _ h => h) (Or.inr ⟨by rfl, rfl⟩) (by assumption) ?_
    simp only [Act.put, List.setIfInBounds_toArray, List.set_cons_zero, List.set_cons_succ]
    refine anyH_take (i := 4) (v := undef) (some 74) rfl rfl (by kernel_rfl) (by kernel_rfl) (by kernel_rfl) (fun _ _ _ h => h) (Or.inr ⟨by rfl, rfl⟩) (by assumption) ?_
    simp only [Act.put, List.setIfInBounds_toArray, List.set_cons_zero, List.set_cons_succ]
    refine anyH_take (i := 5) (v := undef) (some 75) rfl rfl (by kernel_rfl) (by kernel_rfl) (by kernel_rfl) (fun _ _ _ h => h) (Or.inr ⟨by rfl, rfl⟩) (by assumption) ?_
    simp only [Act.put, List.setIfInBounds_toArray, List.set_cons_zero, List.set_cons_succ]
    refine anyH_take (i := 6) (v := undef) (some 76) rfl rfl (by kernel_rfl) (by kernel_rfl) (by kernel_rfl) (fun _ _ _ h => h) (Or.inr ⟨by rfl, rfl⟩) (by assumption) ?_
    simp only [Act.put, List.setIfInBounds_toArray, List.set_cons_zero, List.set_cons_succ]
    refine anyH_take (i := 7) (v := undef) (some 77) rfl rfl (by kernel_rfl) (by kernel_rfl) (by kernel_rfl) (fun _ _ _ h => h) (Or.inr ⟨by rfl, rfl⟩) (by assumption) ?_
    simp only [Act.put, List.setIfInBounds_toArray, List.set_cons_zero, List.set_cons_succ]
    refine anyH_take (i := 8) (v := undef) (some 78) rfl rfl (by kernel_rfl) (by kernel_rfl) (by kernel_rfl) (fun _ _ _ h => h) (Or.inr ⟨by rfl, rfl⟩) (by assumption) ?_
    simp only [Act.put, List.setIfInBounds_toArray, List.set_cons_zero, List.set_cons_succ]
    refine anyH_take (i := 9) (v := undef) (some 79) rfl rfl (by kernel_rfl) (by kernel_rfl) (by kernel_rfl) (fun _ _ _ h => h) (Or.inr ⟨by rfl, rfl⟩) (by assumption) ?_
    simp only [Act.put, List.setIfInBounds_toArray, List.set_cons_zero, List.set_cons_succ]
    refine anyH_take (i := 10) (v := undef) (some 80) rfl rfl (by kernel_rfl) (by kernel_rfl) (by kernel_rfl) (fun _ _ _ h => h) (Or.inr ⟨by rfl, rfl⟩) (by assumption) ?_
    simp only [Act.put, List.setIfInBounds_toArray, List.set_cons_zero, List.set_cons_succ]
    refine anyH_take (i := 11) (v := undef) (some 81) rfl rfl (by kernel_rfl) (by kernel_rfl) (by kernel_rfl) (fun _ _ _ h => h) (Or.inr ⟨by rfl, rfl⟩) (by assumption) ?_
    simp only [Act.put, List.setIfInBounds_toArray, List.set_cons_zero, List.set_cons_succ]
    refine anyH_take (i := 12) (v := .bool true) (some 82) rfl rfl (by kernel_rfl) (by kernel_rfl) (by kernel_rfl) (fun _ _ _ h => h) (Or.inl ⟨by rfl, fun w' hw' => by go_simp⟩) (by assumption) ?_
    simp only [Act.put, List.setIfInBounds_toArray, List.set_cons_zero, List.set_cons_succ]
    refine anyH_take (i := 13) (v := .bool true) (some 4) rfl rfl (by kernel_rfl) (by kernel_rfl) (by kernel_rfl) (fun _ _ _ h => h) (Or.inl ⟨by rfl, fun w' hw' => by rfl⟩) (by assumption) ?_
    simp only [Act.put, List.setIfInBounds_toArray, List.set_cons_zero, List.set_cons_succ]
    refine wpAnyH_done (by kernel_rfl) ?_ _
    clear hHeld hpinf
    go_wp2_with fail
    go_ret
    exact ⟨rfl, hlast⟩
  have q2 : decide ((0 : Int) ≤ a) = true := by simp; omega
  by_cases c3 : 65535 < a
  · have q3 : decide (a < (65536 : Int)) = false := by simp; omega
    go_wp2_with fail
    refine wp_region_held_drew (S := fun w' => True) (by kernel_rfl) trivial (fun hHeld => ?_)
    refine anyH_take (i := 0) (v := .bool false) (some 70) rfl rfl (by kernel_rfl) (by kernel_rfl) (by kernel_rfl) (fun _ _ _ h => h) (Or.inl ⟨by rfl, fun w' hw' => by rfl⟩) (by assumption) ?_
    simp only [Act.put, List.setIfInBounds_toArray, List.set_cons_zero, List.set_cons_succ]
    refine anyH_take (i := 1) (v := .bool true) (some 71) rfl rfl (by kernel_rfl) (by kernel_rfl) (by kernel_rfl) (fun _ _ _ h => h) (Or.inl ⟨by rfl, fun w' hw' => by go_simp⟩) (by assumption) ?_
    simp only [Act.put, List.setIfInBounds_toArray, List.set_cons_zero, List.set_cons_succ]
    refine anyH_take (i := 2) (v := .bool true) (some 72) rfl rfl (by kernel_rfl) (by kernel_rfl) (by kernel_rfl) (fun _ _ _ h => h) (Or.inl ⟨by rfl, fun w' hw' => by rfl⟩) (by assumption) ?_
    simp only [Act.put, List.setIfInBounds_toArray, List.set_cons_zero, List.set_cons_succ]
    refine anyH_take (i := 3) (v := undef) (some 73) rfl rfl (by kernel_rfl) (by kernel_rfl) (by kernel_rfl) (fun _ _ _ h => h) (Or.inr ⟨by rfl, rfl⟩) (by assumption) ?_
    simp only [Act.put, List.setIfInBounds_toArray, List.set_cons_zero, List.set_cons_succ]
    refine anyH_take (i := 4) (v := undef) (some 74) rfl rfl (by kernel_rfl) (by kernel_rfl) (by kernel_rfl) (fun _ _ _ h => h) (Or.inr ⟨by rfl, rfl⟩) (by assumption) ?_
    simp only [Act.put, List.setIfInBounds_toArray, List.set_cons_zero, List.set_cons_succ]
    refine anyH_take (i := 5) (v := undef) (some 75) rfl rfl (by kernel_rfl) (by kernel_rfl) (by kernel_rfl) (fun _ _ _ h => h) (Or.inr ⟨by rfl, rfl⟩) (by assumption) ?_
    simp only [Act.put, List.setIfInBounds_toArray, List.set_cons_zero, List.set_cons_succ]
    refine anyH_take (i := 6) (v := undef) (some 76) rfl rfl (by kernel_rfl) (by kernel_rfl) (by kernel_rfl) (fun _ _ _ h => h) (Or.inr ⟨by rfl, rfl⟩) (by assumption) ?_
    simp only [Act.put, List.setIfInBounds_toArray, List.set_cons_zero, List.set_cons_succ]
    refine anyH_take (i := 7) (v := undef) (some 77) rfl rfl (by kernel_rfl) (by kernel_rfl) (by kernel_rfl) (fun _ _ _ h => h) (Or.inr ⟨by rfl, rfl⟩) (by assumption) ?_
    simp only [Act.put, List.setIfInBounds_toArray, List.set_cons_zero, List.set_cons_succ]
    refine anyH_take (i := 8) (v := undef) (some 78) rfl rfl (by kernel_rfl) (by kernel_rfl) (by kernel_rfl) (fun _ _ _ h => h) (Or.inr ⟨by rfl, rfl⟩) (by assumption) ?_
    simp only [Act.put, List.setIfInBounds_toArray, List.set_cons_zero, List.set_cons_succ]
    refine anyH_take (i := 9) (v := undef) (some 79) rfl rfl (by kernel_rfl) (by kernel_rfl) (by kernel_rfl) (fun _ _ _ h => h) (Or.inr ⟨by rfl, rfl⟩) (by assumption) ?_
    simp only [Act.put, List.setIfInBounds_toArray, List.set_cons_zero, List.set_cons_succ]
    refine anyH_take (i := 10) (v := undef) (some 80) rfl rfl (by kernel_rfl) (by kernel_rfl) (by kernel_rfl) (fun _ _ _ h => h) (Or.inr ⟨by rfl, rfl⟩) (by assumption) ?_
    simp only [Act.put, List.setIfInBounds_toArray, List.set_cons_zero, List.set_cons_succ]
    refine anyH_take (i := 11) (v := undef) (some 81) rfl rfl (by kernel_rfl) (by kernel_rfl) (by kernel_rfl) (fun _ _ _ h => h) (Or.inr ⟨by rfl, rfl⟩) (by assumption) ?_
    simp only [Act.put, List.setIfInBounds_toArray, List.set_cons_zero, List.set_cons_succ]
    refine anyH_take (i := 12) (v := .bool true) (some 82) rfl rfl (by kernel_rfl) (by kernel_rfl) (by kernel_rfl) (fun _ _ _ h => h) (Or.inl ⟨by rfl, fun w' hw' => by go_simp⟩) (by assumption) ?_
    simp only [Act.put, List.setIfInBounds_toArray, List.set_cons_zero, List.set_cons_succ]
    refine anyH_take (i := 13) (v := .bool true) (some 4) rfl rfl (by kernel_rfl) (by kernel_rfl) (by kernel_rfl) (fun _ _ _ h => h) (Or.inl ⟨by rfl, fun w' hw' => by rfl⟩) (by assumption) ?_
    simp only [Act.put, List.setIfInBounds_toArray, List.set_cons_zero, List.set_cons_succ]
    refine wpAnyH_done (by kernel_rfl) ?_ _
    clear hHeld hpinf
    go_wp2_with fail
    go_ret
    exact ⟨rfl, hlast⟩
  have q3 : decide (a < (65536 : Int)) = true := by simp; omega
  by_cases c4 : z < 0
  · have q4 : decide ((0 : Int) ≤ z) = false := by simp; omega
    go_wp2_with fail
    refine wp_region_held_drew (S := fun w' => True) (by kernel_rfl) trivial (fun hHeld => ?_)
    refine anyH_take (i := 0) (v := .bool false) (some 70) rfl rfl (by kernel_rfl) (by kernel_rfl) (by kernel_rfl) (fun _ _ _ h => h) (Or.inl ⟨by rfl, fun w' hw' => by rfl⟩) (by assumption) ?_
    simp only [Act.put, List.setIfInBounds_toArray, List.set_cons_zero, List.set_cons_succ]
    refine anyH_take (i := 1) (v := .bool true) (some 71) rfl rfl (by kernel_rfl) (by kernel_rfl) (by kernel_rfl) (fun _ _ _ h => h) (Or.inl ⟨by rfl, fun w' hw' => by go_simp⟩) (by assumption) ?_
    simp only [Act.put, List.setIfInBounds_toArray, List.set_cons_zero, List.set_cons_succ]
    refine anyH_take (i := 2) (v := .bool true) (some 72) rfl rfl (by kernel_rfl) (by kernel_rfl) (by kernel_rfl) (fun _ _ _ h => h) (Or.inl ⟨by rfl, fun w' hw' => by rfl⟩) (by assumption) ?_
    simp only [Act.put, List.setIfInBounds_toArray, List.set_cons_zero, List.set_cons_succ]
    refine anyH_take (i := 3) (v := undef) (some 73) rfl rfl (by kernel_rfl) (by kernel_rfl) (by kernel_rfl) (fun _ _ _ h => h) (Or.inr ⟨by rfl, rfl⟩) (by assumption) ?_
    simp only [Act.put, List.setIfInBounds_toArray, List.set_cons_zero, List.set_cons_succ]
    refine anyH_take (i := 4) (v := undef) (some 74) rfl rfl (by kernel_rfl) (by kernel_rfl) (by kernel_rfl) (fun _ _ _ h => h) (Or.inr ⟨by rfl, rfl⟩) (by assumption) ?_
    simp only [Act.put, List.setIfInBounds_toArray, List.set_cons_zero, List.set_cons_succ]
    refine anyH_take (i := 5) (v := undef) (some 75) rfl rfl (by kernel_rfl) (by kernel_rfl) (by kernel_rfl) (fun _ _ _ h => h) (Or.inr ⟨by rfl, rfl⟩) (by assumption) ?_
    simp only [Act.put, List.setIfInBounds_toArray, List.set_cons_zero, List.set_cons_succ]
    refine anyH_take (i := 6) (v := undef) (some 76) rfl rfl (by kernel_rfl) (by kernel_rfl) (by kernel_rfl) (fun _ _ _ h => h) (Or.inr ⟨by rfl, rfl⟩) (by assumption) ?_
    simp only [Act.put, List.setIfInBounds_toArray, List.set_cons_zero, List.set_cons_succ]
    refine anyH_take (i := 7) (v := undef) (some 77) rfl rfl (by kernel_rfl) (by kernel_rfl) (by kernel_rfl) (fun _ _ _ h => h) (Or.inr ⟨by rfl, rfl⟩) (by assumption) ?_
    simp only [Act.put, List.setIfInBounds_toArray, List.set_cons_zero, List.set_cons_succ]
    refine anyH_take (i := 8) (v := undef) (some 78) rfl rfl (by kernel_rfl) (by kernel_rfl) (by kernel_rfl) (fun _ _ _ h => h) (Or.inr ⟨by rfl, rfl⟩) (by assumption) ?_
    simp only [Act.put, List.setIfInBounds_toArray, List.set_cons_zero, List.set_cons_succ]
    refine anyH_take (i := 9) (v := undef) (some 79) rfl rfl (by kernel_rfl) (by kernel_rfl) (by kernel_rfl) (fun _ _ _ h => h) (Or.inr ⟨by rfl, rfl⟩) (by assumption) ?_
    simp only [Act.put, List.setIfInBounds_toArray, List.set_cons_zero, List.set_cons_succ]
    refine anyH_take (i := 10) (v := undef) (some 80) rfl rfl (by kernel_rfl) (by kernel_rfl) (by kernel_rfl) (fun _ _ _ h => h) (Or.inr ⟨by rfl, rfl⟩) (by assumption) ?_
    simp only [Act.put, List.setIfInBounds_toArray, List.set_cons_zero, List.set_cons_succ]
    refine anyH_take (i := 11) (v := undef) (some 81) rfl rfl (by kernel_rfl) (by kernel_rfl) (by kernel_rfl) (fun _ _ _ h => h) (Or.inr ⟨by rfl, rfl⟩) (by assumption) ?_
    simp only [Act.put, List.setIfInBounds_toArray, List.set_cons_zero, List.set_cons_succ]
    refine anyH_take (i := 12) (v := .bool true) (some 82) rfl rfl (by kernel_rfl) (by kernel_rfl) (by kernel_rfl) (fun _ _ _ h => h) (Or.inl ⟨by rfl, fun w' hw' => by go_simp⟩) (by assumption) ?_
    simp only [Act.put, List.setIfInBounds_toArray, List.set_cons_zero, List.set_cons_succ]
    refine anyH_take (i := 13) (v := .bool true) (some 4) rfl rfl (by kernel_rfl) (by kernel_rfl) (by kernel_rfl) (fun _ _ _ h => h) (Or.inl ⟨by rfl, fun w' hw' => by rfl⟩) (by assumption) ?_
    simp only [Act.put, List.setIfInBounds_toArray, List.set_cons_zero, List.set_cons_succ]
    refine wpAnyH_done (by kernel_rfl) ?_ _
    clear hHeld hpinf
    go_wp2_with fail
    go_ret
    exact ⟨rfl, hlast⟩
  have q4 : decide ((0 : Int) ≤ z) = true := by simp; omega
  by_cases c5 : 65536 < z
  · have q5 : decide (z ≤ (65536 : Int)) = false := by simp; omega
    go_wp2_with fail
    refine wp_region_held_drew (S := fun w' => True) (by kernel_rfl) trivial (fun hHeld => ?_)
    refine anyH_take (i := 0) (v := .bool false) (some 70) rfl rfl (by kernel_rfl) (by kernel_rfl) (by kernel_rfl) (fun _ _ _ h => h) (Or.inl ⟨by rfl, fun w' hw' => by rfl⟩) (by assumption) ?_
    simp only [Act.put, List.setIfInBounds_toArray, List.set_cons_zero, List.set_cons_succ]
    refine anyH_take (i := 1) (v := .bool true) (some 71) rfl rfl (by kernel_rfl) (by kernel_rfl) (by kernel_rfl) (fun _ _ _ h => h) (Or.inl ⟨by rfl, fun w' hw' => by go_simp⟩) (by assumption) ?_
    simp only [Act.put, List.setIfInBounds_toArray, List.set_cons_zero, List.set_cons_succ]
    refine anyH_take (i := 2) (v := .bool true) (some 72) rfl rfl (by kernel_rfl) (by kernel_rfl) (by kernel_rfl) (fun _ _ _ h => h) (Or.inl ⟨by rfl, fun w' hw' => by rfl⟩) (by assumption) ?_
    simp only [Act.put, List.setIfInBounds_toArray, List.set_cons_zero, List.set_cons_succ]
    refine anyH_take (i := 3) (v := undef) (some 73) rfl rfl (by kernel_rfl) (by kernel_rfl) (by kernel_rfl) (fun _ _ _ h => h) (Or.inr ⟨by rfl, rfl⟩) (by assumption) ?_
    simp only [Act.put, List.setIfInBounds_toArray, List.set_cons_zero, List.set_cons_succ]
    refine anyH_take (i := 4) (v := undef) (some 74) rfl rfl (by kernel_rfl) (by kernel_rfl) (by kernel_rfl) (fun _ _ _ h => h) (Or.inr ⟨by rfl, rfl⟩) (by assumption) ?_
    simp only [Act.put, List.setIfInBounds_toArray, List.set_cons_zero, List.set_cons_succ]
    refine anyH_take (i := 5) (v := undef) (some 75) rfl rfl (by kernel_rfl) (by kernel_rfl) (by kernel_rfl) (fun _ _ _ h => h) (Or.inr ⟨by rfl, rfl⟩) (by assumption) ?_
    simp only [Act.put, List.setIfInBounds_toArray, List.set_cons_zero, List.set_cons_succ]
    refine anyH_take (i := 6) (v := undef) (some 76) rfl rfl (by kernel_rfl) (by kernel_rfl) (by kernel_rfl) (fun _ _ _ h => h) (Or.inr ⟨by rfl, rfl⟩) (by assumption) ?_
    simp only [Act.put, List.setIfInBounds_toArray, List.set_cons_zero, List.set_cons_succ]
    refine anyH_take (i := 7) (v := undef) (some 77) rfl rfl (by kernel_rfl) (by kernel_rfl) (by kernel_rfl) (fun _ _ _ h => h) (Or.inr ⟨by rfl, rfl⟩) (by assumption) ?_
    simp only [Act.put, List.setIfInBounds_toArray, List.set_cons_zero, List.set_cons_succ]
    refine anyH_take (i := 8) (v := undef) (some 78) rfl rfl (by kernel_rfl) (by kernel_rfl) (by kernel_rfl) (fun _ _ _ h => h) (Or.inr ⟨by rfl, rfl⟩) (by assumption) ?_
    simp only [Act.put, List.setIfInBounds_toArray, List.set_cons_zero, List.set_cons_succ]
    refine anyH_take (i := 9) (v := undef) (some 79) rfl rfl (by kernel_rfl) (by kernel_rfl) (by kernel_rfl) (fun _ _ _ h => h) (Or.inr ⟨by rfl, rfl⟩) (by assumption) ?_
    simp only [Act.put, List.setIfInBounds_toArray, List.set_cons_zero, List.set_cons_succ]
    refine anyH_take (i := 10) (v := undef) (some 80) rfl rfl (by kernel_rfl) (by kernel_rfl) (by kernel_rfl) (fun _ _ _ h => h) (Or.inr ⟨by rfl, rfl⟩) (by assumption) ?_
    simp only [Act.put, List.setIfInBounds_toArray, List.set_cons_zero, List.set_cons_succ]
    refine anyH_take (i := 11) (v := undef) (some 81) rfl rfl (by kernel_rfl) (by kernel_rfl) (by kernel_rfl) (fun _ _ _ h => h) (Or.inr ⟨by rfl, rfl⟩) (by assumption) ?_
    simp only [Act.put, List.setIfInBounds_toArray, List.set_cons_zero, List.set_cons_succ]
    refine anyH_take (i := 12) (v := .bool true) (some 82) rfl rfl (by kernel_rfl) (by kernel_rfl) (by kernel_rfl) (fun _ _ _ h => h) (Or.inl ⟨by rfl, fun w' hw' => by go_simp⟩) (by assumption) ?_
    simp only [Act.put, List.setIfInBounds_toArray, List.set_cons_zero, List.set_cons_succ]
    refine anyH_take (i := 13) (v := .bool true) (some 4) rfl rfl (by kernel_rfl) (by kernel_rfl) (by kernel_rfl) (fun _ _ _ h => h) (Or.inl ⟨by rfl, fun w' hw' => by rfl⟩) (by assumption) ?_
    simp only [Act.put, List.setIfInBounds_toArray, List.set_cons_zero, List.set_cons_succ]
    refine wpAnyH_done (by kernel_rfl) ?_ _
    clear hHeld hpinf
    go_wp2_with fail
    go_ret
    exact ⟨rfl, hlast⟩
  have q5 : decide (z ≤ (65536 : Int)) = true := by simp; omega
  obtain ⟨f', hf'⟩ : ∃ f' : Nat, f = (f' : Int) := ⟨f.toNat, by omega⟩
  obtain ⟨a', ha'⟩ : ∃ a' : Nat, a = (a' : Int) := ⟨a.toNat, by omega⟩
  obtain ⟨z', hz'⟩ : ∃ z' : Nat, z = (z' : Int) := ⟨z.toNat, by omega⟩
  have hback : R = binB f' a' z' d := by rw [HRr.out, hf', ha', hz']
  have hDL2 : DL = binC (f' : Nat) (a' : Nat) (z' : Nat) d := by rw [HDL.out, hf', ha', hz']
  have hfl : f' ≤ 2147483647 := by omega
  have hal : a' ≤ 65535 := by omega
  have hzl : z' ≤ 65536 := by omega
  rw [hback] at hpinf
  have HDL2 := Lib.hid hDL2
  have hRfd : Arr wf.drew w.heap.size 31 DL := hRf.drewN 1
  have hpfd : PIn wf.drew p2 (binB f' a' z' d) false := hpinf.lowN ⟨Nat.le_refl _, fun _ _ => rfl⟩
  have hbFd : Below B W1 wf.drew := Below.dN hbF 1
  clear hf' ha' hz' hback hDL2 hpinf hRf
  go_wp2_with fail
  refine wp_region_held_drew (S := fun w' => w'.rangeAt w.heap.size 0 DL) (by kernel_rfl) hRfd.rangeN (fun hHeld => ?_)
  refine anyH_take (i := 0) (v := .bool true) (some 70) rfl rfl (by kernel_rfl) (by kernel_rfl) (by kernel_rfl) (fun _ _ _ h => h) (Or.inl ⟨by rfl, fun w' hw' => by rfl⟩) (by assumption) ?_
  simp only [Act.put, List.setIfInBounds_toArray, List.set_cons_zero, List.set_cons_succ]
  refine anyH_take (i := 1) (v := .bool false) (some 71) rfl rfl (by kernel_rfl) (by kernel_rfl) (by kernel_rfl) (fun _ _ _ h => h) (Or.inl ⟨by rfl, fun w' hw' => by go_simp⟩) (by assumption) ?_
  simp only [Act.put, List.setIfInBounds_toArray, List.set_cons_zero, List.set_cons_succ]
  refine anyH_take (i := 2) (v := .bool false) (some 72) rfl rfl (by kernel_rfl) (by kernel_rfl) (by kernel_rfl) (fun _ _ _ h => h) (Or.inl ⟨by rfl, fun w' hw' => by rfl⟩) (by assumption) ?_
  simp only [Act.put, List.setIfInBounds_toArray, List.set_cons_zero, List.set_cons_succ]
  refine anyH_take (i := 3) (v := .pointer (some ⟨p2, 0, none⟩)) (some 73) rfl rfl (by kernel_rfl) (by kernel_rfl) (by kernel_rfl) (fun _ _ _ h => h) (Or.inl ⟨by rfl, fun w' hw' => by rfl⟩) (by assumption) ?_
  simp only [Act.put, List.setIfInBounds_toArray, List.set_cons_zero, List.set_cons_succ]
  refine anyH_take (i := 5) (some 75) rfl rfl (by kernel_rfl) (by kernel_rfl) (by kernel_rfl) (fun _ _ _ h => h) (yieldsIf_load_mid (by rfl) 31 (.tmp 2) rfl w.heap.size 0 rfl DL _ (fun _ h => h) Try.underlying31 rfl HDn.out) (by assumption) ?_
  simp only [Act.put, List.setIfInBounds_toArray, List.set_cons_zero, List.set_cons_succ]
  refine wpAnyH_ready (rs := [4]) (by kernel_rfl) (by simp) ?_
  refine AllReadyH.cons rfl (fun K hK => ?_) AllReadyH.nil
  go_simp
  go_at_call 18
  refine Calls.mono (ntake_back d hd f' a' z' hfl hal hzl DL HDL2.out p2 wf.drew hpfd) ?_
  rintro e wg ⟨rfl, hpg, htg⟩
  have hbG : Below B W1 wg := hbFd.trans (htg.belowN hBf hBp2)
  have hRg : Arr wg w.heap.size 31 DL := hR1.below hbG hwB
  dsimp only
  go_wp2_with fail
  refine hK.out _ _ hRg.rangeN (fun hHeld => ?_)
  clear hK K
  try simp only [Act.put, List.setIfInBounds_toArray, List.set_cons_zero, List.set_cons_succ]
  refine wpAnyH_ready (rs := [6]) (by kernel_rfl) (by simp) ?_
  refine AllReadyH.cons rfl (fun K hK => ?_) AllReadyH.nil
  go_simp
  refine hK.out _ _ hRg.rangeN (fun hHeld => ?_)
  clear hK K
  try simp only [Act.put, List.setIfInBounds_toArray, List.set_cons_zero, List.set_cons_succ]
  refine anyH_take (i := 7) (v := .bool true) (some 77) rfl rfl (by kernel_rfl) (by kernel_rfl) (by kernel_rfl) (fun _ _ _ h => h) (Or.inl ⟨by rfl, fun w' hw' => by rfl⟩) (by assumption) ?_
  simp only [Act.put, List.setIfInBounds_toArray, List.set_cons_zero, List.set_cons_succ]
  refine anyH_take (i := 8) (v := .pointer (some ⟨p2, 0, none⟩)) (some 78) rfl rfl (by kernel_rfl) (by kernel_rfl) (by kernel_rfl) (fun _ _ _ h => h) (Or.inl ⟨by rfl, fun w' hw' => by rfl⟩) (by assumption) ?_
  simp only [Act.put, List.setIfInBounds_toArray, List.set_cons_zero, List.set_cons_succ]
  refine wpAnyH_ready (rs := [9]) (by kernel_rfl) (by simp) ?_
  refine AllReadyH.cons rfl (fun K hK => ?_) AllReadyH.nil
  go_simp
  go_at_call 20
  refine Calls.mono (done_nN p2 [] false 0 wg hpg rfl) ?_
  rintro e wh ⟨rfl, rfl⟩
  dsimp only
  go_wp2_with fail
  refine hK.out _ _ hRg.rangeN (fun hHeld => ?_)
  clear hK K
  try simp only [Act.put, List.setIfInBounds_toArray, List.set_cons_zero, List.set_cons_succ]
  refine anyH_take (i := 10) (v := .bool true) (some 80) rfl rfl (by kernel_rfl) (by kernel_rfl) (by kernel_rfl) (fun _ _ _ h => h) (Or.inl ⟨by rfl, fun w' hw' => by go_simp⟩) (by assumption) ?_
  simp only [Act.put, List.setIfInBounds_toArray, List.set_cons_zero, List.set_cons_succ]
  refine anyH_take (i := 11) (v := .bool true) (some 81) rfl rfl (by kernel_rfl) (by kernel_rfl) (by kernel_rfl) (fun _ _ _ h => h) (Or.inl ⟨by rfl, fun w' hw' => by go_simp⟩) (by assumption) ?_
  simp only [Act.put, List.setIfInBounds_toArray, List.set_cons_zero, List.set_cons_succ]
  refine anyH_take (i := 12) (v := .bool true) (some 82) rfl rfl (by kernel_rfl) (by kernel_rfl) (by kernel_rfl) (fun _ _ _ h => h) (Or.inl ⟨by rfl, fun w' hw' => by go_simp⟩) (by assumption) ?_
  simp only [Act.put, List.setIfInBounds_toArray, List.set_cons_zero, List.set_cons_succ]
  refine anyH_take (i := 13) (v := .bool true) (some 4) rfl rfl (by kernel_rfl) (by kernel_rfl) (by kernel_rfl) (fun _ _ _ h => h) (Or.inl ⟨by rfl, fun w' hw' => by rfl⟩) (by assumption) ?_
  simp only [Act.put, List.setIfInBounds_toArray, List.set_cons_zero, List.set_cons_succ]
  refine wpAnyH_done (by kernel_rfl) ?_ _
  have hfin : Below w.heap.size w wh := hb1.trans (hbG.mono (Nat.le_of_lt hwB))
  clear hHeld hpg htg hRg hbG
  go_wp2_with fail
  go_ret
  exact ⟨rfl, hfin⟩

theorem bin_codes_walk (d : List UInt8) (f a z : Int) (hd : d.length = 32) (hf0 : -9223372036854775808 ≤ f) (hf1 : f ≤ 9223372036854775807) (ha0 : -9223372036854775808 ≤ a) (ha1 : a ≤ 9223372036854775807) (hz0 : -9223372036854775808 ≤ z) (hz1 : z ≤ 9223372036854775807)
    (A : Option Addr) (c : Nat) (bs : List UInt8) (hnc : bs.length ≤ c) (hcm : c ≤ maxLen) (w : World) (hA : Bs w w.heap.size A bs) :
    Calls Try.prog 4 #[.agg (binC f a z d).toArray, .slice A bs.length c] w fun e w' => e = .returned (.bool true) ∧ Below w.heap.size w w' := by
  by_cases h : 300 < bs.length
  · exact bcodes_great _ A _ c w h
  · exact bcodes_in d hd f a z _ rfl A bs.length c bs rfl hnc hcm w hA (by omega) hf0 hf1 ha0 ha1 hz0 hz1


end Go.Proofs.Ytccccpadnaocfaa

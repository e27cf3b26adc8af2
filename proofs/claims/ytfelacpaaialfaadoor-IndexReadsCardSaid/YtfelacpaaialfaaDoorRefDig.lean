/-
  Digest of the document's own In.
-/
import Derived.Test.YtfelacpaaialfaaDoorDig
import Derived.Test.YtfelacpaaialfaaDoorRefRest
namespace Go.Proofs.YtfelacpaaialfaaDoor
open Go.RowKit
set_option linter.unusedVariables false

def rdF (L : List UInt8) (o : Nat) (wr : Bool) : List UInt8 := (takeF 32 L o wr).1 ++ zeros.drop (takeF 32 L o wr).1.length

def RDigPost (q : Nat) (L : List UInt8) (A : Option Addr) (c o : Nat) (wr : Bool) (w : World) (e : Ending) (w' : World) : Prop :=
  e = .returned (digV (rdF L o wr)) ∧ RIn w' q L A c (takeF 32 L o wr).2.1 (takeF 32 L o wr).2.2 ∧ Turn q w w'

theorem takeF_length (n : Nat) (L : List UInt8) (o : Nat) (wr : Bool) : (takeF n L o wr).1.length ≤ n := by
  unfold takeF
  split
  · simp
  · simp only [List.length_take]; omega

/-- The array behind k rounds. -/
def rowK (r : List UInt8) (k : Nat) : List Value := (Lib.byteCells r).take k ++ (Lib.byteCells zeros).drop k

theorem rowK_length {r : List UInt8} {k : Nat} (hk : k ≤ r.length) (hr : r.length ≤ 32) : (rowK r k).length = 32 := by
  unfold rowK
  rw [List.length_append, List.length_take, List.length_drop, zl, Lib.byteCells_length]
  omega

theorem rowK_get {r : List UInt8} {k : Nat} (hk : k < r.length) (hr : r.length ≤ 32) : (rowK r k)[k]? = some (.int .u8 0) := by
  unfold rowK
  have hl : ((Lib.byteCells r).take k).length = k := by rw [List.length_take, Lib.byteCells_length]; omega
  rw [List.getElem?_append_right (by omega), hl, Nat.sub_self, List.getElem?_drop]
  have : (Lib.byteCells zeros)[k + 0]? = some (.int .u8 ((zeros.getD k 0).toNat : Nat)) := byteCells_get (by simp [zeros]; omega)
  rw [this]
  have hz0 : zeros.getD k 0 = 0 := by
    unfold zeros
    simp only [List.getD, List.getElem?_replicate]
    split <;> rfl
  rw [hz0]
  rfl

theorem rowK_set {r : List UInt8} {k x : Nat} (hk : k < r.length) (hr : r.length ≤ 32) (hx : (r.getD k 0).toNat = x) : (rowK r k).set k (.int .u8 x) = rowK r (k + 1) := by
  have hl : ((Lib.byteCells r).take k).length = k := by rw [List.length_take, Lib.byteCells_length]; omega
  have hz : k < (Lib.byteCells zeros).length := by rw [zl]; omega
  have hkr : k < (Lib.byteCells r).length := by rw [Lib.byteCells_length]; omega
  unfold rowK
  rw [List.set_append_right _ _ (by omega), hl, Nat.sub_self, List.drop_eq_getElem_cons hz, List.set_cons_zero, List.take_succ_eq_append_getElem hkr, List.append_assoc]
  congr 2
  have h1 := byteCells_get hk
  rw [List.getElem?_eq_getElem hkr, hx] at h1
  injection h1 with h1
  rw [h1]

theorem Wrote.cell {g i : Nat} {w : World} {v : Value} : Wrote g w (w.setCell ⟨g, i, none⟩ v) :=
  ⟨⟨rfl, rfl, rfl, by simp [World.setCell], fun k _ hk => Below.heap_setCell w _ v k (fun e => hk (by rw [e]))⟩, by simp [World.setCell]⟩

set_option maxHeartbeats 8000000 in
set_option maxRecDepth 100000 in
theorem rdigest_in (q : Nat) (L : List UInt8) (A : Option Addr) (c o : Nat) (wb : Bool) (w : World) (h : RIn w q L A c o wb) (hf : RFix w q L A c) (ho : o ≤ L.length) :
    Calls Tryd.prog 23 #[.pointer (some ⟨q, 0, none⟩)] w (RDigPost q L A c o wb w) := by
  have hq := h.lt
  obtain ⟨Z, hZ⟩ : ∃ Z : Array Value, Z = (Lib.byteCells zeros).toArray := ⟨_, rfl⟩
  have hZs : Z.size = 32 := by rw [hZ]; simp [Lib.byteCells, zeros]
  have hZi : (Tryd.prog.info? 39).map (·.size) = some Z.size := by rw [hZs]; exact digInfo
  have hZ1 : Z.all (·.oneCell') = true := by rw [hZ]; simpa using byteCells_one zeros
  obtain ⟨W, hW⟩ : ∃ W, W = ((w.alloc (.cells Z 39)).alloc (.cells Z 39)).setRow (w.heap.size + 1) Z := ⟨_, rfl⟩
  have hD0 : ((w.alloc (.cells Z 39)).alloc (.cells Z 39)).heap[w.heap.size + 1]? = some (.cells Z 39 (0, 0)) := by
    have := heap_alloc_new (w.alloc (.cells Z 39)) (.cells Z 39)
    simpa using this
  have hWs : W.heap.size = w.heap.size + 2 := by rw [hW]; simp
  have hWD : W.heap[w.heap.size + 1]? = some (.cells Z 39 (0, 0)) := by rw [hW]; exact setRow_heap _ _ _ _ _ _ hD0
  have hWR : W.heap[w.heap.size]? = some (.cells Z 39 (0, 0)) := by
    rw [hW, setRow_other _ _ _ _ (by omega), Below.heap_alloc _ _ _ (by simp)]; exact heap_alloc_new w _
  have hWt : Turn q w W := by
    rw [hW]
    exact (((Turn.refl q w).alloc _).alloc _).fresh (Wrote.set _ _ _) (by omega)
  have hWh : RIn W q L A c o wb := by
    have hb : Below w.heap.size w W := by
      rw [hW]
      exact (((Below.refl _ w).alloc (Nat.le_refl _) _).alloc (by simp) _).trans ((Wrote.set _ _ _).1 |> fun hg => (Below.refl _ _).grown hg (by simp; omega) (fun k e => by injection e with e; omega))
    exact (hb.block q hq).trans h
  have hWf : RFix W q L A c := hf.turn hWt hq
  have HW := Lib.hid hW
  have HD0 := Lib.hid hD0
  have HZ := Lib.hid hZ
  have HZs := Lib.hid hZs
  have HZi := Lib.hid hZi
  have HZ1 := Lib.hid hZ1
  have HWD := Lib.hid hWD
  have HWR := Lib.hid hWR
  clear hW hD0 hZs hZi hZ1 hWD hWR h hf
  subst hZ
  go_enter Tryd.func23, Tryd.ntmps23
  go_wp2_with (refine wpList_store_row rfl _ _ _ rfl (w.heap.size + 1) (Lib.byteCells zeros).toArray rfl rfl 39 (Lib.byteCells zeros).toArray HD0.out HZi.out rfl HZ1.out ?_
               change wpList _ _ _ _ _ (((w.alloc (.cells (Lib.byteCells zeros).toArray 39)).alloc (.cells (Lib.byteCells zeros).toArray 39)).setRow (w.heap.size + 1) (Lib.byteCells zeros).toArray)
               rw [← HW.out])
  refine (take_in q 32 L A c o wb W hWh hWf ho (by omega)).mono ?_
  rintro e w1 ⟨v, rfl, hown, hR1, ht1⟩
  have hrl := takeF_length 32 L o wb
  obtain ⟨x, hx⟩ : ∃ x, takeF 32 L o wb = x := ⟨_, rfl⟩
  rw [hx] at hown hR1 hrl
  have Hx := Lib.hid hx
  clear hx
  obtain ⟨r, o1, wr1⟩ := x
  simp only at hown hR1 hrl
  have hs1 : w.heap.size + 2 ≤ w1.heap.size := by have := ht1.size; omega
  have hlt := hown.lt
  obtain ⟨A3, c3, rfl, h31, h32, hbs⟩ := hown.slice
  have hD1 : Hid (w1.heap[w.heap.size + 1]? = some (.cells (rowK r 0).toArray 39 (0, 0))) := by
    show _ = _
    have e0 : rowK r 0 = Lib.byteCells zeros := by simp [rowK]
    rw [ht1.block (w.heap.size + 1) (by omega) (fun e => by injection e with e; omega), e0]
    exact HWD.out
  have hR1' : Hid (w1.heap[w.heap.size]? = some (.cells (Lib.byteCells zeros).toArray 39 (0, 0))) :=
    (ht1.block w.heap.size (by omega) (fun e => by injection e with e; omega)).trans HWR.out
  have hown2 := Lib.hid hown
  have hl63 : r.length ≤ 9223372036854775807 := by omega
  have Hlt := Lib.hid hlt
  clear hlt hown
  go_wp2_with fail
  go_loopw [5] (fun i wr => ∃ k : Nat, i = .int .i64 k ∧ k ≤ r.length ∧ Hid (wr.heap[w.heap.size + 1]? = some (.cells (rowK r k).toArray 39 (0, 0))) ∧ Wrote (w.heap.size + 1) w1 wr) (fun i _ => r.length - (intOf i).toNat)
  case atStart => exact ⟨0, rfl, Nat.zero_le _, hD1, Wrote.refl _ _⟩
  case round =>
    obtain ⟨k, rfl, hk, hrow, hw⟩ := hrel
    have hws := hw.2
    by_cases hkl : k < r.length
    · have hA3 : Bs wr w1.heap.size A3 r := by
        have := hown2.out.apart hw.1 (fun j hj e => by have := (Hlt.out j hj).1; injection e with e; omega)
        rw [← hws]
        exact this.bs.2
      obtain ⟨b, off, x, rfl, hb, hc, hx, Hxx⟩ := hA3.at_ hkl
      have hcell : wr.cell? ⟨w.heap.size + 1, k, none⟩ = some (.int .u8 0) := by
        rw [cell_of_row wr (w.heap.size + 1) k _ _ (0, 0) hrow.out]
        simpa using rowK_get hkl hrl
      have hfz : wr.frozen? ⟨w.heap.size + 1, k, none⟩ = false := frozen_of_row wr _ _ _ _ hrow.out
      have hnew : Hid ((wr.setCell ⟨w.heap.size + 1, k, none⟩ (.int .u8 x)).heap[w.heap.size + 1]? = some (.cells (rowK r (k + 1)).toArray 39 (0, 0))) := by
        show _ = _
        rw [heap_setCell_same wr (w.heap.size + 1) k _ _ _ hrow.out, ← rowK_set hkl hrl Hxx.out]
        simp
      have hk32 : (k : Int) < 32 := by omega
      go_wp2_with fail
      go_roundw
      case rel => exact ⟨k + 1, by go_num, by omega, hnew, hw.trans Wrote.cell⟩
      case measure => simp [intOf]; omega
    · obtain rfl : k = r.length := by omega
      obtain ⟨DV, hDV⟩ : ∃ DV, DV = (rowK r r.length).toArray := ⟨_, rfl⟩
      have hDs : DV.size = 32 := by rw [hDV]; simpa using rowK_length (Nat.le_refl _) hrl
      have HDs := Lib.hid hDs
      have HDi := Lib.hid (show (Tryd.prog.info? 39).map (·.size) = some DV.size by rw [hDs]; exact digInfo)
      have hDb : DV = (Lib.byteCells (r ++ zeros.drop r.length)).toArray := by
        rw [hDV, Lib.byteCells_append]
        unfold rowK
        rw [List.take_of_length_le (by rw [Lib.byteCells_length]; exact Nat.le_refl _)]
        simp [Lib.byteCells]
      have HDb := Lib.hid hDb
      have HD1 := Lib.hid (show DV.all (·.oneCell') = true by rw [hDb]; simpa using byteCells_one (r ++ zeros.drop r.length))
      have hD2 : Hid (wr.heap[w.heap.size + 1]? = some (.cells DV 39 (0, 0))) := by
        show _ = _
        rw [hDV]; exact hrow.out
      have hR2 : Hid (wr.heap[w.heap.size]? = some (.cells (Lib.byteCells zeros).toArray 39 (0, 0))) :=
        (hw.1.block w.heap.size (by omega) (fun e => by injection e with e; omega)).trans hR1'.out
      have Hzs := Lib.hid (show (Lib.byteCells zeros).toArray.size = DV.size by rw [hDs]; simp [Lib.byteCells, zeros])
      have hset : Hid ((wr.setRow w.heap.size DV).heap[w.heap.size]? = some (.cells DV 39 (0, 0))) := setRow_heap wr w.heap.size _ DV _ _ hR2.out
      clear hDV hDs hDb hk hkl
      go_wp2_with (first
        | (refine wpList_load_row rfl _ _ rfl (w.heap.size + 1) rfl 39 DV (0, 0) _ hD2.out Tryd.underlying39 rfl HDi.out ?_)
        | (refine wpList_store_row rfl _ _ _ rfl w.heap.size DV rfl rfl 39 _ hR2.out HDi.out Hzs.out HD1.out ?_))
      refine bodyPost_ret (v := .agg DV) (results_cell_row (by rfl) _ _ w.heap.size 39 DV (0, 0) _ (by rfl) hset.out Tryd.underlying39 rfl HDi.out) rfl ?_
      have hT : Turn q w w1 := hWt.trans ht1
      refine ⟨by unfold digV rdF; rw [Hx.out, HDb.out], ?_, (hT.fresh hw (by omega)).fresh (Wrote.set w.heap.size wr DV) (Nat.le_refl _)⟩
      rw [Hx.out]
      have e1 := (Wrote.set w.heap.size wr DV).1.block q (by omega) (fun e => by injection e with e; omega)
      have e2 := hw.1.block q (by omega) (fun e => by injection e with e; omega)
      exact e1.trans (e2.trans hR1)

end Go.Proofs.YtfelacpaaialfaaDoor

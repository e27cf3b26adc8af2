/-
  Sum: the digest of bytes.
-/
import Derived.Test.YtlfddijmanlneaaMixed
import Derived.Test.YtlfddijmanlneaaNumbers
import Derived.Test.YtlfddijmanlneaaFill
import Derived.Test.YtlfddijmanlneaaDig0
namespace Go.Proofs.Ytlfddijmanlneaa
open Go.RowKit
set_option linter.unusedVariables false

/-- A whole array is read, at the head of a region that draws its order. -/
theorem wpStill_load_row {P : Program} {ops : Array Oper} {w : World} {Q : Act → Prop} {a : Act} {o : Oper} {rest : List Oper} (hgd : o.guard = none) (ty : TypeId) (x : Operand) (ho : o.op = .load ty x) (g : Nat) (hx : a.eval x = .pointer (some ⟨g, 0, none⟩))
    (t : TypeId) (cs : Array Value) (d : TypeDesc) (hg : w.heap[g]? = some (.cells cs t (0, 0))) (hu : P.underlying ty = some d) (hd : (match d with | .struct _ | .array _ _ => true | _ => false) = true) (hi : (P.info? ty).map (·.size) = some cs.size)
    (h : wpStill P ops w Q rest (a.put o.dst (.agg cs))) : wpStill P ops w Q (o :: rest) a :=
  wpStill_step fun K hK => by
    rw [if_pos (by simp [Region.wanted, hgd])]
    unfold Oper.still execOp
    simp only [ho, hx, Sem.run_bind, run_loadAt_row w g t ty cs d hg hu hd hi, Result.andThen_ok, Sem.run_pure]
    exact ⟨rfl, hK _ h⟩

theorem run_index_word (h : List Nat) (i : Nat) (hi : i < 8) (hl : h.length = 8) (w : World) :
    (Instr.index 118 (.agg (wordCells h).toArray) (.int .i64 (i : Nat))).run Try.prog w = .ok (.int .u32 (h.getD i 0 : Nat)) w := by
  have hg : (wordCells h)[i]? = some (.int .u32 (h.getD i 0 : Nat)) := wordCells_get (by omega)
  have hu := Try.underlying118
  have hs : (sizeOf 115).run Try.prog w = .ok 1 w := by kernel_rfl
  simp [Instr.index, asIntOf, run_underlying hu, part, hs, hg]
  intro h8
  omega

theorem fill_at (l : List UInt8) (n : Nat) (hn : l.length = n) (A : Option Addr) (c : Nat) (w : World) (hb : Bs w w.heap.size A l) (hc : n ≤ c) (hm : n ≤ 140737488355000) :
    Calls Try.prog 81 #[.slice A n c] w (FillPost l w) := by subst hn; exact fill_any l A c w hb hc hm

/-- The loop over chunks: what is left, and the state. -/
def ChunkRel (L : List UInt8) (n : Nat) (h0 : List Nat) (g B : Nat) (W : World) (v : Value) (wr : World) : Prop :=
  ∃ m A c, 64 * m ≤ n ∧ v = .slice A (n - 64 * m) c ∧ n - 64 * m ≤ c ∧ c ≤ maxLen ∧ BsX wr g B A (L.drop (64 * m)) ∧ Arr wr g 118 (wordCells (hashF roundL m h0 L)) ∧ Only (fun k => k = g) W wr

theorem roundLs_fit : Fit roundL := by
  have h : (roundL.all fun x => decide (x < 4294967296)) = true := by kernel_rfl
  intro x hx
  exact of_decide_eq_true (List.all_eq_true.1 h x hx)
theorem beginLs_fit : Fit beginL := by
  have h : (beginL.all fun x => decide (x < 4294967296)) = true := by kernel_rfl
  intro x hx
  exact of_decide_eq_true (List.all_eq_true.1 h x hx)

def SumPost (l : List UInt8) (w : World) (e : Ending) (w' : World) : Prop :=
  e = .returned (digV (shaF l)) ∧ Below w.heap.size w w'

set_option maxHeartbeats 8000000 in
set_option maxRecDepth 100000 in
theorem sum_any (l : List UInt8) (A : Option Addr) (c n : Nat) (w : World) (hn : l.length = n) (hb : Bs w w.heap.size A l) (hc : n ≤ c) (hcm : c ≤ maxLen) (hm : n ≤ 140737488355000) :
    Calls Try.prog 74 #[.slice A n c] w (SumPost l w) := by
  obtain ⟨W0, hW0⟩ : ∃ W0, W0 = w.alloc (.cells (Lib.byteCells zeros).toArray 24) := ⟨_, rfl⟩
  have hW0s : W0.heap.size = w.heap.size + 1 := by rw [hW0]; simp
  have hR0 : Arr W0 w.heap.size 24 (Lib.byteCells zeros) := by rw [hW0]; exact Arr.new w _ _
  have hW0b : Below w.heap.size w W0 := by rw [hW0]; exact (Below.refl _ w).alloc (Nat.le_refl _) _
  have HW0 := Lib.hid hW0
  clear hW0
  have Hn := Lib.hid hn
  clear hn
  have hbn : l.length = n := Hn.out
  have zl8 : (wordCells zeros8).toArray.size = 8 := by simp [wordCells_length, zeros8]
  have zl64 : (wordCells zeros64).toArray.size = 64 := by simp [wordCells_length, zeros64]
  obtain ⟨HV, hHV⟩ : ∃ V, V = (wordCells beginL).toArray := ⟨_, rfl⟩
  obtain ⟨KV, hKV⟩ : ∃ V, V = (wordCells roundL).toArray := ⟨_, rfl⟩
  have sHV : HV.size = 8 := by rw [hHV]; simp [wordCells_length, lenHn]
  have sKV : KV.size = 64 := by rw [hKV]; simp [wordCells_length, lenKn]
  have HiH := Lib.hid (show (Try.prog.info? 118).map (·.size) = some HV.size by rw [sHV]; exact sizeS)
  have HiK := Lib.hid (show (Try.prog.info? 119).map (·.size) = some KV.size by rw [sKV]; exact sizeW)
  have HoH := Lib.hid (show HV.all (·.oneCell') = true by rw [hHV]; simpa using wordCells_one beginL)
  have HoK := Lib.hid (show KV.all (·.oneCell') = true by rw [hKV]; simpa using wordCells_one roundL)
  have HzH := Lib.hid (show (wordCells zeros8).toArray.size = HV.size by rw [sHV, zl8])
  have HzK := Lib.hid (show (wordCells zeros64).toArray.size = KV.size by rw [sKV, zl64])
  have HHV := Lib.hid hHV
  have HKV := Lib.hid hKV
  clear sHV sKV zl8 zl64 hbn
  go_enter Try.func74, Try.ntmps74
  go_wp2_with fail
  change Calls _ _ _ (w.alloc (.cells (Lib.byteCells zeros).toArray 24)) _
  rw [← HW0.out]
  refine (numbers_any _).mono ?_
  rintro e w1 ⟨rfl, hb1⟩
  rw [← hHV, ← hKV]
  clear hHV hKV
  have hs1 := hb1.size
  have n1 := heap_alloc2_old w1 (.cells (wordCells zeros8).toArray 118) (.cells (wordCells zeros64).toArray 119)
  have n2 : (((w1.alloc (.cells (wordCells zeros8).toArray 118)).alloc (.cells (wordCells zeros64).toArray 119)).setRow w1.heap.size HV).heap[w1.heap.size + 1]? = some (.cells (wordCells zeros64).toArray 119 (0, 0)) := by
    rw [setRow_other _ _ _ _ (by omega)]; exact heap_alloc2_new _ _ _
  have N1 := Lib.hid n1
  have N2 := Lib.hid n2
  clear n1 n2
  go_wp2_with (first
    | (refine wpList_store_row rfl _ _ _ rfl w1.heap.size HV rfl rfl 118 (wordCells zeros8).toArray N1.out HiH.out HzH.out HoH.out ?_)
    | (refine wpList_store_row rfl _ _ _ rfl (w1.heap.size + 1) KV rfl rfl 119 (wordCells zeros64).toArray N2.out HiK.out HzK.out HoK.out ?_))
  obtain ⟨W2, hW2⟩ : ∃ W2, W2 = (((w1.alloc (.cells (wordCells zeros8).toArray 118)).alloc (.cells (wordCells zeros64).toArray 119)).setRow w1.heap.size HV).setRow (w1.heap.size + 1) KV := ⟨_, rfl⟩
  change Calls _ _ _ ((((w1.alloc (.cells (wordCells zeros8).toArray 118)).alloc (.cells (wordCells zeros64).toArray 119)).setRow w1.heap.size HV).setRow (w1.heap.size + 1) KV) _
  rw [← hW2]
  have hW2s : W2.heap.size = w1.heap.size + 2 := by rw [hW2]; simp
  have hW2b : Below w1.heap.size w1 W2 := by
    rw [hW2]
    have h1 : Only (fun k => w1.heap.size ≤ k) w1 _ := ((((Only.refl (fun k => w1.heap.size ≤ k) w1).alloc (.cells (wordCells zeros8).toArray 118)).alloc (.cells (wordCells zeros64).toArray 119)).setRow (g := w1.heap.size) (.inl (Nat.le_refl _)) HV).setRow (g := w1.heap.size + 1) (.inl (by simp)) KV
    exact h1.below (Nat.le_refl _) (fun k hk => hk)
  have hS2 : Arr W2 w1.heap.size 118 (wordCells beginL) := by
    rw [hW2]; unfold Arr; rw [← HHV.out, setRow_other _ _ _ _ (by omega)]; exact setRow_heap _ _ _ _ _ _ N1.out
  have hK2 : Arr W2 (w1.heap.size + 1) 119 (wordCells roundL) := by
    rw [hW2]; unfold Arr; rw [← HKV.out]; exact setRow_heap _ _ _ _ _ _ N2.out
  have hR2 : Arr W2 w.heap.size 24 (Lib.byteCells zeros) := (hR0.below hb1 (by omega)).below hW2b (by omega)
  have hbW2 : Below w.heap.size w W2 := (hW0b.trans (hb1.mono (by omega))).trans (hW2b.mono (by omega))
  have hbs2 : Bs W2 w.heap.size A l := hb.below hbW2 (Nat.le_refl _)
  obtain ⟨g3, hg3⟩ : ∃ g, g = w1.heap.size := ⟨_, rfl⟩
  rw [← hg3] at hS2 hK2 ⊢
  have hq1 : w.heap.size + 1 ≤ g3 := by omega
  have hq3 : W2.heap.size = g3 + 2 := by omega
  clear hW2 hW2s hW2b hR0 hb hb1 HW0 hW0b hW0s N1 N2 hg3 hs1 HzH HzK
  refine (fill_at l n Hn.out A c W2 (hbs2.more (by omega)) hc hm).mono ?_
  rintro e w3 ⟨A3, c3, rfl, h31, h32, hbl, hbl2, hb3⟩
  obtain ⟨q, hq⟩ : ∃ q, (lastF l).length = q := ⟨_, rfl⟩
  rw [hq] at h31 ⊢
  have hs3 := hb3.size
  have hS3 := hS2.below hb3 (by omega)
  have hK3 := hK2.below hb3 (by omega)
  have hR3 := hR2.below hb3 (by omega)
  have hb33 : Below w.heap.size w w3 := hbW2.trans (hb3.mono (by omega))
  have hbs3 : BsX w3 g3 w3.heap.size A l := BsX.of (hbs2.below hb3 (by omega)) (by omega) (by omega)
  have hbl3 : BsX w3 g3 w3.heap.size A3 (lastF l) := fun hn => by
    obtain ⟨b, off, e, hb, hc⟩ := hbl hn
    have h2 := hbl2 _ e
    exact ⟨b, off, e, hb, fun e3 => by subst e3; simp at h2; omega, hc⟩
  have Hq := Lib.hid hq
  have hg3w : g3 + 2 ≤ w3.heap.size := by omega
  clear hq hS2 hK2 hR2 hbW2 hbs2 hb3 hs3 hq3 hbl hbl2
  go_wp2_with fail
  go_loopw [0] (fun v wr => ChunkRel l n beginL g3 w3.heap.size w3 v wr) (fun v _ => sliceLen v)
  case atStart => exact ⟨0, A, c, by omega, rfl, by omega, hcm, by simpa using hbs3, hS3, Only.refl _ _⟩
  case round =>
    obtain ⟨m, A', c', hm1, rfl, hc1, hc2, hbr, hAr, hor⟩ := hrel
    have hdl : (l.drop (64 * m)).length = n - 64 * m := by rw [List.length_drop, Hn.out]
    have hsn := hashF_snoc roundL m beginL l
    have hhl := hashF_length (ks := roundL) m l lenHn
    have hhf := hashF_fit (ks := roundL) m l beginLs_fit
    obtain ⟨H, hH⟩ : ∃ H, hashF roundL m beginL l = H := ⟨_, rfl⟩
    rw [hH] at hAr hsn hhl hhf
    obtain ⟨r, hr⟩ : ∃ r, n - 64 * m = r := ⟨_, rfl⟩
    rw [hr] at hdl hc1 ⊢
    by_cases hlt : 64 ≤ r
    · have hK : Arr wr (g3 + 1) 119 (wordCells roundL) := hK3.only hor (by simp)
      have hsz := hor.size
      have hbt : Bs wr wr.heap.size A' ((l.drop (64 * m)).take 64) := (hbr.bs.upto 64).more (by omega)
      have htl : ((l.drop (64 * m)).take 64).length = 64 := by rw [List.length_take]; omega
      have hsl : ∀ w, (Instr.sliceAt 33 (.slice A' r c') none (some (.int .i64 64)) none).run Try.prog w = .ok (.slice A' 64 c') w := fun w => run_upto 33 underB sizeB A' r c' 64 .i64 64 rfl (by omega) w
      have hfr : ∀ w, (Instr.sliceAt 33 (.slice A' r c') (some (.int .i64 64)) none none).run Try.prog w = .ok (.slice (cutA A' c' 64) (r - 64) (c' - 64)) w := fun w => run_from 33 underB sizeB A' r c' 64 .i64 64 rfl (by omega) w
      have hcut : BsX wr g3 w3.heap.size (cutA A' c' 64) (l.drop (64 * (m + 1))) := by
        have := hbr.cutA (k := 64) (c := c') (by omega) (by omega)
        rw [List.drop_drop] at this
        rw [show 64 * (m + 1) = 64 * m + 64 from by omega]
        exact this
      obtain ⟨V1, hV1⟩ : ∃ V, V = (wordCells H).toArray := ⟨_, rfl⟩
      have sV1 : V1.size = 8 := by rw [hV1]; simp [wordCells_length, hhl]
      have Hi1 := Lib.hid (show (Try.prog.info? 118).map (·.size) = some V1.size by rw [sV1]; exact sizeS)
      have hA1 : wr.heap[g3]? = some (.cells V1 118 (0, 0)) := by rw [hV1]; exact hAr
      obtain ⟨M, hM⟩ : ∃ M, mixF roundL H ((l.drop (64 * m)).take 64) = M := ⟨_, rfl⟩
      have hMl : M.length = 8 := by rw [← hM]; exact mixF_length _ _ _
      rw [hM] at hsn
      obtain ⟨V2, hV2⟩ : ∃ V, V = (wordCells M).toArray := ⟨_, rfl⟩
      have sV2 : V2.size = 8 := by rw [hV2]; simp [wordCells_length, hMl]
      have Hi2 := Lib.hid (show (Try.prog.info? 118).map (·.size) = some V2.size by rw [sV2]; exact sizeS)
      have Ho2 := Lib.hid (show V2.all (·.oneCell') = true by rw [hV2]; simpa using wordCells_one M)
      have Hz2 := Lib.hid (show V1.size = V2.size by rw [sV1, sV2])
      have HV1 := Lib.hid hV1
      have HV2 := Lib.hid hV2
      have HA1 := Lib.hid hA1
      have HM := Lib.hid hM
      have HH := Lib.hid hH
      have Hsn := Lib.hid hsn
      have Hdl := Lib.hid hdl
      have Hr := Lib.hid hr
      have Hhl := Lib.hid hhl
      have Htl := Lib.hid htl
      have Hhf := Lib.hid hhf
      clear hV1 hV2 hA1 hM hH hsn hdl hr hhl htl hhf sV1 sV2 hMl hAr hbr
      go_wp2_with fail
      refine wp_region_still_tail 3 (by kernel_rfl) (by kernel_rfl) ?_
      simp only [List.take_succ_cons, List.take_zero, List.drop_succ_cons, List.drop_zero]
      change wpStill _ _ wr.drew (fun a' => wpList _ _ _ _ a' wr.drew) _ _
      refine wpStill_load_row rfl _ _ rfl g3 rfl 118 V1 _ (by exact HA1.out) Try.underlying118 rfl Hi1.out ?_
      repeat still_step
      refine wpStill_nil ?_
      obtain ⟨wq, hwq⟩ : ∃ wq, wq = wr.drew := ⟨_, rfl⟩
      rw [← hwq]
      have hKq : Arr wq (g3 + 1) 119 (wordCells roundL) := by rw [hwq]; exact hK
      have hbq : Bs wq wq.heap.size A' ((l.drop (64 * m)).take 64) := by rw [hwq]; exact hbt
      have hAq : Hid (wq.heap[g3]? = some (.cells V1 118 (0, 0))) := by rw [hwq]; exact HA1
      have hoq : Only (fun k => k = g3) w3 wq := by rw [hwq]; exact hor.trans ⟨rfl, rfl, rfl, Nat.le_refl _, fun _ _ _ => rfl⟩
      have hcq : BsX wq g3 w3.heap.size (cutA A' c' 64) (l.drop (64 * (m + 1))) := by rw [hwq]; exact hcut
      clear hwq hK hbt hor hcut
      go_wp2_with (first
        | (go_at_call 82; rw [HV1.out]; refine Calls.mono (mixed_any roundL H ((l.drop (64 * m)).take 64) A' c' (g3 + 1) wq Hhl.out Hhf.out lenKn roundLs_fit hKq Htl.out hbq) ?_; rintro e w5 ⟨rfl, hb5⟩; rw [HM.out, ← HV2.out]; have hA5 : Hid (w5.heap[g3]? = some (.cells V1 118 (0, 0))) := Lib.hid ((hb5.block g3 (by have := hoq.size; omega)).trans hAq.out))
        | (refine wpList_store_row rfl _ _ _ rfl g3 V2 rfl rfl 118 V1 hA5.out Hi2.out Hz2.out Ho2.out ?_))
      have hon : Only (fun k => k = g3) w3 (w5.setRow g3 V2) := (hoq.step hb5).setRow (.inl rfl) V2
      have hAn : Arr (w5.setRow g3 V2) g3 118 (wordCells M) := by
        unfold Arr; rw [← HV2.out]; exact setRow_heap _ _ _ _ _ _ hA5.out
      have hbn : BsX (w5.setRow g3 V2) g3 w3.heap.size (cutA A' c' 64) (l.drop (64 * (m + 1))) :=
        hcq.keep fun b hlt hne => (setRow_other w5 g3 b V2 hne).trans (hb5.block b (by have := hoq.size; omega))
      go_roundw
      case rel => exact ⟨m + 1, cutA A' c' 64, c' - 64, by have := Hr.out; omega, by rw [show n - 64 * (m + 1) = r - 64 from by have := Hr.out; omega], by have := Hr.out; omega, by omega, hbn, by rw [Hsn.out]; exact hAn, hon⟩
      case measure => show r - 64 < r; omega
    · have hlt64 : r < 64 := by omega
      obtain rfl : m = n / 64 := by omega
      obtain ⟨LL, hLL⟩ : ∃ x, lastF l = x := ⟨_, rfl⟩
      have hqm : q = 64 * (q / 64) := by rw [← Hq.out]; exact lastF_chunks l
      have hfin : shaF l = outF (hashF roundL (q / 64) H LL) := by rw [shaF_two, Hq.out, Hn.out, hH, hLL]
      have hLq : LL.length = q := by rw [← hLL, Hq.out]
      rw [hLL] at hbl3
      have hd : decide (64 ≤ (r : Int)) = false := by simp; omega
      have Hqm := Lib.hid hqm
      have HLL := Lib.hid hLq
      have Hfin := Lib.hid hfin
      have hKo : Arr wr (g3 + 1) 119 (wordCells roundL) := hK3.only hor (by simp)
      have hRo : Arr wr w.heap.size 24 (Lib.byteCells zeros) := hR3.only hor (show ¬ w.heap.size = g3 by omega)
      have hbo : Below w.heap.size w wr := hb33.trans (hor.below (by have := hb33.size; omega) (by rintro k rfl; omega))
      have hblo : BsX wr g3 wr.heap.size A3 LL := fun hp => by
        obtain ⟨b, off, e, hbb, hg, hc⟩ := hbl3 hp
        exact ⟨b, off, e, by have := hor.size; omega, hg, fun j hj => (World.cell?_of_block (hor.block b hbb (show ¬ b = g3 from hg))).trans (hc j hj)⟩
      have hg3o : g3 + 2 ≤ wr.heap.size := by have := hor.size; omega
      obtain ⟨wo, rfl⟩ : ∃ wo : World, wo = wr := ⟨_, rfl⟩
      obtain ⟨st1, rfl⟩ : ∃ x, x = H := ⟨_, rfl⟩
      have hst1l : st1.length = 8 := hhl
      have hst1f := hhf
      have HhL := Lib.hid hst1l
      have Hwork := Lib.hid hH
      obtain ⟨r0, rfl⟩ : ∃ x, x = r := ⟨_, rfl⟩
      have Hr0 := Lib.hid hr
      clear hqm hfin hLq hLL hsn hH hhl hhf hdl hbr hbs3 hbl3 hK3 hR3 hb33 hS3 hor hst1l hr hm1 hlt64 hlt
      go_wp2_with fail
      clear hd
      go_loopw [5] (fun v wr => ChunkRel LL q st1 g3 wo.heap.size wo v wr) (fun v _ => sliceLen v)
      case atStart => exact ⟨0, A3, c3, by omega, rfl, by omega, h32, by simpa using hblo, hAr, Only.refl _ _⟩
      case round =>
        obtain ⟨m, A', c', hm1, rfl, hc1, hc2, hbr, hAr, hor⟩ := hrel
        have hdl : (LL.drop (64 * m)).length = q - 64 * m := by rw [List.length_drop, HLL.out]
        have hsn := hashF_snoc roundL m st1 LL
        have hhl := hashF_length (ks := roundL) m LL HhL.out
        have hhf := hashF_fit (ks := roundL) m LL hst1f
        obtain ⟨H, hH⟩ : ∃ H, hashF roundL m st1 LL = H := ⟨_, rfl⟩
        rw [hH] at hAr hsn hhl hhf
        obtain ⟨r, hr⟩ : ∃ r, q - 64 * m = r := ⟨_, rfl⟩
        rw [hr] at hdl hc1 ⊢
        by_cases hlt0 : 0 < r
        · have hlt : 64 ≤ r := by have := Hqm.out; omega
          have hK : Arr wr (g3 + 1) 119 (wordCells roundL) := hKo.only hor (by simp)
          have hsz := hor.size
          have hbt : Bs wr wr.heap.size A' ((LL.drop (64 * m)).take 64) := (hbr.bs.upto 64).more (by omega)
          have htl : ((LL.drop (64 * m)).take 64).length = 64 := by rw [List.length_take]; omega
          have hsl : ∀ w, (Instr.sliceAt 33 (.slice A' r c') none (some (.int .i64 64)) none).run Try.prog w = .ok (.slice A' 64 c') w := fun w => run_upto 33 underB sizeB A' r c' 64 .i64 64 rfl (by omega) w
          have hfr : ∀ w, (Instr.sliceAt 33 (.slice A' r c') (some (.int .i64 64)) none none).run Try.prog w = .ok (.slice (cutA A' c' 64) (r - 64) (c' - 64)) w := fun w => run_from 33 underB sizeB A' r c' 64 .i64 64 rfl (by omega) w
          have hcut : BsX wr g3 wo.heap.size (cutA A' c' 64) (LL.drop (64 * (m + 1))) := by
            have := hbr.cutA (k := 64) (c := c') (by omega) (by omega)
            rw [List.drop_drop] at this
            rw [show 64 * (m + 1) = 64 * m + 64 from by omega]
            exact this
          obtain ⟨V1, hV1⟩ : ∃ V, V = (wordCells H).toArray := ⟨_, rfl⟩
          have sV1 : V1.size = 8 := by rw [hV1]; simp [wordCells_length, hhl]
          have Hi1 := Lib.hid (show (Try.prog.info? 118).map (·.size) = some V1.size by rw [sV1]; exact sizeS)
          have hA1 : wr.heap[g3]? = some (.cells V1 118 (0, 0)) := by rw [hV1]; exact hAr
          obtain ⟨M, hM⟩ : ∃ M, mixF roundL H ((LL.drop (64 * m)).take 64) = M := ⟨_, rfl⟩
          have hMl : M.length = 8 := by rw [← hM]; exact mixF_length _ _ _
          rw [hM] at hsn
          obtain ⟨V2, hV2⟩ : ∃ V, V = (wordCells M).toArray := ⟨_, rfl⟩
          have sV2 : V2.size = 8 := by rw [hV2]; simp [wordCells_length, hMl]
          have Hi2 := Lib.hid (show (Try.prog.info? 118).map (·.size) = some V2.size by rw [sV2]; exact sizeS)
          have Ho2 := Lib.hid (show V2.all (·.oneCell') = true by rw [hV2]; simpa using wordCells_one M)
          have Hz2 := Lib.hid (show V1.size = V2.size by rw [sV1, sV2])
          have HV1 := Lib.hid hV1
          have HV2 := Lib.hid hV2
          have HA1 := Lib.hid hA1
          have HM := Lib.hid hM
          have HH := Lib.hid hH
          have Hsn := Lib.hid hsn
          have Hdl := Lib.hid hdl
          have Hr := Lib.hid hr
          have Hhl := Lib.hid hhl
          have Htl := Lib.hid htl
          have Hhf := Lib.hid hhf
          clear hV1 hV2 hA1 hM hH hsn hdl hr hhl htl hhf sV1 sV2 hMl hAr hbr
          go_wp2_with fail
          refine wp_region_still_tail 3 (by kernel_rfl) (by kernel_rfl) ?_
          simp only [List.take_succ_cons, List.take_zero, List.drop_succ_cons, List.drop_zero]
          change wpStill _ _ wr.drew (fun a' => wpList _ _ _ _ a' wr.drew) _ _
          refine wpStill_load_row rfl _ _ rfl g3 rfl 118 V1 _ (by exact HA1.out) Try.underlying118 rfl Hi1.out ?_
          repeat still_step
          refine wpStill_nil ?_
          obtain ⟨wq, hwq⟩ : ∃ wq, wq = wr.drew := ⟨_, rfl⟩
          rw [← hwq]
          have hKq : Arr wq (g3 + 1) 119 (wordCells roundL) := by rw [hwq]; exact hK
          have hbq : Bs wq wq.heap.size A' ((LL.drop (64 * m)).take 64) := by rw [hwq]; exact hbt
          have hAq : Hid (wq.heap[g3]? = some (.cells V1 118 (0, 0))) := by rw [hwq]; exact HA1
          have hoq : Only (fun k => k = g3) wo wq := by rw [hwq]; exact hor.trans ⟨rfl, rfl, rfl, Nat.le_refl _, fun _ _ _ => rfl⟩
          have hcq : BsX wq g3 wo.heap.size (cutA A' c' 64) (LL.drop (64 * (m + 1))) := by rw [hwq]; exact hcut
          clear hwq hK hbt hor hcut
          go_wp2_with (first
            | (go_at_call 82; rw [HV1.out]; refine Calls.mono (mixed_any roundL H ((LL.drop (64 * m)).take 64) A' c' (g3 + 1) wq Hhl.out Hhf.out lenKn roundLs_fit hKq Htl.out hbq) ?_; rintro e w5 ⟨rfl, hb5⟩; rw [HM.out, ← HV2.out]; have hA5 : Hid (w5.heap[g3]? = some (.cells V1 118 (0, 0))) := Lib.hid ((hb5.block g3 (by have := hoq.size; omega)).trans hAq.out))
            | (refine wpList_store_row rfl _ _ _ rfl g3 V2 rfl rfl 118 V1 hA5.out Hi2.out Hz2.out Ho2.out ?_))
          have hon : Only (fun k => k = g3) wo (w5.setRow g3 V2) := (hoq.step hb5).setRow (.inl rfl) V2
          have hAn : Arr (w5.setRow g3 V2) g3 118 (wordCells M) := by
            unfold Arr; rw [← HV2.out]; exact setRow_heap _ _ _ _ _ _ hA5.out
          have hbn : BsX (w5.setRow g3 V2) g3 wo.heap.size (cutA A' c' 64) (LL.drop (64 * (m + 1))) :=
            hcq.keep fun b hlt hne => (setRow_other w5 g3 b V2 hne).trans (hb5.block b (by have := hoq.size; omega))
          go_roundw
          case rel => exact ⟨m + 1, cutA A' c' 64, c' - 64, by have := Hr.out; omega, by rw [show q - 64 * (m + 1) = r - 64 from by have := Hr.out; omega], by have := Hr.out; omega, by omega, hbn, by rw [Hsn.out]; exact hAn, hon⟩
          case measure => show r - 64 < r; omega
        · have hr00 : r = 0 := by omega
          obtain rfl : m = q / 64 := by have := Hqm.out; omega
          have hfin : shaF l = outF H := by rw [Hfin.out, hH]
          have hRo2 : Arr wr w.heap.size 24 (Lib.byteCells zeros) := hRo.only hor (show ¬ w.heap.size = g3 by omega)
          have hbo2 : Below w.heap.size w wr := hbo.trans (hor.below (by omega) (by rintro k rfl; omega))
          obtain ⟨V3, hV3⟩ : ∃ V, V = (wordCells H).toArray := ⟨_, rfl⟩
          have sV3 : V3.size = 8 := by rw [hV3]; simp [wordCells_length, hhl]
          have Hi3 := Lib.hid (show (Try.prog.info? 118).map (·.size) = some V3.size by rw [sV3]; exact sizeS)
          have hL3 : Hid ((wr.alloc (.cells (Lib.byteCells zeros).toArray 24)).heap[g3]? = some (.cells V3 118 (0, 0))) := by
            show _ = _
            rw [hV3, Below.heap_alloc _ _ _ (by have := hor.size; omega)]; exact hAr
          have HV3 := Lib.hid hV3
          have Hhl3 := Lib.hid hhl
          have Hfin3 := Lib.hid hfin
          subst hr00
          have hgz : w.heap.size < wr.heap.size := hRo2.lt
          obtain ⟨Wd, hWd⟩ : ∃ W, W = wr.alloc (.cells (Lib.byteCells zeros).toArray 24) := ⟨_, rfl⟩
          have hWds : Wd.heap.size = wr.heap.size + 1 := by rw [hWd]; simp
          have hD0 : Arr Wd wr.heap.size 24 (Lib.byteCells zeros) := by rw [hWd]; exact Arr.new wr _ _
          have hRd : Arr Wd w.heap.size 24 (Lib.byteCells zeros) := by rw [hWd]; exact hRo2.alloc _
          have hbd : Below w.heap.size w Wd := by rw [hWd]; exact hbo2.alloc (by omega) _
          have HWd := Lib.hid hWd
          clear hWd hV3 sV3 hhl hhf hfin hsn hH hdl hbr hAr hor hRo hRo2 hbo hbo2 hKo hblo hg3o hr hlt0
          go_wp2_with (refine wpList_load_row rfl _ _ rfl g3 rfl 118 V3 (0, 0) _ hL3.out Try.underlying118 rfl Hi3.out ?_)
          change Code.wp _ _ _ _ (wr.alloc (.cells (Lib.byteCells zeros).toArray 24))
          rw [← HWd.out]
          obtain ⟨gd, hgd⟩ : ∃ g, g = wr.heap.size := ⟨_, rfl⟩
          rw [← hgd] at hD0 hWds hgz ⊢
          clear hL3 HWd hgd
          have hout := outF_length Hhl3.out
          have Hout := Lib.hid hout
          rw [← tdB_zero (outF H) zeros] at hD0
          clear hout
          go_loopw [35] (fun i wr => ∃ k : Nat, k ≤ 8 ∧ i = .int .i64 k ∧ Arr wr gd 24 (Lib.byteCells (tdB (outF H) zeros (4 * k))) ∧ Only (fun k => k = gd) Wd wr ∧ wr.heap.size = Wd.heap.size) (fun i _ => 8 - (intOf i).toNat)
          case atStart => exact ⟨0, by omega, rfl, hD0, Only.refl _ _, rfl⟩
          case round =>
            clear hD0
            obtain ⟨i, hi8, rfl, hAr, hor, hsz⟩ := hrel
            by_cases hlt : i < 8
            · have hix : ∀ w, (Instr.index 118 (.agg V3) (.int .i64 (i : Nat))).run Try.prog w = .ok (.int .u32 (H.getD i 0 : Nat)) w := fun w => by rw [HV3.out]; exact run_index_word H i hlt Hhl3.out w
              have hof := fun j (hj : j < 4) => outF_get Hhl3.out hlt hj
              obtain ⟨x, hx⟩ : ∃ x, H.getD i 0 = x := ⟨_, rfl⟩
              rw [hx] at hix hof
              have Hof := Lib.hid hof
              have Hx := Lib.hid hx
              obtain ⟨wi, rfl⟩ : ∃ wi : World, wi = wr := ⟨_, rfl⟩
              have Hsz := Lib.hid hsz
              clear hof hx hsz
              go_wp2_with fail
              go_loopw [39] (fun j wr => ∃ k : Nat, k ≤ 4 ∧ j = .int .i64 k ∧ Arr wr gd 24 (Lib.byteCells (tdB (outF H) zeros (4 * i + k))) ∧ Only (fun k => k = gd) Wd wr ∧ wr.heap.size = Wd.heap.size) (fun i _ => 4 - (intOf i).toNat)
              case atStart => exact ⟨0, by omega, rfl, hAr, hor, Hsz.out⟩
              case round =>
                clear hAr hor
                obtain ⟨j, hj4, rfl, hAr, hor, hsz⟩ := hrel
                by_cases hltj : j < 4
                · obtain ⟨sh, hsh⟩ : ∃ sh, 24 - 8 * j = sh := ⟨_, rfl⟩
                  have hshI : (24 : Int) - 8 * (j : Int) = (sh : Int) := by omega
                  have h0 := Hof.out j hltj
                  rw [hsh] at h0
                  obtain ⟨p, hp⟩ : ∃ p, 4 * i + j = p := ⟨_, rfl⟩
                  rw [hp] at h0 hAr
                  have hpI : 4 * (i : Int) + (j : Int) = (p : Int) := by omega
                  have hp32 : p < 32 := by omega
                  obtain ⟨y, hy⟩ : ∃ y, x / 2 ^ sh = y := ⟨_, rfl⟩
                  have hyI : (x : Int) / 2 ^ sh = (y : Int) := by rw [← hy, Int.natCast_ediv, Int.natCast_pow]; rfl
                  rw [hy] at h0
                  have h0' : ((outF H).getD p 0).toNat = y % 256 := by rw [h0]; simp
                  have hset := tdB_set (a := outF H) (b := zeros) (k := p) (by rw [Hout.out]; rfl) (by rw [Hout.out]; exact hp32) h0'
                  have hc : wr.cell? ⟨gd, p, none⟩ = some (.int .u8 ((tdB (outF H) zeros p).getD p 0).toNat) := by
                    rw [hAr.cell]; exact byteCells_get (by rw [tdB_length (by rw [Hout.out]; rfl) (by rw [Hout.out]; omega), Hout.out]; exact hp32)
                  obtain ⟨z, hz⟩ : ∃ z, ((tdB (outF H) zeros p).getD p 0).toNat = z := ⟨_, rfl⟩
                  rw [hz] at hc
                  have hfz := hAr.frozen p
                  have hAn : Arr (wr.setCell ⟨gd, p, none⟩ (.int .u8 ((y % 256 : Nat) : Int))) gd 24 (Lib.byteCells (tdB (outF H) zeros (p + 1))) := by
                    rw [← hset]; exact hAr.set p _
                  have hon := hor.setCell (p := ⟨gd, p, none⟩) (.inl rfl) (.int .u8 ((y % 256 : Nat) : Int))
                  have hpi : (p : Int) < 32 := by omega
                  have hsh2 : (sh : Int) ≤ 32 := by omega
                  have HAn := Lib.hid hAn
                  have Hon := Lib.hid hon
                  have Hsz2 := Lib.hid hsz
                  have Hp := Lib.hid hp
                  have hjI : (j : Int) < 4 := by omega
                  clear hAn hon hsz hp hz hset h0 h0' hy hAr hor hsh
                  go_wp2
                  go_roundw
                  case rel => exact ⟨j + 1, by omega, by go_num, by rw [show 4 * i + (j + 1) = p + 1 from by have := Hp.out; omega]; simpa using HAn.out, by simpa using Hon.out, by simpa [World.setCell] using Hsz2.out⟩
                  case measure => simp [intOf]; omega
                · have hj4' : 4 * i + j = 4 * (i + 1) := by omega
                  rw [hj4'] at hAr
                  have HAn := Lib.hid hAr
                  have Hsz2 := Lib.hid hsz
                  obtain ⟨j0, rfl⟩ : ∃ x, x = j := ⟨_, rfl⟩
                  have hd : decide ((j0 : Int) < 4) = false := by simp; omega
                  clear hAr hsz hj4'
                  go_wp2_with fail
                  go_roundw
                  case rel => exact ⟨i + 1, by omega, by go_num, HAn.out, hor, Hsz2.out⟩
                  case measure => simp [intOf]; omega
            · obtain rfl : i = 8 := by omega
              rw [tdB_done (by rw [Hout.out]; rfl) (by rw [Hout.out]; omega)] at hAr
              have hRf : Arr wr w.heap.size 24 (Lib.byteCells zeros) := hRd.only hor (show ¬ w.heap.size = gd by omega)
              obtain ⟨DV, hDV⟩ : ∃ DV, DV = (Lib.byteCells (outF H)).toArray := ⟨_, rfl⟩
              have hDs : DV.size = 32 := by rw [hDV]; simp [Lib.byteCells, Hout.out]
              have HDi := Lib.hid (show (Try.prog.info? 24).map (·.size) = some DV.size by rw [hDs]; exact digInfo)
              have HD1 := Lib.hid (show DV.all (·.oneCell') = true by rw [hDV]; simpa using byteCells_one (outF H))
              have hD2 : Hid (wr.heap[gd]? = some (.cells DV 24 (0, 0))) := by
                show _ = _
                rw [hDV]; exact hAr
              have hR2 : Hid (wr.heap[w.heap.size]? = some (.cells (Lib.byteCells zeros).toArray 24 (0, 0))) := hRf
              have Hzs := Lib.hid (show (Lib.byteCells zeros).toArray.size = DV.size by rw [hDs]; simp [Lib.byteCells, zeros])
              have hset : Hid ((wr.setRow w.heap.size DV).heap[w.heap.size]? = some (.cells DV 24 (0, 0))) := setRow_heap wr w.heap.size _ DV _ _ hR2.out
              have hbel : Below w.heap.size w (wr.setRow w.heap.size DV) :=
                hbd.trans ((hor.below (by omega) (by rintro k rfl; omega)).trans (((Only.refl (fun k => k = w.heap.size) wr).setRow (.inl rfl) DV).below (by omega) (by rintro k rfl; omega)))
              have HDV := Lib.hid hDV
              clear hDV hDs hAr hRf hor hsz hlt hi8
              go_wp2_with (first
                | (refine wpList_load_row rfl _ _ rfl gd rfl 24 DV (0, 0) _ hD2.out Try.underlying24 rfl HDi.out ?_)
                | (refine wpList_store_row rfl _ _ _ rfl w.heap.size DV rfl rfl 24 _ hR2.out HDi.out Hzs.out HD1.out ?_))
              exact bodyPost_ret (v := .agg DV) (results_cell_row (by rfl) _ _ w.heap.size 24 DV (0, 0) _ (by rfl) hset.out Try.underlying24 rfl HDi.out) rfl ⟨by unfold digV; rw [Hfin3.out, HDV.out], hbel⟩

end Go.Proofs.Ytlfddijmanlneaa

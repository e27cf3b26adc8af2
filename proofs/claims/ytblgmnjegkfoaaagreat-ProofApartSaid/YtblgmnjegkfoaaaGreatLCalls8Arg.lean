/-
  An argument []Call of the law of tries, opened; Great.
-/
import Derived.Test.YtblgmnjegkfoaaaGreatK12
import Derived.Test.YtblgmnjegkfoaaaGreatLRowsArg
import Derived.Deep.Slices
import Derived.Deep.Fields
import Derived.ChangeSame
import Derived.OpenShut
import Derived.Deep.DeepCutAuto
import Derived.Deep.CutBlock
namespace Go.Proofs.YtblgmnjegkfoaaaGreat
open Go.RowKit Go.ChangeShapes Go.WideShapes
set_option linter.unusedVariables false
set_option linter.unusedSimpArgs false

set_option maxRecDepth 100000 in
theorem dig_cells8 {H : Type} {enc : TypeId × Value → H} {W : World} {base : Nat} {sp : Nat → Bool} {held : Bool} {m : Nat} {cs : List Value} {x : DataW H × List MemPlace} (hl : cs.length = 32) (h : DataW.trod enc Tryz.prog W base sp held m 24 cs = some x) : ∃ l : List UInt8, l.length = 32 ∧ cs = Lib.byteCells l := by
  have hr : ∃ l : List UInt8, l.length = 32 ∧ (.agg cs.toArray : Value) = digV l := by
    obtain ⟨xs, m', _, _, hlen, hn, hel⟩ := DataW.trod_array Tryz.underlying24 h
    have hc1 : Tryz.prog.cellsOf 5 = 1 := by kernel_rfl
    have hall : ∀ i, i < 32 → ∃ b : UInt8, cs[i]? = some (.int .u8 (b.toNat : Nat)) := by
      intro i hi
      have h1 := hel i hi
      rw [hc1, Nat.mul_one] at h1
      have hx : xs[i]? = some (xs[i]'(by omega)) := List.getElem?_eq_getElem (by omega)
      rw [hx] at h1
      have hd : ((cs.drop i).take 1) = [cs[i]'(by omega)] := by rw [List.drop_eq_getElem_cons (by omega)]; rfl
      rw [hd] at h1
      obtain ⟨k, e, _, hw⟩ := DataW.trod_int Tryz.underlying5 h1
      have hb := bounds_u8 hw
      simp only [List.cons.injEq, and_true] at e
      refine ⟨k.toNat.toUInt8, ?_⟩
      rw [List.getElem?_eq_getElem (by omega), e, Lib.toUInt8_toNat (by omega), Int.toNat_of_nonneg hb.1]
    have hch : ∃ f : Nat → UInt8, ∀ i, i < 32 → cs[i]? = some (.int .u8 ((f i).toNat : Nat)) := by
      classical
      refine ⟨fun i => if hi : i < 32 then Classical.choose (hall i hi) else 0, fun i hi => ?_⟩
      simp only [dif_pos hi]
      exact Classical.choose_spec (hall i hi)
    obtain ⟨f, hf2⟩ := hch
    refine ⟨(List.range 32).map f, by simp, ?_⟩
    unfold digV
    congr 2
    apply List.ext_getElem?
    intro i
    by_cases hi : i < 32
    · rw [hf2 i hi]
      simp [Lib.byteCells, hi]
    · rw [List.getElem?_eq_none (by omega), List.getElem?_eq_none (by simp [Lib.byteCells]; omega)]
  obtain ⟨l, h1, h2⟩ := hr
  refine ⟨l, h1, ?_⟩
  unfold digV at h2
  injection h2 with h2
  simpa using congrArg Array.toList h2

/-- A call: what is done, to which item. -/
structure Cl8 where
  what : Int
  itm : Itm
def clC (x : Cl8) : List Value := .int .i64 x.what :: itC x.itm
theorem clC_length {x : Cl8} (h : x.itm.key.length = 32) : (clC x).length = 34 := by simp [clC, itC_length h]
theorem clC_one (x : Cl8) : ∀ v ∈ clC x, v.oneCell' = true := by
  intro v hv
  simp only [clC, List.mem_cons] at hv
  rcases hv with rfl | hv
  · rfl
  · exact itC_one _ v hv
/-- Calls in memory, in a block below B. -/
def Cls8 (w : World) (B : Nat) (A : Option Addr) (xs : List Cl8) : Prop :=
  (∀ x ∈ xs, ItOk w B x.itm) ∧ (0 < xs.length → ∃ b off, A = some ⟨b, off, none⟩ ∧ b < B ∧ ∀ i x, xs[i]? = some x → w.rangeAt b (off + i * 34) (clC x))
theorem Cls8.below {w w' : World} {B B' : Nat} {A : Option Addr} {xs : List Cl8} (h : Cls8 w B A xs) (hb : Below B' w w') (hB : B ≤ B') : Cls8 w' B A xs :=
  ⟨fun x hx => ⟨(h.1 x hx).k32, (h.1 x hx).le, (h.1 x hx).lim, (h.1 x hx).bs.below hb hB⟩, fun hp => by
    obtain ⟨b, off, e, hlt, hc⟩ := h.2 hp
    exact ⟨b, off, e, hlt, fun i x hx j v hj => (hb.cell (p := ⟨b, _, none⟩) (show b < B' by omega)).trans (hc i x hx j v hj)⟩⟩

theorem call8_cells {H : Type} {enc : TypeId × Value → H} {W : World} {m : Nat} {cs : List Value} {x : DataW H × List MemPlace} (hl : cs.length = 34) (h : DataW.trod enc Tryz.prog W 0 (fun _ => true) true m 50 cs = some x) : ∃ y : Cl8, ItOk W W.heap.size y.itm ∧ cs = clC y := by
  obtain ⟨ys, n', _, _, hlen, hyl, hf⟩ := DataW.trod_struct Tryz.underlying50 h
  have g : ∀ j (hj : j < ys.length), ys[j]? = some (ys[j]) := fun j hj => List.getElem?_eq_getElem hj
  have hy3 : ys.length = 3 := hyl
  have c0 : DataW.trod enc Tryz.prog W 0 (fun _ => true) true n' 3 ((cs.drop 0).take (Tryz.prog.cellsOf 3)) = ys[0]? := hf 0 _ rfl
  have c1 : DataW.trod enc Tryz.prog W 0 (fun _ => true) true n' 24 ((cs.drop 1).take (Tryz.prog.cellsOf 24)) = ys[1]? := hf 1 _ rfl
  have c2 : DataW.trod enc Tryz.prog W 0 (fun _ => true) true n' 38 ((cs.drop 33).take (Tryz.prog.cellsOf 38)) = ys[2]? := hf 2 _ rfl
  have k1 : Tryz.prog.cellsOf 3 = 1 := by kernel_rfl
  have k32 : Tryz.prog.cellsOf 24 = 32 := by kernel_rfl
  have ks : Tryz.prog.cellsOf 38 = 1 := by kernel_rfl
  rw [k1, g 0 (by omega)] at c0
  rw [k32, g 1 (by omega)] at c1
  rw [ks, g 2 (by omega)] at c2
  have one : ∀ j (hj : j < cs.length), (cs.drop j).take 1 = [cs[j]] := fun j hj => by rw [List.drop_eq_getElem_cons hj]; rfl
  rw [one 0 (by omega)] at c0
  rw [one 33 (by omega)] at c2
  obtain ⟨z0, e0, _, hw0⟩ := DataW.trod_int Tryz.underlying3 c0
  simp only [List.cons.injEq, and_true] at e0
  obtain ⟨l, hl32, e1⟩ := dig_cells8 (by rw [List.length_take, List.length_drop]; omega) c1
  obtain ⟨A', c', l', e2, q1, q2, q3⟩ := row_cell c2
  refine ⟨⟨z0, ⟨l, l', A', c'⟩⟩, ⟨hl32, q1, q2, q3⟩, ?_⟩
  have e : cs = cs[0] :: ((cs.drop 1).take 32 ++ [cs[33]]) := by
    conv => lhs; rw [← List.take_append_drop 1 cs, ← List.take_append_drop 32 (cs.drop 1), List.drop_drop]
    have d33 : cs.drop (1 + 32) = [cs[33]] := by
      rw [List.drop_eq_getElem_cons (by omega), List.drop_of_length_le (by omega)]
    have t1 : cs.take 1 = [cs[0]] := by
      rw [← one 0 (by omega), List.drop_zero]
    rw [d33, t1]
    rfl
  refine e.trans ?_
  rw [e0, e1, e2]
  rfl

theorem calls8_arg {H : Type} {enc : TypeId × Value → H} {W : World} {A : Option Addr} {len cap : Nat} {d : DataW H} {p : List MemPlace} (h : DataW.Trod enc Tryz.prog W 0 (fun _ => true) true 22 (.slice A len cap) d p) :
    ∃ xs : List Cl8, xs.length = len ∧ len ≤ cap ∧ cap ≤ maxLen ∧ Cls8 W W.heap.size A xs := by
  obtain ⟨fuel, hf⟩ := h
  rcases Go.Deep.open_slice Tryz.underlying22 hf with ⟨h0, _⟩ | ⟨a, len', cap', m, n, D, Pl, hcs, _, hl, hm, hmm, _, hi⟩
  · simp [Value.cells] at h0
    obtain ⟨rfl, rfl, rfl⟩ := h0
    exact ⟨[], rfl, Nat.le_refl _, by unfold maxLen; omega, fun x hx => by simp at hx, fun h => by simp at h⟩
  · simp [Value.cells] at hcs
    obtain ⟨rfl, rfl, rfl⟩ := hcs
    have k34 : Tryz.prog.cellsOf 50 = 34 := by kernel_rfl
    have hle : len ≤ m := by rw [hmm]; split <;> omega
    have hall : ∀ i, i < len → ∃ x : Cl8, ItOk W W.heap.size x.itm ∧ ∀ j v, (clC x)[j]? = some v → W.cell? (a.add (i * 34 + j)) = some v := by
      intro i him
      obtain ⟨cs', hc, ht'⟩ := hi i (by omega)
      rw [k34] at hc
      obtain ⟨_, hcl, hat⟩ := World.cells?_some hc
      obtain ⟨y, hy, rfl⟩ := call8_cells hcl ht'
      refine ⟨y, hy, fun j v hj => ?_⟩
      have hj' := (List.getElem?_eq_some_iff.1 hj).1
      rw [← Go.Deep.add_add, hat j (by omega)]
      exact hj
    have hch : ∃ f : Nat → Cl8, ∀ i, i < len → ItOk W W.heap.size (f i).itm ∧ ∀ j v, (clC (f i))[j]? = some v → W.cell? (a.add (i * 34 + j)) = some v := by
      classical
      refine ⟨fun i => if hi : i < len then Classical.choose (hall i hi) else ⟨0, ⟨[], [], none, 0⟩⟩, fun i hi => ?_⟩
      simp only [dif_pos hi]
      exact Classical.choose_spec (hall i hi)
    clear hall
    obtain ⟨f, hf⟩ := hch
    have hget : ∀ i x, ((List.range len).map f)[i]? = some x → i < len ∧ x = f i := by
      intro i x hx
      obtain ⟨h1, h2⟩ := List.getElem?_eq_some_iff.1 hx
      simp at h1 h2
      exact ⟨h1, h2.symm⟩
    refine ⟨(List.range len).map f, by simp, hl, hm, fun x hx => ?_, fun hp => ?_⟩
    · obtain ⟨i, hi', rfl⟩ := List.mem_map.1 hx
      exact (hf i (List.mem_range.1 hi')).1
    · have hp' : 0 < len := by simpa using hp
      obtain ⟨b, off, spot⟩ := a
      have hc0 := (hf 0 hp').2 0 _ rfl
      have hspot : spot = none := by simpa [Addr.add] using World.cell?_spot hc0
      subst hspot
      refine ⟨b, off, rfl, World.block_lt_of_cell? W _ (by simpa [Addr.add] using hc0), fun i x hx j v hj => ?_⟩
      obtain ⟨hil, rfl⟩ := hget i x hx
      have hadd : ∀ k, (⟨b, off, none⟩ : Addr).add k = ⟨b, off + k, none⟩ := fun k => by unfold Addr.add; split <;> simp_all
      have := (hf i hil).2 j v hj
      rw [hadd] at this
      rw [Nat.add_assoc]
      exact this

theorem callSize : (Tryz.prog.info? 50).map (·.size) = some 34 := by kernel_rfl
def clZ : List Value := .int .i64 0 :: (Lib.byteCells zeros ++ [.slice none 0 0])
theorem callZero (w : World) : (zeroValue 50).run Tryz.prog w = .ok (.agg clZ.toArray) w := by kernel_rfl
theorem wpList_allocZ8 {P : Program} {ops : Array Oper} {rest : List Oper} {o : Oper} {a : Act} {w : World} {Q : Exit → Act → World → Prop} (hg : o.guard = none) (t : TypeId) (ho : o.op = .alloc t) (Z : Array Value) (hz : (zeroValue t).run P w = .ok (.agg Z) w)
    (h : wpList P ops Q rest (a.put o.dst (.pointer (some ⟨w.heap.size, 0, none⟩))) (w.alloc (.cells Z t))) : wpList P ops Q (o :: rest) a w := by
  refine wpList_plain hg fun K hK => ?_
  unfold Oper.wp execOp
  simp only [ho, Instr.alloc, Sem.run_bind, hz, Result.andThen_ok]
  exact hK _ _ h

/-- Are calls more than are looked at? -/
def great8 (xs : List Cl8) : Bool := decide (50 < xs.length) || xs.any fun x => decide (200 < x.itm.val.length)
theorem great8_no {xs : List Cl8} (h : great8 xs = false) : xs.length ≤ 50 ∧ ∀ x ∈ xs, x.itm.val.length ≤ 200 := by
  unfold great8 at h
  simp only [Bool.or_eq_false_iff, decide_eq_false_iff_not, List.any_eq_false, decide_eq_true_eq] at h
  exact ⟨by omega, fun r hr => by have := h.2 r hr; omega⟩
theorem great8_many {xs : List Cl8} (h : 50 < xs.length) : great8 xs = true := by unfold great8; rw [decide_eq_true h, Bool.true_or]
theorem great8_long {xs : List Cl8} {k : Nat} {x : Cl8} (hk : xs[k]? = some x) (h : 200 < x.itm.val.length) : great8 xs = true := by
  unfold great8
  rw [Bool.or_eq_true]
  exact .inr (List.any_eq_true.2 ⟨x, List.mem_of_getElem? hk, decide_eq_true h⟩)
theorem great8_none {xs : List Cl8} (h : xs.length ≤ 50) (hr : ∀ (k : Nat) (x : Cl8), xs[k]? = some x → x.itm.val.length ≤ 200) : great8 xs = false := by
  unfold great8
  rw [Bool.or_eq_false_iff]
  refine ⟨decide_eq_false (by omega), List.any_eq_false.2 fun r hm => ?_⟩
  obtain ⟨k, hk⟩ := List.getElem?_of_mem hm
  have := hr k r hk
  simp
  omega

set_option maxHeartbeats 8000000 in
set_option maxRecDepth 100000 in
theorem great8_any (xs : List Cl8) (A : Option Addr) (n c : Nat) (w : World) (hn : xs.length = n) (hc : n ≤ c) (hm : c ≤ 9223372036854775807) (hrs : Cls8 w w.heap.size A xs) :
    Calls Tryz.prog 7 #[.slice A n c] w fun e w' => e = .returned (.bool (great8 xs)) ∧ Below w.heap.size w w' := by
  obtain ⟨CZ, hCZ⟩ : ∃ CZ, CZ = clZ := ⟨_, rfl⟩
  have HZ := Lib.hid (fun w : World => show (zeroValue 50).run Tryz.prog w = .ok (.agg CZ.toArray) w by rw [hCZ]; exact callZero w)
  have HZl := Lib.hid (show CZ.length = 34 by rw [hCZ]; rfl)
  clear hCZ
  by_cases h60 : 50 < n
  · have hd : decide ((50 : Int) < (n : Int)) = true := by simp; omega
    have hg := Lib.hid (great8_many (xs := xs) (by omega))
    have Hn := Lib.hid hn
    clear hn
    go_enter Tryz.func7, Tryz.ntmps7
    go_wp2
    go_ret
    exact ⟨by rw [hg.out]; rfl, Below.refl _ _⟩
  · have hd : decide ((50 : Int) < (n : Int)) = false := by simp; omega
    have Hn := Lib.hid hn
    have Hrs := Lib.hid hrs
    clear hn hrs
    go_enter Tryz.func7, Tryz.ntmps7
    go_upto_region 4 with fail
    go_loopw [10] (fun i wr => ∃ k : Nat, k ≤ n ∧ i = .int .i64 k ∧ Below w.heap.size w wr ∧ Hid (∀ (j : Nat) (x : Cl8), j < k → xs[j]? = some x → x.itm.val.length ≤ 200)) (fun i _ => n - (intOf i).toNat)
    case atStart => exact ⟨0, Nat.zero_le _, rfl, Below.refl _ _, fun j x hj => by omega⟩
    case round =>
      obtain ⟨k, hk, rfl, hbr, Hr⟩ := hrel
      by_cases hlt : k < n
      · have hd1 : decide ((k : Int) < (n : Int)) = true := by simp; omega
        obtain ⟨x, hx⟩ : ∃ x, xs[k]? = some x := ⟨xs[k]'(by rw [Hn.out]; exact hlt), List.getElem?_eq_getElem _⟩
        obtain ⟨b, off, rfl, hblk, hrow⟩ := Hrs.out.2 (by rw [Hn.out]; omega)
        have hxo := Hrs.out.1 x (List.mem_of_getElem? hx)
        obtain ⟨VL, hVL⟩ : ∃ VL, VL = clC x := ⟨_, rfl⟩
        have hVl : VL.length = 34 := by rw [hVL, clC_length hxo.k32]
        have hrg : wr.rangeAt b (off + k * 34) VL := fun j v hj => by
          rw [hVL] at hj
          rw [← hrow k x hx j v hj]
          exact World.cell?_of_block (hbr.block b hblk)
        have HVi := Lib.hid (show (Tryz.prog.info? 50).map (·.size) = some VL.length by rw [hVl]; exact callSize)
        have HVj := Lib.hid (show (Tryz.prog.info? 50).map (·.size) = some VL.toArray.size by rw [List.size_toArray, hVl]; exact callSize)
        have HV1 := Lib.hid (show VL.toArray.all (·.oneCell') = true by rw [hVL]; exact all_oneCell_toArray (clC_one x))
        have HVz := Lib.hid (show CZ.toArray.size = VL.toArray.size by rw [List.size_toArray, List.size_toArray, HZl.out, hVl])
        obtain ⟨wa, hwa⟩ : ∃ W, W = (wr.alloc (.cells CZ.toArray 50)).setRow wr.heap.size VL.toArray := ⟨_, rfl⟩
        obtain ⟨hVa, hbra⟩ := alloc_row wr 50 CZ.toArray VL
        rw [← hwa] at hVa hbra
        obtain ⟨l, hl⟩ : ∃ l, x.itm.val.length = l := ⟨_, rfl⟩
        have h33 : wa.cell? ⟨wr.heap.size, 33, none⟩ = some (.slice x.itm.adr l x.itm.cap) := by
          rw [hVa.cell, hVL, ← hl]
          unfold clC itC
          rw [List.getElem?_cons_succ, List.getElem?_append_right (by rw [Lib.byteCells_length, hxo.k32]; exact Nat.le_refl _), Lib.byteCells_length, hxo.k32]
          rfl
        have hba : Below w.heap.size w wa := hbr.trans (hbra.mono hbr.size)
        have Hwa := Lib.hid hwa
        have Hl := Lib.hid hl
        have Hx := Lib.hid hx
        obtain ⟨Ax, hAx⟩ : ∃ a, x.itm.adr = a := ⟨_, rfl⟩
        obtain ⟨cx, hcx⟩ : ∃ a, x.itm.cap = a := ⟨_, rfl⟩
        rw [hAx, hcx] at h33
        clear hwa hl hx hrow hVL hVl hVa hbra hbr hxo hAx hcx
        go_upto_region 6 with (first
          | (refine wpList_load_mid rfl _ _ rfl b (off + k * 34) rfl VL _ hrg Tryz.underlying50 rfl HVi.out ?_)
          | (refine wpList_allocZ8 rfl 50 rfl CZ.toArray (HZ.out _) ?_)
          | (refine wpList_store_row rfl _ _ _ rfl wr.heap.size VL.toArray rfl rfl 50 CZ.toArray (heap_alloc_new wr _) HVj.out HVz.out HV1.out ?_; rw [← Hwa.out]))
        by_cases hlong : 200 < l
        · have hd2 : decide ((200 : Int) < (l : Int)) = true := by simp; omega
          have hg := Lib.hid (great8_long Hx.out (by rw [Hl.out]; exact hlong))
          go_wp2_with fail
          go_ret
          exact ⟨by rw [hg.out]; rfl, hba⟩
        · have hd2 : decide ((200 : Int) < (l : Int)) = false := by simp; omega
          have Hr' : Hid (∀ (j : Nat) (y : Cl8), j < k + 1 → xs[j]? = some y → y.itm.val.length ≤ 200) := fun j y hj hy => by
            by_cases e : j = k
            · subst e
              rw [Hx.out] at hy
              injection hy with hy
              rw [← hy, Hl.out]
              omega
            · exact Hr.out j y (by omega) hy
          go_wp2_with fail
          go_roundw
          case rel => exact ⟨k + 1, by omega, by go_num, hba, Hr'⟩
          case measure => simp [intOf]; omega
      · have hd1 : decide ((k : Int) < (n : Int)) = false := by simp; omega
        have hg := Lib.hid (great8_none (xs := xs) (by rw [Hn.out]; omega) (fun j x hx => Hr.out j x (by have := (List.getElem?_eq_some_iff.1 hx).1; rw [Hn.out] at this; omega) hx))
        go_wp2_with fail
        go_ret
        exact ⟨by rw [hg.out]; rfl, hbr⟩

end Go.Proofs.YtblgmnjegkfoaaaGreat

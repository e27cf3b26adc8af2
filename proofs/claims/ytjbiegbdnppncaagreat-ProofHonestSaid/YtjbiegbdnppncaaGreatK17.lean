/-
  Calls8Arg PlayItems TriePlay TriePlay8 TrieTGet TrieForest: texts on the way to the laws, as one.
-/
import Derived.Test.YtjbiegbdnppncaaGreatK12
import Derived.Test.YtjbiegbdnppncaaGreatK16
import Derived.Deep.Slices
import Derived.Deep.Fields
import Derived.ChangeSame
import Derived.OpenShut
import Derived.Deep.DeepCutAuto
import Derived.Deep.CutBlock
import Derived.Test.YtjbiegbdnppncaaGreatK14
import Derived.Test.YtjbiegbdnppncaaGreatK13
set_option maxRecDepth 100000
namespace Go.Proofs.YtjbiegbdnppncaaGreat
open Go.RowKit Go.ChangeShapes Go.WideShapes
set_option linter.unusedVariables false
set_option linter.unusedSimpArgs false

set_option maxRecDepth 100000 in
theorem dig_cells8 {H : Type} {enc : TypeId × Value → H} {W : World} {base : Nat} {sp : Nat → Bool} {held : Bool} {m : Nat} {cs : List Value} {x : DataW H × List MemPlace} (hl : cs.length = 32) (h : DataW.trod enc Tryz.prog W base sp held m 24 cs = some x) : ∃ l : List UInt8, l.length = 32 ∧ cs = Lib.byteCells l := by
  have hr : ∃ l : List UInt8, l.length = 32 ∧ (.agg cs.toArray : Value) = digV l := by
    obtain ⟨xs, m', _, _, hlen, hn, hel⟩ := DataW.trod_array Tryz.underlying24 h
    have hc1 : Tryz.prog.cellsOf 5 = 1 := by kernel_rfl
    have hall : ∀ i, i < 32 → ∃ b : UInt8, cs[i]? = some (.int .u8 (b.toNat : Nat)) := by
      intro i hi
      have h1 := hel i hi
      rw [hc1, Nat.mul_one] at h1
      have hx : xs[i]? = some (xs[i]'(by omega)) := List.getElem?_eq_getElem (by omega)
      rw [hx] at h1
      have hd : ((cs.drop i).take 1) = [cs[i]'(by omega)] := by rw [List.drop_eq_getElem_cons (by omega)]; rfl
      rw [hd] at h1
      obtain ⟨k, e, _, hw⟩ := DataW.trod_int Tryz.underlying5 h1
      have hb := bounds_u8 hw
      simp only [List.cons.injEq, and_true] at e
      refine ⟨k.toNat.toUInt8, ?_⟩
      rw [List.getElem?_eq_getElem (by omega), e, Lib.toUInt8_toNat (by omega), Int.toNat_of_nonneg hb.1]
    have hch : ∃ f : Nat → UInt8, ∀ i, i < 32 → cs[i]? = some (.int .u8 ((f i).toNat : Nat)) := by
      classical
      refine ⟨fun i => if hi : i < 32 then Classical.choose (hall i hi) else 0, fun i hi => ?_⟩
      simp only [dif_pos hi]
      exact Classical.choose_spec (hall i hi)
    obtain ⟨f, hf2⟩ := hch
    refine ⟨(List.range 32).map f, by simp, ?_⟩
    unfold digV
    congr 2
    apply List.ext_getElem?
    intro i
    by_cases hi : i < 32
    · rw [hf2 i hi]
      simp [Lib.byteCells, hi]
    · rw [List.getElem?_eq_none (by omega), List.getElem?_eq_none (by simp [Lib.byteCells]; omega)]
  obtain ⟨l, h1, h2⟩ := hr
  refine ⟨l, h1, ?_⟩
  unfold digV at h2
  injection h2 with h2
  simpa using congrArg Array.toList h2

/-- A call: what is done, to which item. -/
structure Cl8 where
  what : Int
  itm : Itm
def clC (x : Cl8) : List Value := .int .i64 x.what :: itC x.itm
theorem clC_length {x : Cl8} (h : x.itm.key.length = 32) : (clC x).length = 34 := by simp [clC, itC_length h]
theorem clC_one (x : Cl8) : ∀ v ∈ clC x, v.oneCell' = true := by
  intro v hv
  simp only [clC, List.mem_cons] at hv
  rcases hv with rfl | hv
  · rfl
  · exact itC_one _ v hv
/-- Calls in memory, in a block below B. -/
def Cls8 (w : World) (B : Nat) (A : Option Addr) (xs : List Cl8) : Prop :=
  (∀ x ∈ xs, ItOk w B x.itm) ∧ (0 < xs.length → ∃ b off, A = some ⟨b, off, none⟩ ∧ b < B ∧ ∀ i x, xs[i]? = some x → w.rangeAt b (off + i * 34) (clC x))
theorem Cls8.below {w w' : World} {B B' : Nat} {A : Option Addr} {xs : List Cl8} (h : Cls8 w B A xs) (hb : Below B' w w') (hB : B ≤ B') : Cls8 w' B A xs :=
  ⟨fun x hx => ⟨(h.1 x hx).k32, (h.1 x hx).le, (h.1 x hx).lim, (h.1 x hx).bs.below hb hB⟩, fun hp => by
    obtain ⟨b, off, e, hlt, hc⟩ := h.2 hp
    exact ⟨b, off, e, hlt, fun i x hx j v hj => (hb.cell (p := ⟨b, _, none⟩) (show b < B' by omega)).trans (hc i x hx j v hj)⟩⟩

theorem call8_cells {H : Type} {enc : TypeId × Value → H} {W : World} {m : Nat} {cs : List Value} {x : DataW H × List MemPlace} (hl : cs.length = 34) (h : DataW.trod enc Tryz.prog W 0 (fun _ => true) true m 50 cs = some x) : ∃ y : Cl8, ItOk W W.heap.size y.itm ∧ cs = clC y := by
  obtain ⟨ys, n', _, _, hlen, hyl, hf⟩ := DataW.trod_struct Tryz.underlying50 h
  have g : ∀ j (hj : j < ys.length), ys[j]? = some (ys[j]) := fun j hj => List.getElem?_eq_getElem hj
  have hy3 : ys.length = 3 := hyl
  have c0 : DataW.trod enc Tryz.prog W 0 (fun _ => true) true n' 3 ((cs.drop 0).take (Tryz.prog.cellsOf 3)) = ys[0]? := hf 0 _ rfl
  have c1 : DataW.trod enc Tryz.prog W 0 (fun _ => true) true n' 24 ((cs.drop 1).take (Tryz.prog.cellsOf 24)) = ys[1]? := hf 1 _ rfl
  have c2 : DataW.trod enc Tryz.prog W 0 (fun _ => true) true n' 38 ((cs.drop 33).take (Tryz.prog.cellsOf 38)) = ys[2]? := hf 2 _ rfl
  have k1 : Tryz.prog.cellsOf 3 = 1 := by kernel_rfl
  have k32 : Tryz.prog.cellsOf 24 = 32 := by kernel_rfl
  have ks : Tryz.prog.cellsOf 38 = 1 := by kernel_rfl
  rw [k1, g 0 (by omega)] at c0
  rw [k32, g 1 (by omega)] at c1
  rw [ks, g 2 (by omega)] at c2
  have one : ∀ j (hj : j < cs.length), (cs.drop j).take 1 = [cs[j]] := fun j hj => by rw [List.drop_eq_getElem_cons hj]; rfl
  rw [one 0 (by omega)] at c0
  rw [one 33 (by omega)] at c2
  obtain ⟨z0, e0, _, hw0⟩ := DataW.trod_int Tryz.underlying3 c0
  simp only [List.cons.injEq, and_true] at e0
  obtain ⟨l, hl32, e1⟩ := dig_cells8 (by rw [List.length_take, List.length_drop]; omega) c1
  obtain ⟨A', c', l', e2, q1, q2, q3⟩ := row_cell c2
  refine ⟨⟨z0, ⟨l, l', A', c'⟩⟩, ⟨hl32, q1, q2, q3⟩, ?_⟩
  have e : cs = cs[0] :: ((cs.drop 1).take 32 ++ [cs[33]]) := by
    conv => lhs; rw [← List.take_append_drop 1 cs, ← List.take_append_drop 32 (cs.drop 1), List.drop_drop]
    have d33 : cs.drop (1 + 32) = [cs[33]] := by
      rw [List.drop_eq_getElem_cons (by omega), List.drop_of_length_le (by omega)]
    have t1 : cs.take 1 = [cs[0]] := by
      rw [← one 0 (by omega), List.drop_zero]
    rw [d33, t1]
    rfl
  refine e.trans ?_
  rw [e0, e1, e2]
  rfl

theorem calls8_arg {H : Type} {enc : TypeId × Value → H} {W : World} {A : Option Addr} {len cap : Nat} {d : DataW H} {p : List MemPlace} (h : DataW.Trod enc Tryz.prog W 0 (fun _ => true) true 22 (.slice A len cap) d p) :
    ∃ xs : List Cl8, xs.length = len ∧ len ≤ cap ∧ cap ≤ maxLen ∧ Cls8 W W.heap.size A xs := by
  obtain ⟨fuel, hf⟩ := h
  rcases Go.Deep.open_slice Tryz.underlying22 hf with ⟨h0, _⟩ | ⟨a, len', cap', m, n, D, Pl, hcs, _, hl, hm, hmm, _, hi⟩
  · simp [Value.cells] at h0
    obtain ⟨rfl, rfl, rfl⟩ := h0
    exact ⟨[], rfl, Nat.le_refl _, by unfold maxLen; omega, fun x hx => by simp at hx, fun h => by simp at h⟩
  · simp [Value.cells] at hcs
    obtain ⟨rfl, rfl, rfl⟩ := hcs
    have k34 : Tryz.prog.cellsOf 50 = 34 := by kernel_rfl
    have hle : len ≤ m := by rw [hmm]; split <;> omega
    have hall : ∀ i, i < len → ∃ x : Cl8, ItOk W W.heap.size x.itm ∧ ∀ j v, (clC x)[j]? = some v → W.cell? (a.add (i * 34 + j)) = some v := by
      intro i him
      obtain ⟨cs', hc, ht'⟩ := hi i (by omega)
      rw [k34] at hc
      obtain ⟨_, hcl, hat⟩ := World.cells?_some hc
      obtain ⟨y, hy, rfl⟩ := call8_cells hcl ht'
      refine ⟨y, hy, fun j v hj => ?_⟩
      have hj' := (List.getElem?_eq_some_iff.1 hj).1
      rw [← Go.Deep.add_add, hat j (by omega)]
      exact hj
    have hch : ∃ f : Nat → Cl8, ∀ i, i < len → ItOk W W.heap.size (f i).itm ∧ ∀ j v, (clC (f i))[j]? = some v → W.cell? (a.add (i * 34 + j)) = some v := by
      classical
      refine ⟨fun i => if hi : i < len then Classical.choose (hall i hi) else ⟨0, ⟨[], [], none, 0⟩⟩, fun i hi => ?_⟩
      simp only [dif_pos hi]
      exact Classical.choose_spec (hall i hi)
    clear hall
    obtain ⟨f, hf⟩ := hch
    have hget : ∀ i x, ((List.range len).map f)[i]? = some x → i < len ∧ x = f i := by
      intro i x hx
      obtain ⟨h1, h2⟩ := List.getElem?_eq_some_iff.1 hx
      simp at h1 h2
      exact ⟨h1, h2.symm⟩
    refine ⟨(List.range len).map f, by simp, hl, hm, fun x hx => ?_, fun hp => ?_⟩
    · obtain ⟨i, hi', rfl⟩ := List.mem_map.1 hx
      exact (hf i (List.mem_range.1 hi')).1
    · have hp' : 0 < len := by simpa using hp
      obtain ⟨b, off, spot⟩ := a
      have hc0 := (hf 0 hp').2 0 _ rfl
      have hspot : spot = none := by simpa [Addr.add] using World.cell?_spot hc0
      subst hspot
      refine ⟨b, off, rfl, World.block_lt_of_cell? W _ (by simpa [Addr.add] using hc0), fun i x hx j v hj => ?_⟩
      obtain ⟨hil, rfl⟩ := hget i x hx
      have hadd : ∀ k, (⟨b, off, none⟩ : Addr).add k = ⟨b, off + k, none⟩ := fun k => by unfold Addr.add; split <;> simp_all
      have := (hf i hil).2 j v hj
      rw [hadd] at this
      rw [Nat.add_assoc]
      exact this

theorem callSize : (Tryz.prog.info? 50).map (·.size) = some 34 := by kernel_rfl
def clZ : List Value := .int .i64 0 :: (Lib.byteCells zeros ++ [.slice none 0 0])
theorem callZero (w : World) : (zeroValue 50).run Tryz.prog w = .ok (.agg clZ.toArray) w := by kernel_rfl
theorem wpList_allocZ8 {P : Program} {ops : Array Oper} {rest : List Oper} {o : Oper} {a : Act} {w : World} {Q : Exit → Act → World → Prop} (hg : o.guard = none) (t : TypeId) (ho : o.op = .alloc t) (Z : Array Value) (hz : (zeroValue t).run P w = .ok (.agg Z) w)
    (h : wpList P ops Q rest (a.put o.dst (.pointer (some ⟨w.heap.size, 0, none⟩))) (w.alloc (.cells Z t))) : wpList P ops Q (o :: rest) a w := by
  refine wpList_plain hg fun K hK => ?_
  unfold Oper.wp execOp
  simp only [ho, Instr.alloc, Sem.run_bind, hz, Result.andThen_ok]
  exact hK _ _ h

/-- Are calls more than are looked at? -/
def great8 (xs : List Cl8) : Bool := decide (50 < xs.length) || xs.any fun x => decide (200 < x.itm.val.length)
theorem great8_no {xs : List Cl8} (h : great8 xs = false) : xs.length ≤ 50 ∧ ∀ x ∈ xs, x.itm.val.length ≤ 200 := by
  unfold great8 at h
  simp only [Bool.or_eq_false_iff, decide_eq_false_iff_not, List.any_eq_false, decide_eq_true_eq] at h
  exact ⟨by omega, fun r hr => by have := h.2 r hr; omega⟩
theorem great8_many {xs : List Cl8} (h : 50 < xs.length) : great8 xs = true := by unfold great8; rw [decide_eq_true h, Bool.true_or]
theorem great8_long {xs : List Cl8} {k : Nat} {x : Cl8} (hk : xs[k]? = some x) (h : 200 < x.itm.val.length) : great8 xs = true := by
  unfold great8
  rw [Bool.or_eq_true]
  exact .inr (List.any_eq_true.2 ⟨x, List.mem_of_getElem? hk, decide_eq_true h⟩)
theorem great8_none {xs : List Cl8} (h : xs.length ≤ 50) (hr : ∀ (k : Nat) (x : Cl8), xs[k]? = some x → x.itm.val.length ≤ 200) : great8 xs = false := by
  unfold great8
  rw [Bool.or_eq_false_iff]
  refine ⟨decide_eq_false (by omega), List.any_eq_false.2 fun r hm => ?_⟩
  obtain ⟨k, hk⟩ := List.getElem?_of_mem hm
  have := hr k r hk
  simp
  omega

set_option maxHeartbeats 8000000 in
set_option maxRecDepth 100000 in
theorem great8_any (xs : List Cl8) (A : Option Addr) (n c : Nat) (w : World) (hn : xs.length = n) (hc : n ≤ c) (hm : c ≤ 9223372036854775807) (hrs : Cls8 w w.heap.size A xs) :
    Calls Tryz.prog 10 #[.slice A n c] w fun e w' => e = .returned (.bool (great8 xs)) ∧ Below w.heap.size w w' := by
  obtain ⟨CZ, hCZ⟩ : ∃ CZ, CZ = clZ := ⟨_, rfl⟩
  have HZ := Lib.hid (fun w : World => show (zeroValue 50).run Tryz.prog w = .ok (.agg CZ.toArray) w by rw [hCZ]; exact callZero w)
  have HZl := Lib.hid (show CZ.length = 34 by rw [hCZ]; rfl)
  clear hCZ
  by_cases h60 : 50 < n
  · have hd : decide ((50 : Int) < (n : Int)) = true := by simp; omega
    have hg := Lib.hid (great8_many (xs := xs) (by omega))
    have Hn := Lib.hid hn
    clear hn
    go_enter Tryz.func10, Tryz.ntmps10
    go_wp2
    go_ret
    exact ⟨by rw [hg.out]; rfl, Below.refl _ _⟩
  · have hd : decide ((50 : Int) < (n : Int)) = false := by simp; omega
    have Hn := Lib.hid hn
    have Hrs := Lib.hid hrs
    clear hn hrs
    go_enter Tryz.func10, Tryz.ntmps10
    go_upto_region 4 with fail
    go_loopw [10] (fun i wr => ∃ k : Nat, k ≤ n ∧ i = .int .i64 k ∧ Below w.heap.size w wr ∧ Hid (∀ (j : Nat) (x : Cl8), j < k → xs[j]? = some x → x.itm.val.length ≤ 200)) (fun i _ => n - (intOf i).toNat)
    case atStart => exact ⟨0, Nat.zero_le _, rfl, Below.refl _ _, fun j x hj => by omega⟩
    case round =>
      obtain ⟨k, hk, rfl, hbr, Hr⟩ := hrel
      by_cases hlt : k < n
      · have hd1 : decide ((k : Int) < (n : Int)) = true := by simp; omega
        obtain ⟨x, hx⟩ : ∃ x, xs[k]? = some x := ⟨xs[k]'(by rw [Hn.out]; exact hlt), List.getElem?_eq_getElem _⟩
        obtain ⟨b, off, rfl, hblk, hrow⟩ := Hrs.out.2 (by rw [Hn.out]; omega)
        have hxo := Hrs.out.1 x (List.mem_of_getElem? hx)
        obtain ⟨VL, hVL⟩ : ∃ VL, VL = clC x := ⟨_, rfl⟩
        have hVl : VL.length = 34 := by rw [hVL, clC_length hxo.k32]
        have hrg : wr.rangeAt b (off + k * 34) VL := fun j v hj => by
          rw [hVL] at hj
          rw [← hrow k x hx j v hj]
          exact World.cell?_of_block (hbr.block b hblk)
        have HVi := Lib.hid (show (Tryz.prog.info? 50).map (·.size) = some VL.length by rw [hVl]; exact callSize)
        have HVj := Lib.hid (show (Tryz.prog.info? 50).map (·.size) = some VL.toArray.size by rw [List.size_toArray, hVl]; exact callSize)
        have HV1 := Lib.hid (show VL.toArray.all (·.oneCell') = true by rw [hVL]; exact all_oneCell_toArray (clC_one x))
        have HVz := Lib.hid (show CZ.toArray.size = VL.toArray.size by rw [List.size_toArray, List.size_toArray, HZl.out, hVl])
        obtain ⟨wa, hwa⟩ : ∃ W, W = (wr.alloc (.cells CZ.toArray 50)).setRow wr.heap.size VL.toArray := ⟨_, rfl⟩
        obtain ⟨hVa, hbra⟩ := alloc_row wr 50 CZ.toArray VL
        rw [← hwa] at hVa hbra
        obtain ⟨l, hl⟩ : ∃ l, x.itm.val.length = l := ⟨_, rfl⟩
        have h33 : wa.cell? ⟨wr.heap.size, 33, none⟩ = some (.slice x.itm.adr l x.itm.cap) := by
          rw [hVa.cell, hVL, ← hl]
          unfold clC itC
          rw [List.getElem?_cons_succ, List.getElem?_append_right (by rw [Lib.byteCells_length, hxo.k32]; exact Nat.le_refl _), Lib.byteCells_length, hxo.k32]
          rfl
        have hba : Below w.heap.size w wa := hbr.trans (hbra.mono hbr.size)
        have Hwa := Lib.hid hwa
        have Hl := Lib.hid hl
        have Hx := Lib.hid hx
        obtain ⟨Ax, hAx⟩ : ∃ a, x.itm.adr = a := ⟨_, rfl⟩
        obtain ⟨cx, hcx⟩ : ∃ a, x.itm.cap = a := ⟨_, rfl⟩
        rw [hAx, hcx] at h33
        clear hwa hl hx hrow hVL hVl hVa hbra hbr hxo hAx hcx
        go_upto_region 6 with (first
          | (refine wpList_load_mid rfl _ _ rfl b (off + k * 34) rfl VL _ hrg Tryz.underlying50 rfl HVi.out ?_)
          | (refine wpList_allocZ8 rfl 50 rfl CZ.toArray (HZ.out _) ?_)
          | (refine wpList_store_row rfl _ _ _ rfl wr.heap.size VL.toArray rfl rfl 50 CZ.toArray (heap_alloc_new wr _) HVj.out HVz.out HV1.out ?_; rw [← Hwa.out]))
        by_cases hlong : 200 < l
        · have hd2 : decide ((200 : Int) < (l : Int)) = true := by simp; omega
          have hg := Lib.hid (great8_long Hx.out (by rw [Hl.out]; exact hlong))
          go_wp2_with fail
          go_ret
          exact ⟨by rw [hg.out]; rfl, hba⟩
        · have hd2 : decide ((200 : Int) < (l : Int)) = false := by simp; omega
          have Hr' : Hid (∀ (j : Nat) (y : Cl8), j < k + 1 → xs[j]? = some y → y.itm.val.length ≤ 200) := fun j y hj hy => by
            by_cases e : j = k
            · subst e
              rw [Hx.out] at hy
              injection hy with hy
              rw [← hy, Hl.out]
              omega
            · exact Hr.out j y (by omega) hy
          go_wp2_with fail
          go_roundw
          case rel => exact ⟨k + 1, by omega, by go_num, hba, Hr'⟩
          case measure => simp [intOf]; omega
      · have hd1 : decide ((k : Int) < (n : Int)) = false := by simp; omega
        have hg := Lib.hid (great8_none (xs := xs) (by rw [Hn.out]; omega) (fun j x hx => Hr.out j x (by have := (List.getElem?_eq_some_iff.1 hx).1; rw [Hn.out] at this; omega) hx))
        go_wp2_with fail
        go_ret
        exact ⟨by rw [hg.out]; rfl, hbr⟩

end Go.Proofs.YtjbiegbdnppncaaGreat

namespace Go.Proofs.YtjbiegbdnppncaaGreat
open Go.RowKit
set_option linter.unusedVariables false
set_option linter.unusedSimpArgs false

def Uni (xs : List Itm) : Prop := xs.Pairwise fun a b => a.key ≠ b.key
theorem putL_inv (key : List UInt8) (y : Itm) (hy : y.key = key) : ∀ (xs : List Itm) (s : List Itm × Bool), Uni xs → Uni s.1 → (∀ a ∈ s.1, a.key = key → s.2 = true) → (∀ a ∈ s.1, ∀ x ∈ xs, a.key = x.key → a.key = key) →
    Uni (xs.foldl (putS key y) s).1 ∧ (∀ a ∈ (xs.foldl (putS key y) s).1, a.key = key → (xs.foldl (putS key y) s).2 = true) ∧ (∀ a ∈ (xs.foldl (putS key y) s).1, a ∈ s.1 ∨ a = y ∨ a ∈ xs) ∧
      (xs.foldl (putS key y) s).1.length + (if (xs.foldl (putS key y) s).2 then 0 else 1) ≤ s.1.length + (if s.2 then 0 else 1) + xs.length
  | [], s, _, h1, h2, _ => ⟨h1, h2, fun a ha => .inl ha, Nat.le_refl _⟩
  | x :: xs, (out, dn), hu, h1, h2, h3 => by
    obtain ⟨hux, hu'⟩ := List.pairwise_cons.1 hu
    obtain ⟨s1, hs1⟩ : ∃ s1, putS key y (out, dn) x = s1 := ⟨_, rfl⟩
    have e1 : s1.1 = out ++ (if dn = false ∧ lessF x.key key = false then [y] else []) ++ (if x.key = key then [] else [x]) := by rw [← hs1]; rfl
    have e2 : s1.2 = (dn || !lessF x.key key) := by rw [← hs1]; rfl
    have mem1 : ∀ a ∈ s1.1, a ∈ out ∨ (a = y ∧ dn = false ∧ lessF x.key key = false) ∨ (a = x ∧ x.key ≠ key) := by
      intro a ha
      rw [e1] at ha
      rcases List.mem_append.1 ha with ha | ha
      · rcases List.mem_append.1 ha with ha | ha
        · exact .inl ha
        · split at ha
          · rename_i hc
            rw [List.mem_singleton] at ha
            exact .inr (.inl ⟨ha, hc⟩)
          · cases ha
      · split at ha
        · cases ha
        · rename_i hc
          rw [List.mem_singleton] at ha
          exact .inr (.inr ⟨ha, hc⟩)
    have u1 : Uni s1.1 := by
      unfold Uni
      rw [e1, List.pairwise_append]
      refine ⟨?_, ?_, ?_⟩
      · rw [List.pairwise_append]
        refine ⟨h1, ?_, ?_⟩
        · split <;> simp
        · intro a ha b hb e
          split at hb
          · rename_i hc
            rw [List.mem_singleton] at hb
            subst hb
            have := h2 a ha (by rw [e, hy])
            simp only at this
            rw [hc.1] at this
            cases this
          · cases hb
      · split <;> simp
      · intro a ha b hb e
        split at hb
        · cases hb
        · rename_i hc
          rw [List.mem_singleton] at hb
          subst hb
          rcases List.mem_append.1 ha with ha | ha
          · exact hc (by rw [← e]; exact h3 a ha b List.mem_cons_self e)
          · split at ha
            · rw [List.mem_singleton] at ha
              subst ha
              exact hc (by rw [← e, hy])
            · cases ha
    have k1 : ∀ a ∈ s1.1, a.key = key → s1.2 = true := by
      intro a ha e
      rw [e2]
      rcases mem1 a ha with h | ⟨_, _, h⟩ | ⟨h, hc⟩
      · have := h2 a h e
        simp only at this
        rw [this]; rfl
      · rw [h]; simp
      · rw [h] at e; exact absurd e hc
    have c1 : ∀ a ∈ s1.1, ∀ z ∈ xs, a.key = z.key → a.key = key := by
      intro a ha z hz e
      rcases mem1 a ha with h | ⟨h, _⟩ | ⟨h, hc⟩
      · exact h3 a h z (List.mem_cons_of_mem _ hz) e
      · rw [h, hy]
      · rw [h] at e
        exact absurd e (hux z hz)
    have l1 : s1.1.length + (if s1.2 then 0 else 1) ≤ out.length + (if dn then 0 else 1) + 1 := by
      rw [e1, e2]
      simp only [List.length_append]
      cases dn <;> cases lessF x.key key <;> simp <;> split <;> simp <;> omega
    obtain ⟨r1, r2, r3, r4⟩ := putL_inv key y hy xs s1 hu' u1 k1 c1
    rw [List.foldl_cons, hs1]
    refine ⟨r1, r2, fun a ha => ?_, by simp only [List.length_cons]; omega⟩
    rcases r3 a ha with h | h | h
    · rcases mem1 a h with h | ⟨h, _⟩ | ⟨h, _⟩
      · exact .inl h
      · exact .inr (.inl h)
      · exact .inr (.inr (by rw [h]; simp))
    · exact .inr (.inl h)
    · exact .inr (.inr (List.mem_cons_of_mem _ h))
theorem putI_facts (key : List UInt8) (y : Itm) (hy : y.key = key) (xs : List Itm) (hu : Uni xs) : Uni (putI key y xs) ∧ (∀ a ∈ putI key y xs, a = y ∨ a ∈ xs) ∧ (putI key y xs).length ≤ xs.length + 1 := by
  obtain ⟨h1, h2, h3, h4⟩ := putL_inv key y hy xs ([], false) hu List.Pairwise.nil (fun a ha => by simp at ha) (fun a ha => by simp at ha)
  have e : putL key y xs = xs.foldl (putS key y) ([], false) := rfl
  rw [← e] at h1 h2 h3 h4
  unfold putI
  cases hd : (putL key y xs).2 with
  | true =>
    rw [hd] at h4
    refine ⟨by simpa using h1, fun a ha => ?_, by simp at h4 ⊢; omega⟩
    rcases h3 a (by simpa using ha) with h | h | h
    · simp at h
    · exact .inl h
    · exact .inr h
  | false =>
    rw [hd] at h4
    simp only [Bool.false_eq_true, if_false]
    refine ⟨?_, fun a ha => ?_, by simp at h4 ⊢; omega⟩
    · unfold Uni
      rw [List.pairwise_append]
      refine ⟨h1, by simp, fun a ha b hb e2 => ?_⟩
      rw [List.mem_singleton] at hb
      subst hb
      have := h2 a ha (by rw [e2, hy])
      rw [hd] at this
      cases this
    · rcases List.mem_append.1 ha with ha | ha
      · rcases h3 a ha with h | h | h
        · simp at h
        · exact .inl h
        · exact .inr h
      · rw [List.mem_singleton] at ha
        exact .inl ha

/-- What calls lead to. -/
def playS (xs : List Itm) (x : Cl8) : List Itm := if x.what = 0 then putI x.itm.key x.itm xs else dropI xs x.itm.key
def playI (cs : List Cl8) : List Itm := cs.foldl playS []
theorem playI_take {cs : List Cl8} {i : Nat} {x : Cl8} (h : cs[i]? = some x) : playI (cs.take (i + 1)) = playS (playI (cs.take i)) x := by
  obtain ⟨hi, he⟩ := List.getElem?_eq_some_iff.1 h
  unfold playI
  rw [List.take_succ_eq_append_getElem hi, List.foldl_append, he]
  rfl
theorem play_facts : ∀ (cs : List Cl8) (xs : List Itm), Uni xs → Uni (cs.foldl playS xs) ∧ (∀ a ∈ cs.foldl playS xs, a ∈ xs ∨ ∃ x ∈ cs, a = x.itm) ∧ (cs.foldl playS xs).length ≤ xs.length + cs.length
  | [], xs, h => ⟨h, fun a ha => .inl ha, Nat.le_refl _⟩
  | c :: cs, xs, h => by
    have h1 : Uni (playS xs c) ∧ (∀ a ∈ playS xs c, a ∈ xs ∨ a = c.itm) ∧ (playS xs c).length ≤ xs.length + 1 := by
      unfold playS
      split
      · obtain ⟨p1, p2, p3⟩ := putI_facts c.itm.key c.itm rfl xs h
        exact ⟨p1, fun a ha => (p2 a ha).symm, p3⟩
      · refine ⟨h.filter _, fun a ha => .inl (List.mem_filter.1 ha).1, ?_⟩
        have := dropI_len xs c.itm.key
        omega
    obtain ⟨r1, r2, r3⟩ := play_facts cs (playS xs c) h1.1
    rw [List.foldl_cons]
    refine ⟨r1, fun a ha => ?_, by simp only [List.length_cons]; have := h1.2.2; omega⟩
    rcases r2 a ha with h | ⟨x, hx, h⟩
    · rcases h1.2.1 a h with h | h
      · exact .inl h
      · exact .inr ⟨c, by simp, h⟩
    · exact .inr ⟨x, List.mem_cons_of_mem _ hx, h⟩
theorem playI_facts (cs : List Cl8) : Uni (playI cs) ∧ (∀ a ∈ playI cs, ∃ x ∈ cs, a = x.itm) ∧ (playI cs).length ≤ cs.length := by
  obtain ⟨h1, h2, h3⟩ := play_facts cs [] List.Pairwise.nil
  refine ⟨h1, fun a ha => ?_, by have := h3; simp only [List.length_nil, Nat.zero_add] at this; exact this⟩
  rcases h2 a ha with h | h
  · cases h
  · exact h
theorem Uni.good {xs : List Itm} (h : Uni xs) (h32 : ∀ x ∈ xs, x.key.length = 32) : Good (xs.map Itm.it) :=
  ⟨fun a ha => by obtain ⟨x, hx, rfl⟩ := List.mem_map.1 ha; exact h32 x hx, List.pairwise_map.2 h⟩

/-- Where a key stands, and what is told of it. -/
theorem findI_facts (key : List UInt8) : ∀ (xs : List Itm) (k : Nat), (findF (xs.map Itm.it) key = none ∧ findI xs key k = -1) ∨ ∃ (j : Nat) (x : Itm), xs[j]? = some x ∧ findF (xs.map Itm.it) key = some x.val ∧ findI xs key k = ((k + j : Nat) : Int)
  | [], k => .inl ⟨rfl, rfl⟩
  | x :: xs, k => by
    have e : findI (x :: xs) key k = if x.key = key then (k : Int) else findI xs key (k + 1) := rfl
    by_cases hx : x.key = key
    · refine .inr ⟨0, x, rfl, ?_, by rw [e, if_pos hx]; rfl⟩
      unfold findF
      simp [Itm.it, hx]
    · have ef : findF ((x :: xs).map Itm.it) key = findF (xs.map Itm.it) key := by
        unfold findF
        simp [Itm.it, hx]
      rw [e, if_neg hx, ef]
      rcases findI_facts key xs (k + 1) with ⟨h1, h2⟩ | ⟨j, y, h1, h2, h3⟩
      · exact .inl ⟨h1, h2⟩
      · exact .inr ⟨j + 1, y, by simpa using h1, h2, by rw [h3]; congr 1; omega⟩

end Go.Proofs.YtjbiegbdnppncaaGreat

namespace Go.Proofs.YtjbiegbdnppncaaGreat
open Go.RowKit
set_option linter.unusedVariables false
set_option linter.unusedSimpArgs false

def playF (l : List It) (x : Cl8) : List It := if x.what = 0 then putF x.itm.key x.itm.val l else dropF x.itm.key l
theorem play_rise : ∀ (cs : List Cl8) (xs : List Itm), (∀ x ∈ cs, x.itm.key.length = 32) → (∀ x ∈ xs, x.key.length = 32) → Rise (xs.map Itm.it) →
    Rise ((cs.foldl playS xs).map Itm.it) ∧ (∀ x ∈ cs.foldl playS xs, x.key.length = 32) ∧ (cs.foldl playS xs).map Itm.it = cs.foldl playF (xs.map Itm.it)
  | [], xs, _, h32, hr => ⟨hr, h32, rfl⟩
  | c :: cs, xs, hc, h32, hr => by
    have hk := hc c (by simp)
    have e : (playS xs c).map Itm.it = playF (xs.map Itm.it) c := by
      unfold playS playF
      split
      · exact putI_items hk c.itm rfl xs hr h32
      · exact dropI_items c.itm.key xs
    have hr1 : Rise ((playS xs c).map Itm.it) := by
      rw [e]
      unfold playF
      split
      · exact hr.put _ _
      · exact hr.drop _
    have h1 : ∀ x ∈ playS xs c, x.key.length = 32 := by
      have hm32 : ∀ x ∈ xs.map Itm.it, x.1.length = 32 := fun x hx => by obtain ⟨y, hy, rfl⟩ := List.mem_map.1 hx; exact h32 y hy
      have q : ∀ x ∈ (playS xs c).map Itm.it, x.1.length = 32 := by
        rw [e]
        unfold playF
        split
        · exact putF_32 hk hm32
        · exact fun x hx => hm32 x ((mem_dropF x).1 hx).1
      exact fun x hx => q x.it (List.mem_map.2 ⟨x, hx, rfl⟩)
    obtain ⟨r1, r2, r3⟩ := play_rise cs (playS xs c) (fun x hx => hc x (by simp [hx])) h1 hr1
    rw [List.foldl_cons, List.foldl_cons]
    exact ⟨r1, r2, by rw [r3, e]⟩
theorem playI_rise (cs : List Cl8) (hc : ∀ x ∈ cs, x.itm.key.length = 32) : Rise ((playI cs).map Itm.it) ∧ (∀ x ∈ playI cs, x.key.length = 32) ∧ (playI cs).map Itm.it = cs.foldl playF [] :=
  play_rise cs [] hc (by simp) List.Pairwise.nil

/-- The root hangs on keys and values alone: what is put last for each key, whatever was there, with the other ones taken out. -/
theorem puts_mem : ∀ (l : List It) (m : List It), (∀ x ∈ l, x.1.length = 32) → (∀ x ∈ m, x.1.length = 32) → Rise m → l.Pairwise (fun x y => x.1 ≠ y.1) →
    Rise (l.foldl (fun m x => putF x.1 x.2 m) m) ∧ (∀ x ∈ l.foldl (fun m x => putF x.1 x.2 m) m, x.1.length = 32) ∧ ∀ x, x ∈ l.foldl (fun m x => putF x.1 x.2 m) m ↔ x ∈ l ∨ (x ∈ m ∧ ∀ y ∈ l, y.1 ≠ x.1)
  | [], m, _, m32, hm, _ => ⟨hm, m32, fun x => by simp⟩
  | a :: l, m, l32, m32, hm, hp => by
    obtain ⟨hpa, hp'⟩ := List.pairwise_cons.1 hp
    have hk := l32 a (by simp)
    obtain ⟨h1, h2, h3⟩ := puts_mem l (putF a.1 a.2 m) (fun x hx => l32 x (by simp [hx])) (putF_32 hk m32) (hm.put _ _) hp'
    rw [List.foldl_cons]
    refine ⟨h1, h2, fun x => ?_⟩
    rw [h3, mem_putF hk m32]
    constructor
    · rintro (h | ⟨h | ⟨h, hn⟩, hy⟩)
      · exact .inl (List.mem_cons_of_mem _ h)
      · exact .inl (by rw [h]; simp)
      · refine .inr ⟨h, fun y hy2 => ?_⟩
        rcases List.mem_cons.1 hy2 with rfl | h4
        · exact fun e => hn e.symm
        · exact hy y h4
    · rintro (h | ⟨h, hy⟩)
      · rcases List.mem_cons.1 h with rfl | h
        · exact .inr ⟨.inl rfl, fun y hy e => hpa y hy e.symm⟩
        · exact .inl h
      · exact .inr ⟨.inr ⟨h, fun e => hy a (by simp) e.symm⟩, fun y hy2 => hy y (by simp [hy2])⟩
theorem drops_mem : ∀ (ks : List (List UInt8)) (m : List It), Rise m → Rise (ks.foldl (fun m k => dropF k m) m) ∧ ∀ x, x ∈ ks.foldl (fun m k => dropF k m) m ↔ x ∈ m ∧ x.1 ∉ ks
  | [], m, hm => ⟨hm, fun x => by simp⟩
  | k :: ks, m, hm => by
    obtain ⟨h1, h2⟩ := drops_mem ks (dropF k m) (hm.drop k)
    rw [List.foldl_cons]
    refine ⟨h1, fun x => ?_⟩
    rw [h2, mem_dropF]
    simp only [List.mem_cons, not_or]
    constructor
    · rintro ⟨⟨h, h3⟩, h4⟩; exact ⟨h, h3, h4⟩
    · rintro ⟨h, h3, h4⟩; exact ⟨⟨h, h3⟩, h4⟩

end Go.Proofs.YtjbiegbdnppncaaGreat

namespace Go.Proofs.YtjbiegbdnppncaaGreat
open Go.RowKit
set_option linter.unusedVariables false
set_option linter.unusedSimpArgs false

theorem cl8k_key {w : World} {b : Nat} {x : Cl8} {T : TypeId} (h : Arr w b T (clC x)) (XL : List Value) (hX : XL = Lib.byteCells x.itm.key) : w.rangeAt b 1 XL := fun j v hj => by
  have := h.cell (1 + j)
  rw [this]
  subst hX
  unfold clC itC
  rw [Nat.add_comm, List.getElem?_cons_succ, List.getElem?_append_left (List.getElem?_eq_some_iff.1 hj).1]
  exact hj
theorem cl8k_val {w : World} {b : Nat} {x : Cl8} {T : TypeId} (h : Arr w b T (clC x)) (h32 : x.itm.key.length = 32) : w.cell? ⟨b, 33, none⟩ = some (.slice x.itm.adr x.itm.val.length x.itm.cap) := by
  rw [h.cell]
  unfold clC itC
  rw [List.getElem?_cons_succ, List.getElem?_append_right (by rw [Lib.byteCells_length, h32]; exact Nat.le_refl _), Lib.byteCells_length, h32]
  rfl
theorem cl8k_what {w : World} {b : Nat} {x : Cl8} {T : TypeId} (h : Arr w b T (clC x)) : w.cell? ⟨b, 0, none⟩ = some (.int .i64 x.what) := by
  rw [h.cell]
  rfl
theorem IRow.onlyA {w w' : World} {B : Nat} {v : Value} {xs : List Itm} (h : IRow w B v xs) {a : Nat} {T : TypeId} {cs : List Value} (ha : Arr w a T cs) (hT : T ≠ 40) (hO : Only (fun k => k = a) w w') : IRow w' B v xs := by
  have hap := h.apartI ha hT
  refine ⟨h.1, h.2.1, ?_⟩
  rcases h.2.2 with hn | ⟨g, cap, cur, rfl, h1, hg, rest⟩
  · exact .inl hn
  · exact .inr ⟨g, cap, cur, rfl, h1, (hO.block g (Array.getElem?_eq_some_iff.1 hg).1 (hap g rfl)).trans hg, rest⟩
theorem play_it {cs : List Cl8} (h32 : ∀ x ∈ cs, x.itm.key.length = 32) {i : Nat} {x : Cl8} (hx : cs[i]? = some x) :
    (x.what = 0 → (playI (cs.take (i + 1))).map Itm.it = putF x.itm.key x.itm.val ((playI (cs.take i)).map Itm.it)) ∧ (x.what ≠ 0 → (playI (cs.take (i + 1))).map Itm.it = dropF x.itm.key ((playI (cs.take i)).map Itm.it)) := by
  obtain ⟨hr, hk, _⟩ := playI_rise (cs.take i) (fun y hy => h32 y (List.mem_of_mem_take hy))
  rw [playI_take hx]
  unfold playS
  refine ⟨fun h => ?_, fun h => ?_⟩
  · rw [if_pos h]
    exact putI_items (h32 x (List.mem_of_getElem? hx)) x.itm rfl _ hr hk
  · rw [if_neg h]
    exact dropI_items _ _
theorem has_find (xs : List Itm) (key : List UInt8) : hasF (xs.map Itm.it) key = decide (0 ≤ findI xs key 0) := by
  rcases findI_facts key xs 0 with ⟨h1, h2⟩ | ⟨j, x, hj, h1, h2⟩
  · rw [h2]
    have : hasF (xs.map Itm.it) key = false := by
      unfold hasF
      refine List.any_eq_false.2 fun y hy => ?_
      intro q
      have q : y.1 = key := by simpa using q
      unfold findF at h1
      rw [Option.map_eq_none_iff] at h1
      exact (List.find?_eq_none.1 h1) y hy (by simpa using q)
    rw [this]; rfl
  · rw [h2]
    have : hasF (xs.map Itm.it) key = true := by
      unfold hasF
      unfold findF at h1
      rw [Option.map_eq_some_iff] at h1
      obtain ⟨y, hy, _⟩ := h1
      exact List.any_eq_true.2 ⟨y, List.mem_of_find?_eq_some hy, by simpa using List.find?_some hy⟩
    rw [this]
    exact (decide_eq_true (by omega)).symm

theorem wp_append_bsT {P : Program} {o : Oper} {a : Act} {w : World} {K : Act → World → Prop} {Q : Exit → Act → World → Prop} (s x : Operand) (t : TypeId)
    (ho : o.op = .call { callee := .builtin .append, args := #[s, x], argTypes := #[t, t] })
    (base : Nat) (e : TypeId) (i : TypeInfo) (z : Value) (ht : P.underlying t = some (.slice e)) (hi : P.info? e = some i) (hz : i.zero = some z)
    (hsize : i.size = 1) (hby : i.bytes = 1) (hzs : z.cells.size = 1) (v : Value) (xs : List UInt8) (hs : a.eval s = v) (hown : Owns w base e v xs) (B : Nat) (X : Option Addr) (m c : Nat) (l : List UInt8) (hx : a.eval x = .slice X m c) (hm : l.length = m) (hb : Bs w B X l)
    (hlim : xs.length + m ≤ 140737488355328) (hbase : base ≤ w.heap.size)
    (h : ∀ v' w', Owns w' base e v' (xs ++ l) → Grew w w' v v' → K (a.put o.dst v') w') : o.wp P a w K Q := by
  obtain ⟨v', w', hrun, h2, h3⟩ := run_append_bs (P := P) w base t o.type e i z ht hi hz hsize hby hzs v xs hown B X m c l hm hb hlim hbase
  unfold Oper.wp execOp
  simp only [ho, resolve, invoke, builtin, Sem.run_bind, Sem.run_pure, Result.andThen_ok, List.map_toArray, List.map_cons, List.map_nil, hs, hx, hrun]
  exact h v' w' h2 h3

set_option maxHeartbeats 16000000 in
set_option maxRecDepth 100000 in
theorem play8_run (cs : List Cl8) (A : Option Addr) (n c : Nat) (w : World) (M0 : Wood) (hS0 : Stand M0 w) (hsep0 : M0.Sep) (hn : cs.length = n) (hn50 : n ≤ 50) (hc : n ≤ c) (hm : c ≤ maxLen) (hcs : Cls8 w w.heap.size A cs) (hvs : ∀ x ∈ cs, x.itm.val.length ≤ 200) :
    Calls Tryz.prog 11 #[.slice A n c] w fun e w' => ∃ a v p M, e = .returned (.tuple #[.pointer (some ⟨a, 0, none⟩), v]) ∧ w.heap.size ≤ a ∧ IRow w' w.heap.size v (playI cs) ∧ Stand M w' ∧ (M.Sep ∧ M0.Up M w.heap.size ∧ M0.le M) ∧ Arr w' a 63 [.pointer p] ∧ RootAt M p ((playI cs).map Itm.it) ∧ Below w.heap.size w w' := by
  obtain ⟨i0, hi, hz0, hz1, hz2⟩ := info_parts byteInfo
  obtain ⟨CZ, hCZ⟩ : ∃ CZ, CZ = clZ := ⟨_, rfl⟩
  have HZ := Lib.hid (fun w : World => show (zeroValue 50).run Tryz.prog w = .ok (.agg CZ.toArray) w by rw [hCZ]; exact callZero w)
  have HZl := Lib.hid (show CZ.length = 34 by rw [hCZ]; rfl)
  have h32 : ∀ x ∈ cs, x.itm.key.length = 32 := fun x hx => (hcs.1 x hx).k32
  have Hn := Lib.hid hn
  have Hcs := Lib.hid hcs
  have Hvs := Lib.hid hvs
  have H32 := Lib.hid h32
  have hm63 : c ≤ 9223372036854775807 := by unfold maxLen at hm; exact hm
  clear hCZ hn hcs hvs h32
  go_enter Tryz.func11, Tryz.ntmps11
  go_wp2_with fail
  go_at_call 22
  refine Calls.mono (new_run w) ?_
  rintro e w1 ⟨rfl, hN1, hb1⟩
  obtain ⟨a, ha⟩ : ∃ a, w.heap.size = a := ⟨_, rfl⟩
  have Ha := Lib.hid ha
  rw [ha] at hN1 ⊢
  have hlt : a < w1.heap.size := hN1.lt
  obtain ⟨W2, hW2⟩ : ∃ W, W = w1.alloc (.cells #[] 40) := ⟨_, rfl⟩
  have hb2 : Below w.heap.size w W2 := by rw [hW2]; exact hb1.alloc hb1.size _
  have hR2 : IRow W2 w.heap.size (.slice (some ⟨w1.heap.size, 0, none⟩) 0 0) (playI (cs.take 0)) := by rw [hW2]; exact IRow.empty w1 _ hb1.size
  have hA2 : Arr W2 a 63 [.pointer none] := by rw [hW2]; exact hN1.alloc _
  have hS2 : Stand M0 W2 := hS0.up hb2
  have HW2 := Lib.hid hW2
  rw [ha] at hb2 hR2
  clear hW2 hN1 hb1 ha
  dsimp only
  go_upto_region 3 with fail
  change Code.wp _ _ _ _ (w1.alloc (.cells #[] 40))
  rw [← HW2.out]
  clear HW2
  go_loopw [5, 12] (fun lv iv wr => ∃ i : Nat, i ≤ n ∧ iv = .int .i64 i ∧ Below a w wr ∧ IRow wr a lv (playI (cs.take i)) ∧ ∃ p M, Stand M wr ∧ (M.Sep ∧ M0.Up M a ∧ M0.le M) ∧ Arr wr a 63 [.pointer p] ∧ RootAt M p ((playI (cs.take i)).map Itm.it)) (fun _ iv _ => n - (intOf iv).toNat)
  case atStart => exact ⟨0, Nat.zero_le _, rfl, hb2, hR2, none, M0, hS2, ⟨hsep0, Wood.up_refl _ _, Wood.le_refl _⟩, hA2, .inl ⟨rfl, rfl⟩⟩
  case round =>
    clear hb2 hR2 hA2 hS2 hS0
    obtain ⟨i, hin, rfl, hbr, hRr, p, M, hSr, hsep, hAr, hRt⟩ := hrel
    by_cases hlt2 : i < n
    · have hd1 : decide ((i : Int) < (n : Int)) = true := by simp; omega
      obtain ⟨x, hx⟩ : ∃ x, cs[i]? = some x := ⟨cs[i]'(by rw [Hn.out]; exact hlt2), List.getElem?_eq_getElem _⟩
      obtain ⟨b, off, rfl, hblk, hrow⟩ := Hcs.out.2 (by rw [Hn.out]; omega)
      have hxm := List.mem_of_getElem? hx
      have hxo := Hcs.out.1 x hxm
      have hxv := Hvs.out x hxm
      obtain ⟨hpl1, hpl2⟩ := play_it H32.out hx
      obtain ⟨VL, hVL⟩ : ∃ VL, VL = clC x := ⟨_, rfl⟩
      have hVl : VL.length = 34 := by rw [hVL, clC_length hxo.k32]
      rw [Ha.out] at hblk
      have hrg : wr.rangeAt b (off + i * 34) VL := fun j v hj => by
        rw [hVL] at hj
        rw [← hrow i x hx j v hj]
        exact World.cell?_of_block (hbr.block b hblk)
      have HVi := Lib.hid (show (Tryz.prog.info? 50).map (·.size) = some VL.length by rw [hVl]; exact callSize)
      have HVj := Lib.hid (show (Tryz.prog.info? 50).map (·.size) = some VL.toArray.size by rw [List.size_toArray, hVl]; exact callSize)
      have HV1 := Lib.hid (show VL.toArray.all (·.oneCell') = true by rw [hVL]; exact all_oneCell_toArray (clC_one x))
      have HVz := Lib.hid (show CZ.toArray.size = VL.toArray.size by rw [List.size_toArray, List.size_toArray, HZl.out, hVl])
      obtain ⟨wa, hwa⟩ : ∃ W, W = (wr.alloc (.cells CZ.toArray 50)).setRow wr.heap.size VL.toArray := ⟨_, rfl⟩
      obtain ⟨hVa, hbra⟩ := alloc_row wr 50 CZ.toArray VL
      rw [← hwa] at hVa hbra
      obtain ⟨XL, hXL⟩ : ∃ XL, XL = Lib.byteCells x.itm.key := ⟨_, rfl⟩
      obtain ⟨l, hl⟩ : ∃ l, x.itm.val.length = l := ⟨_, rfl⟩
      obtain ⟨wh, hwh⟩ : ∃ wh, x.what = wh := ⟨_, rfl⟩
      obtain ⟨Ax, hAx⟩ : ∃ a, x.itm.adr = a := ⟨_, rfl⟩
      obtain ⟨cx, hcx⟩ : ∃ a, x.itm.cap = a := ⟨_, rfl⟩
      have hlc : l ≤ cx := by rw [← hl, ← hcx]; exact hxo.le
      have hbx : Bs wa wa.heap.size Ax x.itm.val := by
        rw [← hAx]
        have hba : Below a w wa := hbr.trans (hbra.mono (Nat.le_of_lt hAr.lt))
        exact (hxo.bs.below hba (Nat.le_of_eq Ha.out)).more (by have := hba.size; have := Ha.out; omega)
      have hck : ∀ w', Arr w' wr.heap.size 50 VL → w'.rangeAt wr.heap.size 1 XL := fun w' h => by rw [hVL] at h; exact cl8k_key h XL hXL
      have hcv : ∀ w', Arr w' wr.heap.size 50 VL → w'.cell? ⟨wr.heap.size, 33, none⟩ = some (.slice Ax l cx) := fun w' h => by rw [hVL] at h; have := cl8k_val h hxo.k32; rwa [hl, hAx, hcx] at this
      have h00 : wa.cell? ⟨wr.heap.size, 0, none⟩ = some (.int .i64 wh) := by have h := hVa; rw [hVL] at h; have := cl8k_what h; rwa [hwh] at this
      have HXi := Lib.hid (show (Tryz.prog.info? 24).map (·.size) = some XL.length by rw [hXL, Lib.byteCells_length, hxo.k32]; kernel_rfl)
      have Hck := Lib.hid hck
      have Hcv := Lib.hid hcv
      have hRa := hRr.up hbra
      have hSa := hSr.up hbra
      have hAa := hAr.below hbra hAr.lt
      have hba : Below a w wa := hbr.trans (hbra.mono (Nat.le_of_lt hAr.lt))
      have hn1' : (playI (cs.take i)).length ≤ 100000 := by
        have := (playI_facts (cs.take i)).2.2
        simp only [List.length_take] at this
        omega
      have Hplay := Lib.hid (playI_take hx)
      have Hp1 := Lib.hid hpl1
      have Hp2 := Lib.hid hpl2
      have Hn1 := Lib.hid hn1'
      have HAr := Lib.hid hAr.lt
      have Hwa := Lib.hid hwa
      have Hl := Lib.hid hl
      have Hwh := Lib.hid hwh
      have Hy := Lib.hid (show x.itm = ⟨x.itm.key, x.itm.val, Ax, cx⟩ by rw [← hAx, ← hcx])
      have HXL := Lib.hid hXL
      have Hxk := Lib.hid hxo.k32
      have hl200 : l ≤ 200 := by rw [← hl]; exact hxv
      clear hwa hl hx hrow hVL hVl hbra hbr hxo hAx hcx hXL hRr hwh hSr hAr hpl1 hpl2 hck hcv hxm hn1' hxv
      go_upto_region 5 with (first
        | (refine wpList_load_mid rfl _ _ rfl b (off + i * 34) rfl VL _ hrg Tryz.underlying50 rfl HVi.out ?_)
        | (refine wpList_allocZ8 rfl 50 rfl CZ.toArray (HZ.out _) ?_)
        | (refine wpList_store_row rfl _ _ _ rfl wr.heap.size VL.toArray rfl rfl 50 CZ.toArray (heap_alloc_new wr _) HVj.out HVz.out HV1.out ?_; rw [← Hwa.out]))
      by_cases h0 : wh = 0
      · subst h0
        go_upto_region 6 with fail
        refine wp_region_held_drew (S := fun w' => Arr w' wr.heap.size 50 VL) (by kernel_rfl) (hVa.drewN 1) (fun hHeld => ?_)
        refine anyH_take (i := 0) (v := .pointer (some ⟨a, 0, none⟩)) (some 19) rfl rfl (by kernel_rfl) (by kernel_rfl) (by kernel_rfl) (fun _ _ _ h => h) (Or.inl ⟨by rfl, fun w' hw => by rfl⟩) (by assumption) ?_
        simp only [Act.put, List.setIfInBounds_toArray, List.set_cons_zero, List.set_cons_succ]
        refine anyH_take (i := 1) (v := .pointer (some ⟨wr.heap.size, 1, none⟩)) (some 20) rfl rfl (by kernel_rfl) (by kernel_rfl) (by kernel_rfl) (fun _ _ _ h => h) (Or.inl ⟨by rfl, fun w' hw => by go_simp⟩) (by assumption) ?_
        simp only [Act.put, List.setIfInBounds_toArray, List.set_cons_zero, List.set_cons_succ]
        refine anyH_take (i := 2) (some 21) rfl rfl (by kernel_rfl) (by kernel_rfl) (by kernel_rfl) (fun _ _ _ h => h) (yieldsIf_load_mid (by rfl) 24 (.tmp 20) rfl wr.heap.size 1 rfl XL _ (fun w' h => Hck.out w' h) Tryz.underlying24 rfl HXi.out) (by assumption) ?_
        simp only [Act.put, List.setIfInBounds_toArray, List.set_cons_zero, List.set_cons_succ]
        refine anyH_take (i := 4) (v := .pointer (some ⟨wr.heap.size, 33, none⟩)) (some 23) rfl rfl (by kernel_rfl) (by kernel_rfl) (by kernel_rfl) (fun _ _ _ h => h) (Or.inl ⟨by rfl, fun w' hw => by go_simp⟩) (by assumption) ?_
        simp only [Act.put, List.setIfInBounds_toArray, List.set_cons_zero, List.set_cons_succ]
        refine anyH_take (i := 5) (v := .slice Ax l cx) (some 24) rfl rfl (by kernel_rfl) (by kernel_rfl) (by kernel_rfl) (fun _ _ _ h => h) (Or.inl ⟨by rfl, fun w' hw => by (have hc := Hcv.out w' hw; go_simp)⟩) (by assumption) ?_
        simp only [Act.put, List.setIfInBounds_toArray, List.set_cons_zero, List.set_cons_succ]
        refine wpAnyH_ready (rs := [3]) (by kernel_rfl) (by simp) ?_
        refine AllReadyH.cons rfl (fun K hK => ?_) AllReadyH.nil
        go_simp
        have hV5 : Arr (wa.drew.alloc (.cells #[] 5)) wr.heap.size 50 VL := Arr.alloc (w := wa.drew) (hVa.drewN 1) _
        have hb5 : Below wa.heap.size wa (wa.drew.alloc (.cells #[] 5)) := (Below.dN (Below.refl _ wa) 1).alloc (Nat.le_refl _) _
        have hown5 : Owns (wa.drew.alloc (.cells #[] 5)) wa.heap.size 5 (.slice (some ⟨wa.heap.size, 0, none⟩) 0 0) [] := ⟨rfl, .inr ⟨wa.heap.size, 0, #[], rfl, Nat.le_refl _, heap_alloc_new wa.drew _, Nat.le_refl _, by unfold maxLen; omega, by simp, by simp [Lib.byteCells]⟩⟩
        have hsz5 : wa.heap.size ≤ (wa.drew.alloc (.cells #[] 5)).heap.size := hb5.size
        have hbx5 : Bs (wa.drew.alloc (.cells #[] 5)) wa.heap.size Ax x.itm.val := hbx.below hb5 (Nat.le_refl _)
        refine hK.out _ _ hV5 (fun hHeldx => ?_)
        clear hK K
        try simp only [Act.put, List.setIfInBounds_toArray, List.set_cons_zero, List.set_cons_succ]
        refine wpAnyH_ready (rs := [6]) (by kernel_rfl) (by simp) ?_
        refine AllReadyH.cons rfl (fun K hK => ?_) AllReadyH.nil
        rw [if_pos (by rfl)]
        refine wp_append_bsT _ _ 38 rfl wa.heap.size 5 i0 (.int .u8 0) Tryz.underlying38 hi hz0 hz1 hz2 rfl _ [] rfl hown5 wa.heap.size Ax l cx x.itm.val rfl Hl.out hbx5 (by simp; omega) hsz5 ?_
        intro v6 w6 hown6 hg6
        have hb56 : Below wa.heap.size (wa.drew.alloc (.cells #[] 5)) w6 := hg6.below hsz5 (fun k hk => (hown5.lt k hk).1)
        have hb6 : Below wa.heap.size wa w6 := hb5.trans hb56
        have hV6 := hVa.below hb6 hVa.lt
        obtain ⟨A6, c6, rfl, h61, h62, h63⟩ := hown6.slice
        rw [List.nil_append, Hl.out] at h61
        rw [List.nil_append] at h63
        refine hK.out _ _ hV6 (fun hHeldx2 => ?_)
        clear hK K hV5 hown5 hown6 hg6 hb5 hb56 hbx5 hsz5
        try simp only [Act.put, List.setIfInBounds_toArray, List.set_cons_zero, List.set_cons_succ, List.nil_append, Hl.out]
        refine wpAnyH_ready (rs := [7]) (by kernel_rfl) (by simp) ?_
        refine AllReadyH.cons rfl (fun K hK => ?_) AllReadyH.nil
        go_simp
        go_at_call 23
        have hA6 := hAa.below hb6 hAa.lt
        refine Calls.mono (tput_run a p M _ hRt x.itm.key x.itm.val XL HXL.out Hxk.out _ A6 l c6 w6 (hSa.up hb6) hsep.1 hA6 h63 Hl.out (by have := Hl.out; omega)) ?_
        rintro e w7 ⟨rfl, p7, M7, hle7, hS7, hsep7', hA7, hR7, hO7⟩
        have hsep7 : M7.Sep ∧ M0.Up M7 a ∧ M0.le M7 := ⟨hsep7', hsep.2.1.then (hle7.2.low (Nat.le_of_lt hA6.lt)), Wood.le_trans hsep.2.2 hle7.1⟩
        have hne7 : wr.heap.size ≠ a := Nat.ne_of_gt HAr.out
        have hV7 : Arr w7 wr.heap.size 50 VL := hV6.only hO7 hne7
        have hI7 := (hRa.up hb6).onlyA hA6 (by decide) hO7
        have hB7 : Below a w w7 := (hba.trans (hb6.mono (Nat.le_of_lt hAa.lt))).trans (hO7.below (Nat.le_of_lt hA6.lt) (fun k hk => Nat.le_of_eq hk.symm))
        refine hK.out _ _ hV7 (fun hHeldx3 => ?_)
        clear hK K
        try simp only [Act.put, List.setIfInBounds_toArray, List.set_cons_zero, List.set_cons_succ]
        refine wpAnyH_done (by kernel_rfl) ?_ _
        clear hHeld hHeldx hHeldx2 hHeldx3
        obtain ⟨A1, c1, rfl, h1c, h1m, hIt⟩ := hI7.slice
        obtain ⟨n1, hn1⟩ : ∃ n1, (playI (cs.take i)).length = n1 := ⟨_, rfl⟩
        rw [hn1] at h1c ⊢
        have hn5 : n1 ≤ 100000 := by rw [← hn1]; exact Hn1.out
        have Hnn := Lib.hid hn1
        have hxk7 := Hck.out w7 hV7
        have hxv7 := Hcv.out w7 hV7
        go_wp2_with (refine wpList_load_mid rfl _ _ rfl wr.heap.size 1 rfl XL _ hxk7 Tryz.underlying24 rfl HXi.out ?_)
        go_at_call 29
        refine Calls.mono (put_runI x.itm.key Hxk.out XL HXL.out (playI (cs.take i)) A1 Ax n1 c1 l cx x.itm.val Hl.out w7 Hnn.out h1c hn5 hIt x.itm Hy.out) ?_
        rintro e w8 ⟨v8, rfl, hR8, hb8⟩
        have hR9 : IRow w8 a v8 (playI (cs.take (i + 1))) := by
          rw [Hplay.out]
          unfold playS
          rw [if_pos Hwh.out]
          exact hR8.base (Nat.le_of_lt hA7.lt)
        have hRt9 : RootAt M7 p7 ((playI (cs.take (i + 1))).map Itm.it) := by rw [Hp1.out Hwh.out]; exact hR7
        have hS9 := hS7.up hb8
        have hA9 := hA7.below hb8 hA7.lt
        have hB9 : Below a w w8 := hB7.trans (hb8.mono (Nat.le_of_lt hA7.lt))
        clear hR8 hb8 hR7 hS7 hA7 hI7 hIt hxk7 hxv7 hV7 hB7 hO7 hSa hAa hRa hV6 hA6 hRt
        dsimp only
        go_wp2_with fail
        case roundEnd => exact ⟨⟨i + 1, by omega, by simp, hB9, hR9, p7, M7, hS9, hsep7, hA9, hRt9⟩, by simp [intOf]; omega⟩
      · have h0d : decide (wh = 0) = false := decide_eq_false h0
        obtain ⟨A1, c1, rfl, h1c, h1m, _⟩ := hRa.slice
        obtain ⟨n1, hn1⟩ : ∃ n1, (playI (cs.take i)).length = n1 := ⟨_, rfl⟩
        rw [hn1] at h1c hRa ⊢
        have hn5 : n1 ≤ 100000 := by rw [← hn1]; exact Hn1.out
        have Hnn := Lib.hid hn1
        obtain ⟨z, hz⟩ : ∃ z, findI (playI (cs.take i)) x.itm.key 0 = z := ⟨_, rfl⟩
        obtain ⟨hs, hhs⟩ : ∃ hs, hasF ((playI (cs.take i)).map Itm.it) x.itm.key = hs := ⟨_, rfl⟩
        have hzd : decide (0 ≤ z) = hs := by rw [← hhs, has_find, hz]
        have Hhs := Lib.hid hhs
        have Hz := Lib.hid hz
        clear hn1 hz hhs
        go_upto_region 8 with fail
        refine wp_region_held_drew (S := fun w' => Arr w' wr.heap.size 50 VL) (by kernel_rfl) (hVa.drewN 1) (fun hHeld => ?_)
        refine anyH_take (i := 0) (v := .pointer (some ⟨a, 0, none⟩)) (some 33) rfl rfl (by kernel_rfl) (by kernel_rfl) (by kernel_rfl) (fun _ _ _ h => h) (Or.inl ⟨by rfl, fun w' hw => by rfl⟩) (by assumption) ?_
        simp only [Act.put, List.setIfInBounds_toArray, List.set_cons_zero, List.set_cons_succ]
        refine anyH_take (i := 1) (v := .pointer (some ⟨wr.heap.size, 1, none⟩)) (some 34) rfl rfl (by kernel_rfl) (by kernel_rfl) (by kernel_rfl) (fun _ _ _ h => h) (Or.inl ⟨by rfl, fun w' hw => by go_simp⟩) (by assumption) ?_
        simp only [Act.put, List.setIfInBounds_toArray, List.set_cons_zero, List.set_cons_succ]
        refine anyH_take (i := 2) (some 35) rfl rfl (by kernel_rfl) (by kernel_rfl) (by kernel_rfl) (fun _ _ _ h => h) (yieldsIf_load_mid (by rfl) 24 (.tmp 34) rfl wr.heap.size 1 rfl XL _ (fun w' h => Hck.out w' h) Tryz.underlying24 rfl HXi.out) (by assumption) ?_
        simp only [Act.put, List.setIfInBounds_toArray, List.set_cons_zero, List.set_cons_succ]
        refine anyH_take (i := 4) (v := .slice A1 n1 c1) (some 37) rfl rfl (by kernel_rfl) (by kernel_rfl) (by kernel_rfl) (fun _ _ _ h => h) (Or.inl ⟨by rfl, fun w' hw => by rfl⟩) (by assumption) ?_
        simp only [Act.put, List.setIfInBounds_toArray, List.set_cons_zero, List.set_cons_succ]
        refine anyH_take (i := 5) (v := .pointer (some ⟨wr.heap.size, 1, none⟩)) (some 38) rfl rfl (by kernel_rfl) (by kernel_rfl) (by kernel_rfl) (fun _ _ _ h => h) (Or.inl ⟨by rfl, fun w' hw => by go_simp⟩) (by assumption) ?_
        simp only [Act.put, List.setIfInBounds_toArray, List.set_cons_zero, List.set_cons_succ]
        refine anyH_take (i := 6) (some 39) rfl rfl (by kernel_rfl) (by kernel_rfl) (by kernel_rfl) (fun _ _ _ h => h) (yieldsIf_load_mid (by rfl) 24 (.tmp 38) rfl wr.heap.size 1 rfl XL _ (fun w' h => Hck.out w' h) Tryz.underlying24 rfl HXi.out) (by assumption) ?_
        simp only [Act.put, List.setIfInBounds_toArray, List.set_cons_zero, List.set_cons_succ]
        refine wpAnyH_ready (rs := [3]) (by kernel_rfl) (by simp) ?_
        refine AllReadyH.cons rfl (fun K hK => ?_) AllReadyH.nil
        go_simp
        go_at_call 24
        have hb6 : Below wa.heap.size wa wa.drew := Below.dN (Below.refl _ wa) 1
        have hA6 : Arr wa.drew a 63 [.pointer p] := hAa.drewN 1
        refine Calls.mono (tdrop_run a p M _ hRt x.itm.key XL HXL.out Hxk.out wa.drew (hSa.up hb6) hsep.1 hA6) ?_
        rintro e w7 ⟨rfl, p7, M7, hle7, hS7, hsep7', hA7, hR7, hO7⟩
        have hsep7 : M7.Sep ∧ M0.Up M7 a ∧ M0.le M7 := ⟨hsep7', hsep.2.1.then (hle7.2.low (Nat.le_of_lt hA6.lt)), Wood.le_trans hsep.2.2 hle7.1⟩
        rw [Hhs.out]
        have hne7 : wr.heap.size ≠ a := Nat.ne_of_gt HAr.out
        have hV7 : Arr w7 wr.heap.size 50 VL := Arr.only (w := wa.drew) (hVa.drewN 1) hO7 hne7
        have hI7 := (hRa.up hb6).onlyA hA6 (by decide) hO7
        have hB7 : Below a w w7 := (hba.trans (hb6.mono (Nat.le_of_lt hAa.lt))).trans (hO7.below (Nat.le_of_lt hA6.lt) (fun k hk => Nat.le_of_eq hk.symm))
        refine hK.out _ _ hV7 (fun hHeldx => ?_)
        clear hK K
        try simp only [Act.put, List.setIfInBounds_toArray, List.set_cons_zero, List.set_cons_succ]
        have hIt7 : ItsAt w7 A1 (playI (cs.take i)) := by
          obtain ⟨A', c', q, _, _, hIt⟩ := hI7.slice
          injection q with q1 q2 q3
          rw [q1]; exact hIt
        refine wpAnyH_ready (rs := [7]) (by kernel_rfl) (by simp) ?_
        refine AllReadyH.cons rfl (fun K hK => ?_) AllReadyH.nil
        go_simp
        go_at_call 21
        refine Calls.mono (find_run x.itm.key Hxk.out XL HXL.out (playI (cs.take i)) A1 n1 c1 w7 Hnn.out h1c (by omega) hIt7 z Hz.out) ?_
        rintro e w8 ⟨rfl, hb8⟩
        have hV8 := hV7.below hb8 hV7.lt
        have hS8 := hS7.up hb8
        have hA8 := hA7.below hb8 hA7.lt
        have hI8 := hI7.up hb8
        have hB8 : Below a w w8 := hB7.trans (hb8.mono (Nat.le_of_lt hA7.lt))
        have hIt8 := hIt7.up hb8
        refine hK.out _ _ hV8 (fun hHeldx2 => ?_)
        clear hK K hb8 hS7 hA7 hI7 hB7 hIt7 hO7
        try simp only [Act.put, List.setIfInBounds_toArray, List.set_cons_zero, List.set_cons_succ]
        refine anyH_take (i := 8) (v := .bool hs) (some 41) rfl rfl (by kernel_rfl) (by kernel_rfl) (by kernel_rfl) (fun _ _ _ h => h) (Or.inl ⟨by rfl, fun w' hw => by go_simp⟩) (by assumption) ?_
        simp only [Act.put, List.setIfInBounds_toArray, List.set_cons_zero, List.set_cons_succ]
        refine anyH_take (i := 9) (v := .bool false) (some 42) rfl rfl (by kernel_rfl) (by kernel_rfl) (by kernel_rfl) (fun _ _ _ h => h) (Or.inl ⟨by rfl, fun w' hw => by go_simp⟩) (by assumption) ?_
        simp only [Act.put, List.setIfInBounds_toArray, List.set_cons_zero, List.set_cons_succ]
        refine wpAnyH_done (by kernel_rfl) ?_ _
        clear hHeld hHeldx hHeldx2
        have hxk8 := Hck.out w8 hV8
        go_wp2_with (refine wpList_load_mid rfl _ _ rfl wr.heap.size 1 rfl XL _ hxk8 Tryz.underlying24 rfl HXi.out ?_)
        go_at_call 30
        refine Calls.mono (drop_run x.itm.key Hxk.out XL HXL.out (playI (cs.take i)) A1 n1 c1 w8 Hnn.out h1c hn5 hIt8) ?_
        rintro e w9 ⟨v9, rfl, hR9', hb9⟩
        have hR9 : IRow w9 a v9 (playI (cs.take (i + 1))) := by
          rw [Hplay.out]
          unfold playS
          rw [if_neg (by rw [Hwh.out]; exact h0)]
          exact hR9'.base (Nat.le_of_lt hA8.lt)
        have hRt9 : RootAt M7 p7 ((playI (cs.take (i + 1))).map Itm.it) := by rw [Hp2.out (by rw [Hwh.out]; exact h0)]; exact hR7
        have hS9 := hS8.up hb9
        have hA9 := hA8.below hb9 hA8.lt
        have hB9 : Below a w w9 := hB8.trans (hb9.mono (Nat.le_of_lt hA8.lt))
        clear hR9' hb9 hR7 hS8 hA8 hI8 hIt8 hxk8 hV8 hB8 hSa hAa hRa hA6 hRt
        dsimp only
        go_wp2_with fail
        case roundEnd => exact ⟨⟨i + 1, by omega, by simp, hB9, hR9, p7, M7, hS9, hsep7, hA9, hRt9⟩, by simp [intOf]; omega⟩
    · obtain rfl : i = n := by omega
      have hd1 : decide ((i : Int) < (i : Int)) = false := by simp
      go_wp2_with fail
      have ht : cs.take i = cs := List.take_of_length_le (by rw [Hn.out]; exact Nat.le_refl _)
      rw [ht] at hRr hRt
      go_ret2
      exact ⟨a, _, p, M, rfl, Nat.le_of_eq Ha.out, by rw [Ha.out]; exact hRr, hSr, by rw [Ha.out]; exact hsep, hAr, hRt, by rw [Ha.out]; exact hbr⟩

end Go.Proofs.YtjbiegbdnppncaaGreat

namespace Go.Proofs.YtjbiegbdnppncaaGreat
open Go.RowKit Go.Shelf
set_option linter.unusedVariables false
set_option linter.unusedSimpArgs false

attribute [local go_sem] Oper.semAt_some

abbrev NodeOf (M : Wood) := { b : Nat // ∃ n, M b = some n }
def encS {M : Wood} (x : NodeOf M) : Array Value := #[.pointer (some ⟨x.1, 0, none⟩)]

set_option maxRecDepth 100000 in
set_option maxHeartbeats 4000000 in
/-- The closure of way, for every loop body that keeps what it reads. -/
theorem way1S_in (n : Nat) (hn : 1 ≤ n) (l Bt Bk a : Nat) (p0 : Option Addr) (M : Wood) (key : List UInt8) (KL : List Value) (hKL : KL = Lib.byteCells key) (hk : key.length = 32) (bs : List Nat) (B0 : Nat) (J Jx : List (NodeOf M) → World → Prop) (hJ : AbidesFrom B0 J) (Kp : World → World → Prop)
    (hKp : ∀ A B, Kp A B → WayMem M Bk KL A → WayMem M Bk KL B)
    (hY : ∀ pre x W, J pre W → pre.length < bs.length → YieldAt Fence.wide (n - 1) Tryz.prog l (encS x) W fun e W' =>
      (e = .returned (.bool true) ∧ J (pre ++ [x]) W' ∧ Kp W W') ∨ (e = .returned (.bool false) ∧ Jx (pre ++ [x]) W'))
    (W : World) (hBt : W.cell? ⟨Bt, 0, none⟩ = some (.pointer (some ⟨a, 0, none⟩))) (hroot : W.cell? ⟨a, 0, none⟩ = some (.pointer p0)) (hM : WayMem M Bk KL W) (hway : IsWay M key p0 bs) (h0 : J [] W) :
    CallsIn Fence.wide n Tryz.prog 57 #[.func (.yield l) #[] #[], .pointer (some ⟨Bt, 0, none⟩), .pointer (some ⟨Bk, 0, none⟩)] W fun e W' => (∃ v, e = .returned v) ∧
      ((∃ ys, ys.map (fun x => x.1) = bs ∧ J ys W') ∨ (∃ pre, pre.map (fun x => x.1) <+: bs ∧ Jx pre W')) := by
  have Hki := Lib.hid (show (Tryz.prog.info? 24).map (·.size) = some KL.toArray.size by rw [hKL, dig_size hk]; kernel_rfl)
  have Hnext : Hid (∀ b nd, M b = some nd → ∀ w, Stand M w → Calls Tryz.prog 58 #[.pointer (some ⟨b, 0, none⟩), .agg KL.toArray] w fun e w' => e = .returned (.pointer (nextP nd key)) ∧ Below w.heap.size w w') := fun b nd h w hS => next_wood M b nd h key KL hKL hk w hS
  have HJ := Lib.hid hJ
  have HKp := Lib.hid hKp
  clear hKL hJ hKp
  refine callsIn_of_wp Tryz.func57 rfl trivial ?_ rfl
  simp only [Tryz.ntmps57, List.size_toArray, List.length_cons, List.length_nil, Nat.reduceAdd, Nat.reduceSub, Array.replicate_succ, Array.replicate_zero, List.push_toArray, List.append_toArray, List.nil_append, List.cons_append]
  gi_wp2
  gi_loopw [4] (fun p wr => ∃ (pre : List (NodeOf M)) (rest : List Nat) (q : Option Addr), p = .pointer q ∧ bs = pre.map (fun x => x.1) ++ rest ∧ IsWay M key q rest ∧ J pre wr ∧ WayMem M Bk KL wr) (fun p wr => leftW M key p)
  case atStart => exact ⟨[], bs, p0, rfl, rfl, hway, h0, hM⟩
  case round =>
    clear hM hway h0 hBt hroot
    obtain ⟨pre, rest, q, rfl, hx, hl, hJs, hMr⟩ := hrel
    cases rest with
    | nil =>
      obtain rfl : q = none := hl
      gi_wp2
      refine ⟨fun _ h => (by cases h), ?_⟩
      gi_wp2
      go_end0
      exact ⟨⟨_, rfl⟩, .inl ⟨pre, by simp [hx], hJs⟩⟩
    | cons x rest =>
      have hl' := hl
      obtain ⟨rfl, nd, hnd, hr⟩ := hl
      obtain ⟨fn, tmps, assign, body, hy, hR⟩ := hY pre ⟨x, nd, hnd⟩ wr hJs (by rw [hx]; simp)
      unfold encS at hy
      gi_wp2
      refine hR.mono ?_
      rintro e W3 (⟨rfl, hJ3, hk3⟩ | ⟨rfl, hJx3⟩)
      · have hM3 := HKp.out _ _ hk3 hMr
        have hX3 : W3.heap[Bk]? = some (.cells KL.toArray 24 (0, 0)) := hM3.2
        have hnx := Hnext.out x nd hnd W3 hM3.1
        clear hR hy hY
        gi_wp2_with (first
          | (refine wpListIn_load_row rfl _ _ rfl Bk rfl 24 KL.toArray (0, 0) _ hX3 Tryz.underlying24 rfl Hki.out ?_)
          | (refine ⟨trivial, ?_⟩; gi_at_call 58; refine (callsIn_wide.2 hnx).mono ?_; rintro e W4 ⟨rfl, hb4⟩))
        refine ⟨⟨pre ++ [⟨x, nd, hnd⟩], rest, _, rfl, by simp [hx], hr, abides_below HJ.out hJ3 hb4, hM3.1.only (R := fun _ => False) (Only.of_below hb4) (fun _ _ h => h), hM3.2.below hb4 hM3.2.lt⟩, ?_⟩
        rw [leftW_eq hr, leftW_eq hl']
        simp
      · clear hR hy hY
        gi_wp2
        go_end0
        exact ⟨⟨_, rfl⟩, .inr ⟨pre ++ [⟨x, nd, hnd⟩], ⟨rest, by simp [hx]⟩, hJx3⟩⟩


theorem way_stopsS (n : Nat) (hn : 1 ≤ n) (Bt Bk a : Nat) (p0 : Option Addr) (M : Wood) (key : List UInt8) (KL : List Value) (hKL : KL = Lib.byteCells key) (hk : key.length = 32) (bs : List Nat) (Kp : World → World → Prop) (w : World)
    (hKp : ∀ A B, Kp A B → WayMem M Bk KL A → WayMem M Bk KL B) (hBt : w.cell? ⟨Bt, 0, none⟩ = some (.pointer (some ⟨a, 0, none⟩))) (hBtl : Bt < w.heap.size) (hroot : w.cell? ⟨a, 0, none⟩ = some (.pointer p0)) (hal : a < w.heap.size) (hM : WayMem M Bk KL w) (hway : IsWay M key p0 bs) :
    SeqStopsK Fence.wide n Tryz.prog 57 #[.pointer (some ⟨Bt, 0, none⟩), .pointer (some ⟨Bk, 0, none⟩)] (encS (M := M)) Kp (fun ys => ys.map (fun x => x.1) = bs) (fun pre => pre.map (fun x => x.1) <+: bs) bs.length w := fun l J Jx W hW hJ _ hY h0 =>
  way1S_in n hn l Bt Bk a p0 M key KL hKL hk bs W.heap.size J Jx hJ Kp hKp hY W ((hW.cell (p := ⟨Bt, 0, none⟩) hBtl).trans hBt) ((hW.cell (p := ⟨a, 0, none⟩) hal).trans hroot)
    ⟨hM.1.only (R := fun _ => False) (Only.of_below hW) (fun _ _ h => h), hM.2.below hW hM.2.lt⟩ hway h0

/-- All that stands on the way stands in the root. -/
theorem way_sub {M : Wood} {w : World} (hS : Stand M w) (key : List UInt8) : ∀ (bs : List Nat) (p : Option Addr), IsWay M key p bs → ∀ (l : List It), (∀ b n, p = some ⟨b, 0, none⟩ → M b = some n → ∀ y ∈ n.l, y ∈ l) → ∀ b ∈ bs, ∀ n, M b = some n → ∀ y ∈ n.l, y ∈ l
  | [], _, _, _, _, b, hb, _, _, _, _ => by cases hb
  | c :: bs, p, ⟨hp, n, hn, hr⟩, l, hl, b, hb, m, hm, y, hy => by
    rcases List.mem_cons.1 hb with rfl | hb
    · exact hl b m hp hm y hy
    · refine way_sub hS key bs _ hr l (fun b' n' hp' hn' z hz => ?_) b hb m hm y hy
      refine hl c n hp hn z ?_
      have hnd := hS c n hn
      unfold nextP at hp'
      split at hp'
      · cases hp'
      · split at hp'
        · cases hp'
        · obtain ⟨d, s, dig, _, _, hcs⟩ := hnd.cells
          rcases hcs with ⟨_, hlf⟩ | ⟨_, hbr⟩
          · obtain ⟨val, e, _⟩ := hlf.one
            have h2 : ¬ n.l.length < 2 := by assumption
            rw [e] at h2; simp at h2
          · have h16 := nibF_lt key (sharedF n.l n.f)
            by_cases he : subF n.l (sharedF n.l n.f) (nibF key (sharedF n.l n.f)) = []
            · have q := hbr.off _ h16 he
              simp [List.getD, q] at hp'
            · obtain ⟨b2, n2, k1, k2, k3, _⟩ := hbr.on _ h16 he
              simp only [List.getD, k1, Option.getD_some, Option.some.injEq] at hp'
              cases hp'
              rw [k2] at hn'
              cases hn'
              rw [k3] at hz
              exact (mem_subF.1 hz).1

/-- Is a node the leaf of a key? -/
def leafB (n : Nd) (key : List UInt8) : Bool := decide (n.l.length < 2) && decide (n.key = key)
theorem leafOf_wood (M : Wood) (b : Nat) (n : Nd) (hb : M b = some n) (key : List UInt8) (KL : List Value) (hKL : KL = Lib.byteCells key) (hk : key.length = 32) (w : World) (hS : Stand M w) :
    Calls Tryz.prog 40 #[.pointer (some ⟨b, 0, none⟩), .agg KL.toArray] w fun e w' => e = .returned (.bool (leafB n key)) ∧ Below w.heap.size w w' := by
  have hn := hS b n hb
  obtain ⟨d, s, dig, _, _, hcs⟩ := hn.cells
  rcases hcs with ⟨hN, hlf⟩ | ⟨hN, hbr⟩
  · obtain ⟨val, e, _⟩ := hlf.one
    have q : leafB n key = decide (n.key = key) := by unfold leafB; rw [e]; simp
    rw [q]
    exact leafOf_leaf n.key key _ KL rfl hKL hn.k32 hk b _ _ _ _ _ _ _ _ rfl w hN
  · have q : leafB n key = false := by unfold leafB; rw [decide_eq_false (by have := hbr.two; omega)]; rfl
    rw [q]
    exact leafOf_branch n.key key _ KL rfl hKL hn.k32 hk b n.arr _ _ _ _ _ _ _ _ rfl w hN
/-- A leaf's value lies in its cells. -/
theorem leaf_val {M : Wood} {w : World} {b : Nat} {n : Nd} (hn : NdAt M w b n) {key : List UInt8} (h : leafB n key = true) : ∃ (val : List UInt8), (key, val) ∈ n.l ∧ w.cell? ⟨b, 34, none⟩ = some (.slice n.adr n.len n.cap) ∧ val.length = n.len ∧ n.len ≤ n.cap ∧ val.length ≤ 1000 ∧ Bs w w.heap.size n.adr val := by
  unfold leafB at h
  rw [Bool.and_eq_true, decide_eq_true_eq, decide_eq_true_eq] at h
  obtain ⟨d, s, dig, _, _, hcs⟩ := hn.cells
  rcases hcs with ⟨hN, hlf⟩ | ⟨hN, hbr⟩
  · obtain ⟨val, e, e2, e3⟩ := hlf.one
    have hm : (key, val) ∈ n.l := by rw [e, h.2]; exact List.mem_singleton.2 rfl
    exact ⟨val, hm, (node_at rfl hn.k32 hN).2.2.1, e2, hlf.le, hn.vals _ hm, e3⟩
  · have := hbr.two; omega

theorem Owns.grownT {W W' : World} {row : Option Nat} {B : Nat} {T : TypeId} {v : Value} {l : List UInt8} (h : Owns W B T v l) (hg : W.grownBy W' row) (hr : ∀ r, row = some r → ∃ o : Obj, W.heap[r]? = some o ∧ o.isCells = false) : Owns W' B T v l := by
  refine ⟨h.1, ?_⟩
  rcases h.2 with hn | ⟨g, cap, cur, rfl, h1, hgb, rest⟩
  · exact .inl hn
  · refine .inr ⟨g, cap, cur, rfl, h1, ?_, rest⟩
    refine (hg.block g (Array.getElem?_eq_some_iff.1 hgb).1 (fun e => ?_)).trans hgb
    obtain ⟨o, ho, hc⟩ := hr g e.symm
    rw [hgb] at ho
    cases ho
    cases hc
theorem boxed_grownT {W W' : World} {row : Option Nat} {B : Nat} {T : TypeId} {v : Value} (h : Boxed W B T v) (hg : W.grownBy W' row) (hr : ∀ r, row = some r → ∃ o : Obj, W.heap[r]? = some o ∧ o.isCells = false) : Boxed W' B T v :=
  h.kept hg (fun e => by
    obtain ⟨o, ho, hc⟩ := hr B e.symm
    rw [show W.heap[B]? = some _ from h] at ho
    cases ho
    cases hc)

theorem results_cellsT {P : Program} {fn : Func} {p u : Tmp} {t1 t2 : TypeId} (h : fn.results = #[.cell p t1, .cell u t2]) (tmps : Array Value) (w : World) (a b : Addr) (x y : Value) (hp : tmps.getD p undef = .pointer (some a)) (hu : tmps.getD u undef = .pointer (some b)) (hx : (loadVar t1 a).run P w = .ok x w) (hy : (loadVar t2 b).run P w = .ok y w) :
    (results fn tmps).run P w = .ok (.tuple #[x, y]) w := by
  have hp' : tmps[p]?.getD undef = .pointer (some a) := by simpa using hp
  have hu' : tmps[u]?.getD undef = .pointer (some b) := by simpa using hu
  simp [results, h, hp', hu', asAddr, Sem.run_bind, Result.andThen, hx, hy]

def GetI (M : Wood) (key : List UInt8) (KL : List Value) (w : World) (pre : List (NodeOf M)) (W : World) : Prop :=
  (Arr W w.heap.size 24 KL ∧ Boxed W (w.heap.size + 1) 38 (.slice none 0 0) ∧ Boxed W (w.heap.size + 2) 4 (.bool false) ∧ Stand M W ∧ (∀ x ∈ pre, ∀ n, M x.1 = some n → leafB n key = false)) ∧ Below w.heap.size w W
def GetX (M : Wood) (key : List UInt8) (w : World) (pre : List (NodeOf M)) (W : World) : Prop :=
  (∃ (x : NodeOf M) (n : Nd) (val : List UInt8) (v : Value), x ∈ pre ∧ M x.1 = some n ∧ (key, val) ∈ n.l ∧ Boxed W (w.heap.size + 1) 38 v ∧ Boxed W (w.heap.size + 2) 4 (.bool true) ∧ Owns W w.heap.size 5 v val) ∧ Below w.heap.size w W
theorem GetI.own {M : Wood} {key : List UInt8} {KL : List Value} {w : World} {B : Nat} (hB : w.heap.size ≤ B) : OwnFrom B (GetI M key KL w) :=
  OwnFrom.and (Own.from (fun s X Y row ⟨h1, h2, h3, h4, h5⟩ hg hr => ⟨h1.grown hg hr, boxed_grownT h2 hg hr, boxed_grownT h3 hg hr, h4.grown hg hr, h5⟩) _) (ownFrom_below (Nat.le_refl _) hB)
theorem GetX.own {M : Wood} {key : List UInt8} {w : World} {B : Nat} (hB : w.heap.size ≤ B) : OwnFrom B (GetX M key w) :=
  OwnFrom.and (Own.from (fun s X Y row ⟨x, n, val, v, h1, h2, h3, h4, h5, h6⟩ hg hr => ⟨x, n, val, v, h1, h2, h3, boxed_grownT h4 hg hr, boxed_grownT h5 hg hr, h6.grownT hg hr⟩) _) (ownFrom_below (Nat.le_refl _) hB)

set_option maxRecDepth 100000 in
set_option maxHeartbeats 4000000 in
theorem get_in (a : Nat) (p0 : Option Addr) (M : Wood) (key : List UInt8) (KL : List Value) (hKL : KL = Lib.byteCells key) (hk : key.length = 32) (bs : List Nat) (hway : IsWay M key p0 bs) (w : World) (hS : Stand M w) (hroot : Arr w a 63 [.pointer p0]) :
    CallsIn Fence.wide 5 Tryz.prog 17 #[.pointer (some ⟨a, 0, none⟩), .agg KL.toArray] w fun e W' => ∃ v there, e = .returned (.tuple #[v, .bool there]) ∧ Below w.heap.size w W' ∧
      ((there = true ∧ ∃ b ∈ bs, ∃ n val, M b = some n ∧ (key, val) ∈ n.l ∧ Owns W' w.heap.size 5 v val) ∨ (there = false ∧ v = .slice none 0 0 ∧ ∀ b ∈ bs, ∀ n, M b = some n → leafB n key = false)) := by
  have Hki := Lib.hid (show (Tryz.prog.info? 24).map (·.size) = some KL.toArray.size by rw [hKL, dig_size hk]; kernel_rfl)
  have HKL := Lib.hid hKL
  clear hKL
  have h15 : 1 ≤ 5 := by omega
  have hb3 : Below w.heap.size w (((w.alloc (.cells KL.toArray 24)).alloc (.cells #[.slice none 0 0] 38)).alloc (.cells #[.bool false] 4)) := (((Below.refl _ w).alloc (Nat.le_refl _) _).alloc (by simp) _).alloc (by simp; omega) _
  have hX0 : Arr (((w.alloc (.cells KL.toArray 24)).alloc (.cells #[.slice none 0 0] 38)).alloc (.cells #[.bool false] 4)) w.heap.size 24 KL := ((Arr.new w _ KL).alloc _).alloc _
  refine callsIn_of_wp_marks Tryz.func17 rfl trivial ?_ rfl
  simp only [Tryz.ntmps17, List.size_toArray, List.length_cons, List.length_nil, Nat.reduceAdd, Nat.reduceSub, Array.replicate_succ, Array.replicate_zero, List.push_toArray, List.append_toArray, List.nil_append, List.cons_append]
  have hX0' : (((w.alloc (.cells KL.toArray 24)).alloc (.cells #[.slice none 0 0] 38)).alloc (.cells #[.bool false] 4)).heap[w.heap.size]? = some (.cells KL.toArray 24 (0, 0)) := hX0
  gi_wp2_with (first
    | (refine wpListIn_load_row rfl _ _ rfl w.heap.size rfl 24 KL.toArray (0, 0) _ hX0' Tryz.underlying24 rfl Hki.out ?_)
    | (refine ⟨trivial, ?_⟩; gi_at_call 34; refine (callsIn_wide.2 (way_run a KL _)).mono ?_; rintro e w3 ⟨rfl, hBt, hBk, hb33⟩))
  obtain ⟨W0, hW0⟩ : ∃ W0, (((w.alloc (.cells KL.toArray 24)).alloc (.cells #[.slice none 0 0] 38)).alloc (.cells #[.bool false] 4)) = W0 := ⟨_, rfl⟩
  have hsz : W0.heap.size = w.heap.size + 3 := by rw [← hW0]; simp
  have hA0 : Arr W0 w.heap.size 24 KL := by rw [← hW0]; exact hX0
  have hV0 : Boxed W0 (w.heap.size + 1) 38 (.slice none 0 0) := by
    rw [← hW0]
    have h := (Boxed.new (w.alloc (.cells KL.toArray 24)) 38 (.slice none 0 0)).alloc (.cells #[.bool false] 4)
    simpa using h
  have hT0 : Boxed W0 (w.heap.size + 2) 4 (.bool false) := by
    rw [← hW0]
    have h := Boxed.new ((w.alloc (.cells KL.toArray 24)).alloc (.cells #[.slice none 0 0] 38)) 4 (.bool false)
    simpa using h
  rw [hW0] at hb3 hBt hBk hb33
  rw [hsz] at hBt hBk
  have hB3 : Below w.heap.size w w3 := hb3.trans (hb33.mono hb3.size)
  have hA3 := hA0.below hb33 hA0.lt
  have hV3 : Boxed w3 (w.heap.size + 1) 38 (.slice none 0 0) := (hb33.block _ hV0.lt).trans hV0
  have hT3 : Boxed w3 (w.heap.size + 2) 4 (.bool false) := (hb33.block _ hT0.lt).trans hT0
  have hS3 := hS.up hB3
  have hr3 : Arr w3 a 63 [.pointer p0] := hroot.below hB3 hroot.lt
  have hz3 := hb33.size
  have hbtl := cell_ltC hBt
  have hWM : WayMem M (w.heap.size + 3 + 1) KL w3 := ⟨hS3, hBk⟩
  have hwst := way_stopsS (5 - 1) (by omega) (w.heap.size + 3) (w.heap.size + 3 + 1) a p0 M key KL HKL.out hk bs (Only (fun k => k = w.heap.size + 1 ∨ k = w.heap.size + 2 ∨ w3.heap.size ≤ k)) w3 (fun X Y hXY hX => ?kp) hBt hbtl (hr3.cell 0) hr3.lt hWM hway
  case kp =>
    have hn1 : ∀ b n, M b = some n → b < w.heap.size := fun b n hb => (hS b n hb).lt
    refine ⟨fun b n hb => (hX.1 b n hb).keep hXY ?_ ?_ ?_, hX.2.only hXY (by have := hBk.lt; omega)⟩
    · have := hn1 b n hb; omega
    · intro h2
      obtain ⟨cs, hcs⟩ := (hS b n hb).rowOf h2
      have := hcs.lt; omega
    · intro h1 ad ha hl
      have := (hS b n hb).valOf h1 ad ha hl; omega
  clear hW0 hX0 hX0' hV0 hT0 hA0 hBt hBk hb33 hb3
  refine wpIn_rangeFunc_ownG rfl h15 (gf := 57) (lb := #[.pointer (some ⟨w.heap.size + 3, 0, none⟩), .pointer (some ⟨w.heap.size + 3 + 1, 0, none⟩)]) ?hg trivial (enters_of Tryz.func57 (by kernel_rfl) rfl)
    hwst ?hKt ?hKb (Below.refl _ _) (fun _ => rfl)
    (GetI M key KL w) (fun c pre W => c = .ret ∧ GetX M key w pre W) (GetI.own hB3.size) (fun c => ?ownX) ⟨⟨hA3, hV3, hT3, hS3, fun x hx => by cases hx⟩, hB3⟩
    (fun x => { tmps := #[.pointer (some ⟨a, 0, none⟩), .agg KL.toArray, undef, .pointer (some ⟨w.heap.size, 0, none⟩), .pointer (some ⟨w.heap.size + 1, 0, none⟩), .pointer (some ⟨w.heap.size + 2, 0, none⟩), .pointer (some ⟨x.1, 0, none⟩), .pointer (some ⟨a, 0, none⟩), .agg KL.toArray, .func (.func 57) #[] #[.pointer (some ⟨w.heap.size + 1 + 1 + 1, 0, none⟩), .pointer (some ⟨w.heap.size + 1 + 1 + 1 + 1, 0, none⟩)], .pointer (some ⟨x.1, 0, none⟩), undef, undef, undef, undef, undef, undef, undef, undef], defers := [] }) ?assign ?body ?done ?stop
  case hg => rfl
  case ownX => exact fun s X Y row h hg hr => ⟨h.1, GetX.own hB3.size s X Y row h.2 hg hr⟩
  case hKt => intro X Y Z h k; exact h.trans k
  case hKb =>
    intro W l o o' hl ho _ _
    have hg := grownBy_putObj' W l o'
    exact ⟨hg.os, hg.tape, hg.output, hg.size, fun k hk hn => hg.block k hk (fun e => hn (by injection e with e; rw [e]; exact .inr (.inr hl)))⟩
  case assign =>
    intro l x W K hK
    unfold encS
    gi_wp2
    exact hK
  case body =>
    rintro l pre x W ⟨⟨hA, hV, hT, hSW, hall⟩, hB⟩ hlt
    obtain ⟨n, hn⟩ := x.2
    have hlf := leafOf_wood M x.1 n hn key KL HKL.out hk W hSW
    have h13 : 1 ≤ 5 - 1 - 1 := by omega
    have hA' : W.heap[w.heap.size]? = some (.cells KL.toArray 24 (0, 0)) := hA
    have hko : ∀ W2, Below W.heap.size W W2 → KeepsOthers W W2 := fun W2 hu => ⟨hu.size, fun k o hk _ => (hu.block k (Array.getElem?_eq_some_iff.1 hk).1).trans hk⟩
    cases hL : leafB n key with
    | false =>
      rw [hL] at hlf
      gi_wp2_with (first
        | (refine wpListIn_load_row rfl _ _ rfl w.heap.size rfl 24 KL.toArray (0, 0) _ hA' Tryz.underlying24 rfl Hki.out ?_)
        | (refine ⟨trivial, ?_⟩; gi_at_call 40; refine (CallsIn.inRound l (callsIn_wide.2 hlf)).mono ?_; rintro e W2 ⟨rfl, hb2⟩))
      refine ⟨(hko _ hb2).from _, Only.of_below hb2, ⟨hA.below hb2 hA.lt, (hb2.block _ hV.lt).trans hV, (hb2.block _ hT.lt).trans hT, hSW.up hb2, fun y hy m hm => ?_⟩, hB.trans (hb2.mono hB.size)⟩
      rcases List.mem_append.1 hy with hy | hy
      · exact hall y hy m hm
      · rw [List.mem_singleton] at hy
        subst hy
        rw [hn] at hm
        injection hm with hm
        rw [← hm]; exact hL
    | true =>
      rw [hL] at hlf
      obtain ⟨val, hin, hc34, hvl, hvc, hv1000, hbs⟩ := leaf_val (hSW x.1 n hn) hL
      have hxl : x.1 < W.heap.size := (hSW x.1 n hn).lt
      gi_wp2_with (first
        | (refine wpListIn_load_row rfl _ _ rfl w.heap.size rfl 24 KL.toArray (0, 0) _ hA' Tryz.underlying24 rfl Hki.out ?_)
        | (refine ⟨trivial, ?_⟩; gi_at_call 40; refine (CallsIn.inRound l (callsIn_wide.2 hlf)).mono ?_; rintro e W2 ⟨rfl, hb2⟩; have hc34b : W2.cell? ⟨x.1, 34, none⟩ = some (.slice n.adr n.len n.cap) := (hb2.cell (p := ⟨x.1, 34, none⟩) hxl).trans hc34)
        | (refine ⟨trivial, ?_⟩; gi_at_call 41; refine (CallsIn.inRound l (callsIn_wide.2 (hvl ▸ bclone_any W2.heap.size n.adr n.cap val W2 ((hbs.below hb2 (Nat.le_refl _)).more hb2.size) (by omega)))).mono ?_; rintro e W4 ⟨v4, rfl, hown4, hb4⟩; obtain ⟨A4, c4, rfl, h41, h42, h43⟩ := hown4.slice; have hV4 : Boxed W4 (w.heap.size + 1) 38 (.slice none 0 0) := (hb4.block _ (Nat.lt_of_lt_of_le hV.lt hb2.size)).trans ((hb2.block _ hV.lt).trans hV); have hT4 : Boxed W4 (w.heap.size + 2) 4 (.bool false) := (hb4.block _ (Nat.lt_of_lt_of_le hT.lt hb2.size)).trans ((hb2.block _ hT.lt).trans hT); have hcv4 := hV4.cell; have hfv4 := hV4.frozen; have hct4 := hT4.cell; have hft4 := hT4.frozen))
      have ho5 : Only (fun k => k = w.heap.size + 1) W4 (W4.setCell ⟨w.heap.size + 1, 0, none⟩ (.slice A4 n.len c4)) := (Only.refl (fun k => k = w.heap.size + 1) W4).setCell (p := ⟨w.heap.size + 1, 0, none⟩) (.inl rfl) _
      have ho6 : Only (fun k => k = w.heap.size + 2) (W4.setCell ⟨w.heap.size + 1, 0, none⟩ (.slice A4 n.len c4)) ((W4.setCell ⟨w.heap.size + 1, 0, none⟩ (.slice A4 n.len c4)).setCell ⟨w.heap.size + 2, 0, none⟩ (.bool true)) := (Only.refl (fun k => k = w.heap.size + 2) _).setCell (p := ⟨w.heap.size + 2, 0, none⟩) (.inl rfl) _
      have hV5 : Boxed _ (w.heap.size + 1) 38 (.slice A4 n.len c4) := hV4.set (.slice A4 n.len c4)
      have hV6 : Boxed _ (w.heap.size + 1) 38 (.slice A4 n.len c4) := (ho6.block _ hV5.lt (by omega)).trans hV5
      have hT5 : Boxed (W4.setCell ⟨w.heap.size + 1, 0, none⟩ (.slice A4 n.len c4)) (w.heap.size + 2) 4 (.bool false) := (ho5.block _ hT4.lt (by omega)).trans hT4
      have hT6 : Boxed _ (w.heap.size + 2) 4 (.bool true) := Boxed.set (.bool true) hT5
      have hTl := hT.lt
      have hz2 := hb2.size
      have hlo := hown4.lt
      rw [hvl] at hown4 hlo
      have hown6 := ((hown4.base (Nat.le_trans hB.size hz2)).onlyT ho5 (fun k hk q => by have := (hlo k hk).1; omega)).onlyT ho6 (fun k hk q => by have := (hlo k hk).1; omega)
      have hko4 : KeepsOthers W2 W4 := ⟨hb4.size, fun k o hk _ => (hb4.block k (Array.getElem?_eq_some_iff.1 hk).1).trans hk⟩
      have hbb : Below w.heap.size w W4 := (hB.trans (hb2.mono hB.size)).trans (hb4.mono (Nat.le_trans hB.size hz2))
      exact ⟨((((hko W2 hb2).trans hko4).trans (KeepsOthers.setCell _ _ _)).trans (KeepsOthers.setCell _ _ _)).from _, rfl, ⟨x, n, val, _, by simp, hn, hin, hV6, hT6, hown6⟩, (hbb.setCell (p := ⟨w.heap.size + 1, 0, none⟩) (by simp) _).setCell (p := ⟨w.heap.size + 2, 0, none⟩) (by simp) _⟩
  case done =>
    rintro D ys W hD hys ⟨⟨hA, hV, hT, hSW, hall⟩, hB⟩ hK
    have hcv4 := hV.cell
    have hfv4 := hV.frozen
    have hct4 := hT.cell
    have hft4 := hT.frozen
    have ho5 : Only (fun k => k = w.heap.size + 1) W (W.setCell ⟨w.heap.size + 1, 0, none⟩ (.slice none 0 0)) := (Only.refl (fun k => k = w.heap.size + 1) W).setCell (p := ⟨w.heap.size + 1, 0, none⟩) (.inl rfl) _
    have ho6 : Only (fun k => k = w.heap.size + 2) (W.setCell ⟨w.heap.size + 1, 0, none⟩ (.slice none 0 0)) ((W.setCell ⟨w.heap.size + 1, 0, none⟩ (.slice none 0 0)).setCell ⟨w.heap.size + 2, 0, none⟩ (.bool false)) := (Only.refl (fun k => k = w.heap.size + 2) _).setCell (p := ⟨w.heap.size + 2, 0, none⟩) (.inl rfl) _
    have hV5 : Boxed _ (w.heap.size + 1) 38 (.slice none 0 0) := hV.set (.slice none 0 0)
    have hV6 : Boxed _ (w.heap.size + 1) 38 (.slice none 0 0) := (ho6.block _ hV5.lt (by omega)).trans hV5
    have hT5 : Boxed (W.setCell ⟨w.heap.size + 1, 0, none⟩ (.slice none 0 0)) (w.heap.size + 2) 4 (.bool false) := (ho5.block _ hT.lt (by omega)).trans hT
    have hT6 : Boxed _ (w.heap.size + 2) 4 (.bool false) := Boxed.set (.bool false) hT5
    have hKl := (Array.getElem?_eq_some_iff.1 hK).1
    have hK5 : (W.setCell ⟨w.heap.size + 1, 0, none⟩ (.slice none 0 0)).heap[D]? = some (.deferred (some [])) := (ho5.block D hKl (by omega)).trans hK
    have hK6 : ((W.setCell ⟨w.heap.size + 1, 0, none⟩ (.slice none 0 0)).setCell ⟨w.heap.size + 2, 0, none⟩ (.bool false)).heap[D]? = some (.deferred (some [])) := (ho6.block D (Array.getElem?_eq_some_iff.1 hK5).1 (by omega)).trans hK5
    have hB6 : Below w.heap.size w ((W.setCell ⟨w.heap.size + 1, 0, none⟩ (.slice none 0 0)).setCell ⟨w.heap.size + 2, 0, none⟩ (.bool false)) := (hB.setCell (p := ⟨w.heap.size + 1, 0, none⟩) (by simp) _).setCell (p := ⟨w.heap.size + 2, 0, none⟩) (by simp) _
    gi_wp2
    obtain ⟨W6, hW6⟩ : ∃ x, (W.setCell ⟨w.heap.size + 1, 0, none⟩ (.slice none 0 0)).setCell ⟨w.heap.size + 2, 0, none⟩ (.bool false) = x := ⟨_, rfl⟩
    change bodyPostM _ _ _ _ _ _ _ ((W.setCell ⟨w.heap.size + 1, 0, none⟩ (.slice none 0 0)).setCell ⟨w.heap.size + 2, 0, none⟩ (.bool false))
    rw [hW6] at hV6 hT6 hK6 hB6 ⊢
    refine ⟨by simp, .inl ⟨_, _, rfl, run_takeDeferred hK6, ?_⟩⟩
    have hg := grownBy_putObj' W6 D (.deferred none)
    have hr : ∀ r, some D = some r → ∃ o : Obj, W6.heap[r]? = some o ∧ o.isCells = false := fun r e => by injection e with e; subst e; exact ⟨_, hK6, rfl⟩
    have hV7 := (boxed_grownT hV6 hg hr).cell
    have hT7 := (boxed_grownT hT6 hg hr).cell
    have hB7 : Below w.heap.size w (W6.putObj D (.deferred none)) := hB6.trans (belowK_b (w := w) (Nat.le_refl _) W6 D _ _ (by omega) hK6 rfl rfl)
    refine ⟨.tuple #[.slice none 0 0, .bool false], ?_, .slice none 0 0, .inl ⟨rfl, hB7, rfl, fun b hb n hn => ?_⟩⟩
    · exact results_cellsT rfl _ _ ⟨w.heap.size + 1, 0, none⟩ ⟨w.heap.size + 2, 0, none⟩ _ _ rfl rfl (by go_simp) (by go_simp)
    · rw [← hys] at hb
      obtain ⟨y, hy, rfl⟩ := List.mem_map.1 hb
      exact hall y hy n hn
  case stop =>
    rintro D c pre W hD hpre ⟨rfl, ⟨x, n, val, v, hx, hM, hin, hV, hT, hO⟩, hB⟩ hK
    have hcv4 := hV.cell
    have hct4 := hT.cell
    gi_wp2
    refine ⟨by simp, .inl ⟨_, _, rfl, run_takeDeferred hK, ?_⟩⟩
    have hg := grownBy_putObj' W D (.deferred none)
    have hr : ∀ r, some D = some r → ∃ o : Obj, W.heap[r]? = some o ∧ o.isCells = false := fun r e => by injection e with e; subst e; exact ⟨_, hK, rfl⟩
    have hV7 := (boxed_grownT hV hg hr).cell
    have hT7 := (boxed_grownT hT hg hr).cell
    have hB7 : Below w.heap.size w (W.putObj D (.deferred none)) := hB.trans (belowK_b (w := w) (Nat.le_refl _) W D _ _ (by omega) hK rfl rfl)
    refine ⟨.tuple #[v, .bool true], ?_, v, .inr ⟨rfl, hB7, x.1, ?_, n, hM, val, hin, hO.grownT hg hr⟩⟩
    · have hz : v.oneCell' = true := by
        obtain ⟨A4, c4, rfl, _⟩ := hO.slice
        rfl
      obtain ⟨A4, c4, rfl, _⟩ := hO.slice
      exact results_cellsT rfl _ _ ⟨w.heap.size + 1, 0, none⟩ ⟨w.heap.size + 2, 0, none⟩ _ _ rfl rfl (by go_simp) (by go_simp)
    · exact hpre.subset (List.mem_map.2 ⟨x, hx, rfl⟩)

theorem hasF_mem {l : List It} {key : List UInt8} : hasF l key = true ↔ ∃ v, (key, v) ∈ l := by
  unfold hasF
  rw [List.any_eq_true]
  constructor
  · rintro ⟨x, hx, h⟩
    have h : x.1 = key := by simpa using h
    exact ⟨x.2, by rw [← h]; exact hx⟩
  · rintro ⟨v, h⟩
    exact ⟨_, h, by simp⟩

/-- Get of a trie: a copy of the key's value, or none. -/
theorem tget_run (a : Nat) (p0 : Option Addr) (M : Wood) (l : List It) (hat : RootAt M p0 l) (key : List UInt8) (KL : List Value) (hKL : KL = Lib.byteCells key) (hk : key.length = 32) (w : World) (hS : Stand M w) (hroot : Arr w a 63 [.pointer p0]) :
    Calls Tryz.prog 17 #[.pointer (some ⟨a, 0, none⟩), .agg KL.toArray] w fun e w' => ∃ v, e = .returned (.tuple #[v, .bool (hasF l key)]) ∧ Below w.heap.size w w' ∧ (hasF l key = true → ∃ val, (key, val) ∈ l ∧ Owns w' w.heap.size 5 v val) ∧ (hasF l key = false → v = .slice none 0 0) := by
  rcases hat with ⟨rfl, rfl⟩ | ⟨b, nd, rfl, hb, rfl, hf⟩
  · refine (callsIn_wide.1 (get_in a none M key KL hKL hk [] rfl w hS hroot)).mono ?_
    rintro e w' ⟨v, there, rfl, hbl, ⟨_, b, hb, _⟩ | ⟨rfl, rfl, _⟩⟩
    · cases hb
    · exact ⟨_, rfl, hbl, fun h => (by cases h), fun _ => rfl⟩
  · obtain ⟨br, lb, nl, p1, p2, p3, p4, p5, p6, p7, p8, p9⟩ := way_ex M w hS key hk 65 b nd hb (by omega) (fun x hx i hi => absurd hi (by omega))
    refine (callsIn_wide.1 (get_in a _ M key KL hKL hk (br ++ [lb]) p1 w hS hroot)).mono ?_
    rintro e w' ⟨v, there, rfl, hbl, ⟨rfl, c, hc, n, val, hn, hin, hO⟩ | ⟨rfl, rfl, hall⟩⟩
    · have hmem := way_sub hS key _ _ p1 nd.l (fun b' n' hp hn' y hy => by
        injection hp with hp
        injection hp with hp
        subst hp
        rw [hb] at hn'
        injection hn' with hn'
        rw [hn']; exact hy) c hc n hn _ hin
      have hh : hasF nd.l key = true := hasF_mem.2 ⟨val, hmem⟩
      rw [hh]
      exact ⟨v, rfl, hbl, fun _ => ⟨val, hmem, hO⟩, fun h => (by cases h)⟩
    · have hh : hasF nd.l key = false := by
        cases h : hasF nd.l key with
        | false => rfl
        | true =>
          exfalso
          obtain ⟨u, hu⟩ := hasF_mem.1 h
          have hu2 := (p9 u).1 hu
          have hn := hS lb nl p2
          have hnb := hall lb (by simp) nl p2
          obtain ⟨d, s, dig, _, _, hcs⟩ := hn.cells
          rcases hcs with ⟨_, hlf⟩ | ⟨_, hbr⟩
          · obtain ⟨val, e, _⟩ := hlf.one
            rw [e, List.mem_singleton] at hu2
            injection hu2 with hu3
            unfold leafB at hnb
            rw [e, ← hu3] at hnb
            simp at hnb
          · have := nokey_branch hn hbr p3
            rw [hasF_mem.2 ⟨u, hu2⟩] at this
            cases this
      rw [hh]
      exact ⟨_, rfl, hbl, fun h => (by cases h), fun _ => rfl⟩

end Go.Proofs.YtjbiegbdnppncaaGreat

namespace Go.Proofs.YtjbiegbdnppncaaGreat
open Go.RowKit
set_option linter.unusedVariables false
set_option linter.unusedSimpArgs false

theorem wpList_load_row_ifT {P : Program} {ops : Array Oper} {rest : List Oper} {o : Oper} {a : Act} {w : World} {Q : Exit → Act → World → Prop} (hw : Region.wanted o (yielded ops a.tmps) = true) (ty : TypeId) (x : Operand) (ho : o.op = .load ty x) (g : Nat) (hx : a.eval x = .pointer (some ⟨g, 0, none⟩))
    (t : TypeId) (cs : Array Value) (d : TypeDesc) (hg : w.heap[g]? = some (.cells cs t (0, 0))) (hu : P.underlying ty = some d) (hd : (match d with | .struct _ | .array _ _ => true | _ => false) = true) (hi : (P.info? ty).map (·.size) = some cs.size)
    (h : wpList P ops Q rest (a.put o.dst (.agg cs)) w) : wpList P ops Q (o :: rest) a w :=
  wpList_step fun K hK => by
    rw [if_pos hw]
    unfold Oper.wp execOp
    simp only [ho, hx, Sem.run_bind, run_loadAt_row w g t ty cs d hg hu hd hi, Result.andThen_ok]
    exact hK _ _ h

/-- Blocks that hold a node, or a trie. -/
def NT (w : World) (k : Nat) : Prop := ∃ T cs, (T = 88 ∨ T = 63) ∧ Arr w k T cs
/-- From block B on nodes and tries alone are turned. -/
def Turns (B : Nat) (w w' : World) : Prop := Only (fun k => B ≤ k ∧ NT w k) w w'
theorem Turns.of_below {B : Nat} {w w' : World} (h : Below w.heap.size w w') : Turns B w w' := Only.of_below h
theorem Turns.refl (B : Nat) (w : World) : Turns B w w := Only.refl _ _
theorem Turns.trans {B : Nat} {a b c : World} (h : Turns B a b) (k : Turns B b c) : Turns B a c := by
  refine ⟨k.os.trans h.os, k.tape.trans h.tape, k.output.trans h.output, Nat.le_trans h.size k.size, fun i hi hn => ?_⟩
  have e := h.block i hi hn
  rw [← e]
  refine k.block i (Nat.lt_of_lt_of_le hi h.size) fun q => hn ⟨q.1, ?_⟩
  obtain ⟨_, T, cs, hT, hA⟩ := q
  exact ⟨T, cs, hT, e.symm.trans hA⟩
theorem Turns.step {B : Nat} {a b c : World} (h : Turns B a b) (k : Below b.heap.size b c) : Turns B a c := h.trans (.of_below k)
theorem Turns.below {B : Nat} {w w' : World} (h : Turns B w w') (hB : B ≤ w.heap.size) : Below B w w' := Only.below h hB fun _ q => q.1
theorem Turns.below' {B0 B : Nat} {w0 w w' : World} (h0 : Below B0 w0 w) (h : Turns B w w') (hB : B0 ≤ B) (hz : B ≤ w.heap.size) : Below B0 w0 w' := h0.trans ((h.below hz).mono hB)
theorem Turns.low {B B' : Nat} {w w' : World} (h : Turns B w w') (hB : B' ≤ B) : Turns B' w w' := Only.more h fun k _ q => ⟨Nat.le_trans hB q.1, q.2⟩
theorem Turns.arr {B : Nat} {w w' : World} (h : Turns B w w') {g : Nat} {T : TypeId} {cs : List Value} (ha : Arr w g T cs) (h1 : T ≠ 88) (h2 : T ≠ 63) : Arr w' g T cs := Arr.only ha h fun q => by
  obtain ⟨_, T', cs', hT, hA⟩ := q
  have q2 : some _ = some _ := (show w.heap[g]? = some _ from hA).symm.trans ha
  injection q2 with q2
  injection q2 with q3 q4
  subst q4
  rcases hT with e | e
  · exact h1 e
  · exact h2 e
theorem Turns.irow {B B1 : Nat} {w w' : World} (h : Turns B w w') {v : Value} {xs : List Itm} (hI : IRow w B1 v xs) : IRow w' B1 v xs := by
  refine ⟨hI.1, hI.2.1, ?_⟩
  rcases hI.2.2 with hn | ⟨g, cap, cur, rfl, h1, hg, rest⟩
  · exact .inl hn
  · refine .inr ⟨g, cap, cur, rfl, h1, (h.block g (Array.getElem?_eq_some_iff.1 hg).1 fun q => ?_).trans hg, rest⟩
    obtain ⟨_, T', cs', hT, hA⟩ := q
    exact hI.apartI hA (by rcases hT with e | e <;> (rw [e]; decide)) g rfl rfl
theorem Turns.owns {B B1 : Nat} {w w' : World} (h : Turns B w w') {v : Value} {l : List UInt8} (hO : Owns w B1 5 v l) : Owns w' B1 5 v l := Owns.onlyT hO h fun k hk q => by
  obtain ⟨_, T', cs', hT, hA⟩ := q
  rcases hO.2 with ⟨e, _⟩ | ⟨g, cap, cur, rfl, h1, hg, rest⟩
  · rw [e] at hk; cases hk
  · injection hk with hk
    subst hk
    have q2 : some _ = some _ := (show w.heap[g]? = some _ from hA).symm.trans hg
    injection q2 with q2
    injection q2 with q3 q4
    rcases hT with e | e <;> (rw [e] at q4; exact absurd q4 (by decide))
theorem Turns.bs {B B1 : Nat} {w w' : World} (h : Turns B w w') {A : Option Addr} {l : List UInt8} (hb : Bs w B1 A l) (h1 : B1 ≤ B) (hz : B ≤ w.heap.size) : Bs w' B1 A l := hb.below (h.below hz) h1

theorem RootAt.more {M M' : Wood} {p : Option Addr} {l : List It} (h : RootAt M p l) (hM : M.le M') : RootAt M' p l := by
  rcases h with h | ⟨b, n, h1, h2, h3⟩
  · exact .inl h
  · exact .inr ⟨b, n, h1, hM b n h2, h3⟩

/-- Tries that stand from block B on, and their items. -/
def Forest (B : Nat) (ts : List (Nat × List It)) (w : World) : Prop :=
  ∃ M, Stand M w ∧ M.Sep ∧ noWood.Up M B ∧ ∀ x ∈ ts, B ≤ x.1 ∧ ∃ p, Arr w x.1 63 [.pointer p] ∧ RootAt M p x.2
theorem Forest.sub {B : Nat} {ts ts' : List (Nat × List It)} {w : World} (h : Forest B ts w) (hs : ∀ x ∈ ts', x ∈ ts) : Forest B ts' w := by
  obtain ⟨M, h1, h2, h3, h4⟩ := h
  exact ⟨M, h1, h2, h3, fun x hx => h4 x (hs x hx)⟩
theorem Forest.up {B : Nat} {ts : List (Nat × List It)} {w w' : World} (h : Forest B ts w) (hb : Below w.heap.size w w') : Forest B ts w' := by
  obtain ⟨M, h1, h2, h3, h4⟩ := h
  refine ⟨M, h1.up hb, h2, h3, fun x hx => ?_⟩
  obtain ⟨k1, p, k2, k3⟩ := h4 x hx
  exact ⟨k1, p, k2.below hb k2.lt, k3⟩
theorem Forest.lt {B : Nat} {ts : List (Nat × List It)} {w : World} (h : Forest B ts w) {x : Nat × List It} (hx : x ∈ ts) : x.1 < w.heap.size ∧ B ≤ x.1 := by
  obtain ⟨M, h1, h2, h3, h4⟩ := h
  obtain ⟨k1, p, k2, k3⟩ := h4 x hx
  exact ⟨k2.lt, k1⟩
theorem Forest.none (B : Nat) (w : World) : Forest B [] w := ⟨noWood, noWood_stand w, noWood_sep, Wood.up_refl _ _, fun x hx => by cases hx⟩
theorem Wood.Up.lowB {M : Wood} {B : Nat} (h : noWood.Up M B) (k : Nat) (t : Nat) (hk : M.ndF t k) : B ≤ k := by
  obtain ⟨n, hn, _⟩ := hk
  rcases h k n hn with h | h
  · cases h
  · exact h.1

theorem forest_new (B : Nat) (ts : List (Nat × List It)) (w : World) (h : Forest B ts w) (hB : B ≤ w.heap.size) :
    Calls Tryz.prog 22 #[] w fun e w' => e = .returned (.pointer (some ⟨w.heap.size, 0, none⟩)) ∧ Forest B ((w.heap.size, []) :: ts) w' ∧ Below w.heap.size w w' := by
  refine (new_run w).mono ?_
  rintro e w' ⟨rfl, hN, hb⟩
  obtain ⟨M, h1, h2, h3, h4⟩ := h
  refine ⟨rfl, ⟨M, h1.up hb, h2, h3, fun x hx => ?_⟩, hb⟩
  rcases List.mem_cons.1 hx with rfl | hx
  · exact ⟨hB, _, hN, .inl ⟨rfl, rfl⟩⟩
  · obtain ⟨k1, p, k2, k3⟩ := h4 x hx
    exact ⟨k1, p, k2.below hb k2.lt, k3⟩
theorem forest_twin (B : Nat) (a : Nat) (l : List It) (ts : List (Nat × List It)) (w : World) (h : Forest B ((a, l) :: ts) w) (hB : B ≤ w.heap.size) :
    Calls Tryz.prog 25 #[.pointer (some ⟨a, 0, none⟩)] w fun e w' => e = .returned (.pointer (some ⟨w.heap.size, 0, none⟩)) ∧ Forest B ((w.heap.size, l) :: (a, l) :: ts) w' ∧ Below w.heap.size w w' := by
  obtain ⟨M, h1, h2, h3, h4⟩ := h
  obtain ⟨_, p, hA, hR⟩ := h4 (a, l) List.mem_cons_self
  refine (twin_run a p w (hA.cell 0)).mono ?_
  rintro e w' ⟨rfl, hN, hb⟩
  refine ⟨rfl, ⟨M, h1.up hb, h2, h3, fun x hx => ?_⟩, hb⟩
  rcases List.mem_cons.1 hx with rfl | hx
  · exact ⟨hB, p, hN, hR⟩
  · obtain ⟨k1, p, k2, k3⟩ := h4 x hx
    exact ⟨k1, p, k2.below hb k2.lt, k3⟩

theorem forest_put (B : Nat) (a : Nat) (l : List It) (ts : List (Nat × List It)) (hne : ∀ x ∈ ts, x.1 ≠ a) (key val : List UInt8) (KL : List Value) (hKL : KL = Lib.byteCells key) (hk : key.length = 32) (B1 : Nat) (A : Option Addr) (n c : Nat) (w : World) (h : Forest B ((a, l) :: ts) w) (hB : B ≤ w.heap.size) (hv : Bs w B1 A val) (hn : val.length = n) (hs : val.length ≤ 1000) :
    Calls Tryz.prog 23 #[.pointer (some ⟨a, 0, none⟩), .agg KL.toArray, .slice A n c] w fun e w' => e = .returned (.tuple #[]) ∧ Forest B ((a, putF key val l) :: ts) w' ∧ Turns B w w' := by
  obtain ⟨M, h1, h2, h3, h4⟩ := h
  obtain ⟨hBa, p, hA, hR⟩ := h4 (a, l) List.mem_cons_self
  refine (tput_run a p M l hR key val KL hKL hk B1 A n c w h1 h2 hA hv hn hs).mono ?_
  rintro e w' ⟨rfl, p1, M1, ⟨m1, m2⟩, m3, m4, m5, m6, m7⟩
  refine ⟨rfl, ⟨M1, m3, m4, h3.then (m2.low hB), fun x hx => ?_⟩, Only.more m7 fun k _ e => ?_⟩
  · rcases List.mem_cons.1 hx with rfl | hx
    · exact ⟨hBa, p1, m5, m6⟩
    · obtain ⟨k1, p, k2, k3⟩ := h4 x (List.mem_cons_of_mem _ hx)
      exact ⟨k1, p, k2.only m7 (hne x hx), k3.more m1⟩
  · subst e
    exact ⟨hBa, _, _, .inr rfl, hA⟩
theorem forest_drop (B : Nat) (a : Nat) (l : List It) (ts : List (Nat × List It)) (hne : ∀ x ∈ ts, x.1 ≠ a) (key : List UInt8) (KL : List Value) (hKL : KL = Lib.byteCells key) (hk : key.length = 32) (w : World) (h : Forest B ((a, l) :: ts) w) (hB : B ≤ w.heap.size) :
    Calls Tryz.prog 24 #[.pointer (some ⟨a, 0, none⟩), .agg KL.toArray] w fun e w' => e = .returned (.bool (hasF l key)) ∧ Forest B ((a, dropF key l) :: ts) w' ∧ Turns B w w' := by
  obtain ⟨M, h1, h2, h3, h4⟩ := h
  obtain ⟨hBa, p, hA, hR⟩ := h4 (a, l) List.mem_cons_self
  refine (tdrop_run a p M l hR key KL hKL hk w h1 h2 hA).mono ?_
  rintro e w' ⟨rfl, p1, M1, ⟨m1, m2⟩, m3, m4, m5, m6, m7⟩
  refine ⟨rfl, ⟨M1, m3, m4, h3.then (m2.low hB), fun x hx => ?_⟩, Only.more m7 fun k _ e => ?_⟩
  · rcases List.mem_cons.1 hx with rfl | hx
    · exact ⟨hBa, p1, m5, m6⟩
    · obtain ⟨k1, p, k2, k3⟩ := h4 x (List.mem_cons_of_mem _ hx)
      exact ⟨k1, p, k2.only m7 (hne x hx), k3.more m1⟩
  · subst e
    exact ⟨hBa, _, _, .inr rfl, hA⟩
theorem forest_get (B : Nat) (a : Nat) (l : List It) (ts : List (Nat × List It)) (key : List UInt8) (KL : List Value) (hKL : KL = Lib.byteCells key) (hk : key.length = 32) (w : World) (h : Forest B ((a, l) :: ts) w) :
    Calls Tryz.prog 17 #[.pointer (some ⟨a, 0, none⟩), .agg KL.toArray] w fun e w' => ∃ v, e = .returned (.tuple #[v, .bool (hasF l key)]) ∧ Forest B ((a, l) :: ts) w' ∧ Below w.heap.size w w' ∧ (hasF l key = true → ∃ val, (key, val) ∈ l ∧ Owns w' w.heap.size 5 v val) ∧ (hasF l key = false → v = .slice none 0 0) := by
  have h' := h
  obtain ⟨M, h1, h2, h3, h4⟩ := h
  obtain ⟨hBa, p, hA, hR⟩ := h4 (a, l) List.mem_cons_self
  refine (tget_run a p M l hR key KL hKL hk w h1 hA).mono ?_
  rintro e w' ⟨v, rfl, hb, m1, m2⟩
  exact ⟨v, rfl, h'.up hb, hb, m1, m2⟩
theorem forest_root (B : Nat) (a : Nat) (l : List It) (ts : List (Nat × List It)) (SL : List Value) (hSL : SL = Lib.byteCells (rootF l)) (w : World) (h : Forest B ((a, l) :: ts) w) :
    Calls Tryz.prog 12 #[.pointer (some ⟨a, 0, none⟩)] w fun e w' => e = .returned (.agg SL.toArray) ∧ Forest B ((a, l) :: ts) w' ∧ Turns B w w' := by
  obtain ⟨M, h1, h2, h3, h4⟩ := h
  obtain ⟨hBa, p, hA, hR⟩ := h4 (a, l) List.mem_cons_self
  refine (troot_run a p M l hR SL hSL w h1 h2 hA).mono ?_
  rintro e w' ⟨rfl, m1, m2, m3⟩
  refine ⟨rfl, ⟨M, m1, h2, h3, fun x hx => ?_⟩, Only.more m3 fun k _ q => ⟨h3.lowB k 0 q, ?_⟩⟩
  · obtain ⟨k1, p, k2, k3⟩ := h4 x hx
    exact ⟨k1, p, k2.only m3 (h1.offTrie k2 0), k3⟩
  · obtain ⟨n, hn, _⟩ := q
    obtain ⟨cs, hcs⟩ := (h1 k n hn).typ
    exact ⟨_, cs, .inl rfl, hcs⟩
theorem forest_play (B : Nat) (ts : List (Nat × List It)) (cs : List Cl8) (A : Option Addr) (n c : Nat) (w : World) (h : Forest B ts w) (hB : B ≤ w.heap.size) (hn : cs.length = n) (hn50 : n ≤ 50) (hc : n ≤ c) (hm : c ≤ maxLen) (hcs : Cls8 w w.heap.size A cs) (hvs : ∀ x ∈ cs, x.itm.val.length ≤ 200) :
    Calls Tryz.prog 11 #[.slice A n c] w fun e w' => ∃ a v, e = .returned (.tuple #[.pointer (some ⟨a, 0, none⟩), v]) ∧ w.heap.size ≤ a ∧ IRow w' w.heap.size v (playI cs) ∧ Forest B ((a, (playI cs).map Itm.it) :: ts) w' ∧ Below w.heap.size w w' := by
  obtain ⟨M, h1, h2, h3, h4⟩ := h
  refine (play8_run cs A n c w M h1 h2 hn hn50 hc hm hcs hvs).mono ?_
  rintro e w' ⟨a, v, p, M1, rfl, ha, hI, m1, ⟨m2, m3, m4⟩, m5, m6, hb⟩
  refine ⟨a, v, rfl, ha, hI, ⟨M1, m1, m2, h3.then (m3.low hB), fun x hx => ?_⟩, hb⟩
  rcases List.mem_cons.1 hx with rfl | hx
  · exact ⟨Nat.le_trans hB ha, p, m5, m6⟩
  · obtain ⟨k1, p, k2, k3⟩ := h4 x hx
    exact ⟨k1, p, k2.below hb k2.lt, k3.more m4⟩

end Go.Proofs.YtjbiegbdnppncaaGreat

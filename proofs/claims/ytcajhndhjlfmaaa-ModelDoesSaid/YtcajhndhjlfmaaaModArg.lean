/-
  Operations as arguments, opened; Great.
-/
import Derived.Test.YtcajhndhjlfmaaaModPure
import Derived.Test.YtcajhndhjlfmaaaModArm
import Derived.Deep.Slices
import Derived.Deep.Fields
import Derived.ChangeSame
import Derived.OpenShut
import Derived.Deep.DeepCutAuto
import Derived.Deep.CutBlock
namespace Go.Proofs.Ytcajhndhjlfmaaa
open Go.RowKit Go.ChangeShapes Go.WideShapes
set_option linter.unusedVariables false
set_option linter.unusedSimpArgs false

set_option maxRecDepth 100000 in
theorem blk_cells15 {H : Type} {enc : TypeId × Value → H} {W : World} {base : Nat} {sp : Nat → Bool} {held : Bool} {m : Nat} {cs : List Value} {x : DataW H × List MemPlace} (hl : cs.length = 48) (h : DataW.trod enc Try.prog W base sp held m 42 cs = some x) : ∃ l : List UInt8, l.length = 48 ∧ cs = Lib.byteCells l := by
  have hr : ∃ l : List UInt8, l.length = 48 ∧ (.agg cs.toArray : Value) = digV l := by
    obtain ⟨xs, m', _, _, hlen, hn, hel⟩ := DataW.trod_array Try.underlying42 h
    have hc1 : Try.prog.cellsOf 5 = 1 := by kernel_rfl
    have hall : ∀ i, i < 48 → ∃ b : UInt8, cs[i]? = some (.int .u8 (b.toNat : Nat)) := by
      intro i hi
      have h1 := hel i hi
      rw [hc1, Nat.mul_one] at h1
      have hx : xs[i]? = some (xs[i]'(by omega)) := List.getElem?_eq_getElem (by omega)
      rw [hx] at h1
      have hd : ((cs.drop i).take 1) = [cs[i]'(by omega)] := by rw [List.drop_eq_getElem_cons (by omega)]; rfl
      rw [hd] at h1
      obtain ⟨k, e, _, hw⟩ := DataW.trod_int Try.underlying5 h1
      have hb := bounds_u8 hw
      simp only [List.cons.injEq, and_true] at e
      refine ⟨k.toNat.toUInt8, ?_⟩
      rw [List.getElem?_eq_getElem (by omega), e, Lib.toUInt8_toNat (by omega), Int.toNat_of_nonneg hb.1]
    have hch : ∃ f : Nat → UInt8, ∀ i, i < 48 → cs[i]? = some (.int .u8 ((f i).toNat : Nat)) := by
      classical
      refine ⟨fun i => if hi : i < 48 then Classical.choose (hall i hi) else 0, fun i hi => ?_⟩
      simp only [dif_pos hi]
      exact Classical.choose_spec (hall i hi)
    obtain ⟨f, hf2⟩ := hch
    refine ⟨(List.range 48).map f, by simp, ?_⟩
    unfold digV
    congr 2
    apply List.ext_getElem?
    intro i
    by_cases hi : i < 48
    · rw [hf2 i hi]
      simp [Lib.byteCells, hi]
    · rw [List.getElem?_eq_none (by omega), List.getElem?_eq_none (by simp [Lib.byteCells]; omega)]
  obtain ⟨l, h1, h2⟩ := hr
  refine ⟨l, h1, ?_⟩
  unfold digV at h2
  injection h2 with h2
  simpa using congrArg Array.toList h2

theorem op15_cells {H : Type} {enc : TypeId × Value → H} {W : World} {base : Nat} {sp : Nat → Bool} {held : Bool} {m : Nat} {cs : List Value} {x : DataW H × List MemPlace} (hl : cs.length = 53) (h : DataW.trod enc Try.prog W base sp held m 44 cs = some x) : ∃ y : Op15, OpOk y ∧ cs = opC y := by
  obtain ⟨ys, n', _, _, hlen, hyl, hf⟩ := DataW.trod_struct Try.underlying44 h
  have g : ∀ j (hj : j < ys.length), ys[j]? = some (ys[j]) := fun j hj => List.getElem?_eq_getElem hj
  have hy6 : ys.length = 6 := hyl
  have k1 : Try.prog.cellsOf 3 = 1 := by kernel_rfl
  have ks : Try.prog.cellsOf 9 = 1 := by kernel_rfl
  have k48 : Try.prog.cellsOf 42 = 48 := by kernel_rfl
  have c0 : DataW.trod enc Try.prog W base sp held n' 3 ((cs.drop 0).take (Try.prog.cellsOf 3)) = ys[0]? := hf 0 _ rfl
  have c1 : DataW.trod enc Try.prog W base sp held n' 9 ((cs.drop 1).take (Try.prog.cellsOf 9)) = ys[1]? := hf 1 _ rfl
  have c2 : DataW.trod enc Try.prog W base sp held n' 9 ((cs.drop 2).take (Try.prog.cellsOf 9)) = ys[2]? := hf 2 _ rfl
  have c3 : DataW.trod enc Try.prog W base sp held n' 3 ((cs.drop 3).take (Try.prog.cellsOf 3)) = ys[3]? := hf 3 _ rfl
  have c4 : DataW.trod enc Try.prog W base sp held n' 3 ((cs.drop 4).take (Try.prog.cellsOf 3)) = ys[4]? := hf 4 _ rfl
  have c5 : DataW.trod enc Try.prog W base sp held n' 42 ((cs.drop 5).take (Try.prog.cellsOf 42)) = ys[5]? := hf 5 _ rfl
  rw [k1, g 0 (by omega)] at c0
  rw [ks, g 1 (by omega)] at c1
  rw [ks, g 2 (by omega)] at c2
  rw [k1, g 3 (by omega)] at c3
  rw [k1, g 4 (by omega)] at c4
  rw [k48, g 5 (by omega)] at c5
  have one : ∀ j (hj : j < cs.length), (cs.drop j).take 1 = [cs[j]] := fun j hj => by rw [List.drop_eq_getElem_cons hj]; rfl
  rw [one 0 (by omega)] at c0
  rw [one 1 (by omega)] at c1
  rw [one 2 (by omega)] at c2
  rw [one 3 (by omega)] at c3
  rw [one 4 (by omega)] at c4
  obtain ⟨z0, e0, _, w0⟩ := DataW.trod_int Try.underlying3 c0
  obtain ⟨z1, e1, _, w1⟩ := DataW.trod_string Try.underlying9 c1
  obtain ⟨z2, e2, _, w2⟩ := DataW.trod_string Try.underlying9 c2
  obtain ⟨z3, e3, _, w3⟩ := DataW.trod_int Try.underlying3 c3
  obtain ⟨z4, e4, _, w4⟩ := DataW.trod_int Try.underlying3 c4
  simp only [List.cons.injEq, and_true] at e0 e1 e2 e3 e4
  obtain ⟨l, hl48, e5⟩ := blk_cells15 (by rw [List.length_take, List.length_drop]; omega) c5
  refine ⟨⟨z0, z1, z2, z3, z4, l⟩, ⟨hl48, w1, w2, bounds_i64 w3, bounds_i64 w4, bounds_i64 w0⟩, ?_⟩
  have e : cs = [cs[0], cs[1], cs[2], cs[3], cs[4]] ++ (cs.drop 5).take 48 := by
    apply List.ext_getElem?
    intro j
    by_cases hj : j < 5
    · rw [List.getElem?_append_left (by simpa using hj)]
      rcases j with _ | _ | _ | _ | _ | j
      all_goals first | (rw [List.getElem?_eq_getElem (by omega)]; rfl) | omega
    · rw [List.getElem?_append_right (by simp; omega), List.getElem?_take, List.getElem?_drop]
      simp only [List.length_cons, List.length_nil]
      by_cases hj2 : j < 53
      · rw [if_pos (by omega), show 5 + (j - (0 + 1 + 1 + 1 + 1 + 1)) = j by omega]
      · rw [if_neg (by omega), List.getElem?_eq_none (by omega)]
  refine e.trans ?_
  rw [e0, e1, e2, e3, e4, e5]
  rfl
set_option maxRecDepth 100000 in
theorem op_open {H : Type} {enc : TypeId × Value → H} {W : World} {r : Reach} {b0 base : Nat} {sp : Nat → Bool} {held : Bool} {v : Value} {d : DataW H} {p : List MemPlace}
    (hv : Value.okWide Try.prog W r b0 44 v) (h : DataW.Trod enc Try.prog W base sp held 44 v d p) : ∃ y : Op15, OpOk y ∧ v = .agg (opC y).toArray := by
  have hT := Try.underlying44
  obtain ⟨cs0, rfl, hsz, _⟩ : ∃ cs, v = .agg cs ∧ cs.size = Try.prog.cellsOf 44 ∧ Row.okWide Try.prog W r b0 44 cs := by
    simpa [Value.okWide, hT] using hv
  obtain ⟨fuel, hf⟩ := h
  have hC : Try.prog.cellsOf 44 = 53 := by kernel_rfl
  rw [hC] at hsz
  obtain ⟨cs⟩ := cs0
  have hl : cs.length = 53 := hsz
  have hcs : (Value.agg cs.toArray).cells.toList = cs := by simp [Value.cells]
  obtain ⟨y, hy, e⟩ := op15_cells hl (hcs ▸ hf)
  exact ⟨y, hy, by rw [e]⟩
/-- Calls in memory, in a block below B. -/
def OpsAt (w : World) (B : Nat) (A : Option Addr) (xs : List Op15) : Prop :=
  (∀ x ∈ xs, OpOk x) ∧ (0 < xs.length → ∃ b off, A = some ⟨b, off, none⟩ ∧ b < B ∧ ∀ i x, xs[i]? = some x → w.rangeAt b (off + i * 53) (opC x))

theorem OpsAt.below {w w' : World} {B B' : Nat} {A : Option Addr} {xs : List Op15} (h : OpsAt w B A xs) (hb : Below B' w w') (hB : B ≤ B') : OpsAt w' B A xs :=
  ⟨h.1, fun hp => by
    obtain ⟨b, off, e, hlt, hc⟩ := h.2 hp
    exact ⟨b, off, e, hlt, fun i x hx j v hj => (hb.cell (p := ⟨b, _, none⟩) (show b < B' by omega)).trans (hc i x hx j v hj)⟩⟩

theorem ops_arg {H : Type} {enc : TypeId × Value → H} {W : World} {A : Option Addr} {len cap : Nat} {d : DataW H} {p : List MemPlace} (h : DataW.Trod enc Try.prog W 0 (fun _ => true) true 36 (.slice A len cap) d p) :
    ∃ xs : List Op15, xs.length = len ∧ len ≤ cap ∧ cap ≤ maxLen ∧ OpsAt W W.heap.size A xs := by
  obtain ⟨fuel, hf⟩ := h
  rcases Go.Deep.open_slice Try.underlying36 hf with ⟨h0, _⟩ | ⟨a, len', cap', m, n, D, Pl, hcs, _, hl, hm, hmm, _, hi⟩
  · simp [Value.cells] at h0
    obtain ⟨rfl, rfl, rfl⟩ := h0
    exact ⟨[], rfl, Nat.le_refl _, by unfold maxLen; omega, fun x hx => by simp at hx, fun h => by simp at h⟩
  · simp [Value.cells] at hcs
    obtain ⟨rfl, rfl, rfl⟩ := hcs
    have k53 : Try.prog.cellsOf 44 = 53 := by kernel_rfl
    have hle : len ≤ m := by rw [hmm]; split <;> omega
    have hall : ∀ i, i < len → ∃ x : Op15, OpOk x ∧ ∀ j v, (opC x)[j]? = some v → W.cell? (a.add (i * 53 + j)) = some v := by
      intro i him
      obtain ⟨cs', hc, ht'⟩ := hi i (by omega)
      rw [k53] at hc
      obtain ⟨_, hcl, hat⟩ := World.cells?_some hc
      obtain ⟨y, hy, rfl⟩ := op15_cells hcl ht'
      refine ⟨y, hy, fun j v hj => ?_⟩
      have hj' := (List.getElem?_eq_some_iff.1 hj).1
      rw [← Go.Deep.add_add, hat j (by omega)]
      exact hj
    have hch : ∃ f : Nat → Op15, ∀ i, i < len → OpOk (f i) ∧ ∀ j v, (opC (f i))[j]? = some v → W.cell? (a.add (i * 53 + j)) = some v := by
      classical
      refine ⟨fun i => if hi : i < len then Classical.choose (hall i hi) else ⟨0, ⟨#[]⟩, ⟨#[]⟩, 0, 0, []⟩, fun i hi => ?_⟩
      simp only [dif_pos hi]
      exact Classical.choose_spec (hall i hi)
    clear hall
    obtain ⟨f, hf⟩ := hch
    have hget : ∀ i x, ((List.range len).map f)[i]? = some x → i < len ∧ x = f i := by
      intro i x hx
      obtain ⟨h1, h2⟩ := List.getElem?_eq_some_iff.1 hx
      simp at h1 h2
      exact ⟨h1, h2.symm⟩
    refine ⟨(List.range len).map f, by simp, hl, hm, fun x hx => ?_, fun hp => ?_⟩
    · obtain ⟨i, hi', rfl⟩ := List.mem_map.1 hx
      exact (hf i (List.mem_range.1 hi')).1
    · have hp' : 0 < len := by simpa using hp
      obtain ⟨b, off, spot⟩ := a
      have hc0 := (hf 0 hp').2 0 _ rfl
      have hspot : spot = none := by simpa [Addr.add] using World.cell?_spot hc0
      subst hspot
      refine ⟨b, off, rfl, World.block_lt_of_cell? W _ (by simpa [Addr.add] using hc0), fun i x hx j v hj => ?_⟩
      obtain ⟨hil, rfl⟩ := hget i x hx
      have hadd : ∀ k, (⟨b, off, none⟩ : Addr).add k = ⟨b, off + k, none⟩ := fun k => by unfold Addr.add; split <;> simp_all
      have := (hf i hil).2 j v hj
      rw [hadd] at this
      rw [Nat.add_assoc]
      exact this

def opZ : List Value := [.int .i64 0, .string ⟨#[]⟩, .string ⟨#[]⟩, .int .i64 0, .int .i64 0] ++ Lib.byteCells zB
theorem opZero (w : World) : (zeroValue 44).run Try.prog w = .ok (.agg opZ.toArray) w := by kernel_rfl
theorem c12_cells {w : World} {g : Nat} {x : Op15} {VL : List Value} (h : Arr w g 44 VL) (hV : VL = opC x) : w.cell? ⟨g, 0, none⟩ = some (.int .i64 x.kind) ∧ w.cell? ⟨g, 1, none⟩ = some (.string x.name) ∧ w.cell? ⟨g, 2, none⟩ = some (.string x.other) ∧ w.cell? ⟨g, 3, none⟩ = some (.int .i64 x.num) ∧ w.cell? ⟨g, 4, none⟩ = some (.int .i64 x.quota) := by
  subst hV
  refine ⟨?_, ?_, ?_, ?_, ?_⟩ <;> (rw [h.cell]; rfl)
/-- Are calls more than are looked at? -/
def great15 (xs : List Op15) : Bool := decide (80 < xs.length) || xs.any fun x => decide (100 < x.name.size ∨ 100 < x.other.size)

theorem great15_no {xs : List Op15} (h : great15 xs = false) : xs.length ≤ 80 ∧ ∀ x ∈ xs, x.name.size ≤ 100 ∧ x.other.size ≤ 100 := by
  unfold great15 at h
  simp only [Bool.or_eq_false_iff, decide_eq_false_iff_not, List.any_eq_false, decide_eq_true_eq] at h
  exact ⟨by omega, fun r hr => by have := h.2 r hr; omega⟩

theorem great15_many {xs : List Op15} (h : 80 < xs.length) : great15 xs = true := by unfold great15; rw [decide_eq_true h, Bool.true_or]

theorem great15_long {xs : List Op15} {k : Nat} {x : Op15} (hk : xs[k]? = some x) (h : 100 < x.name.size ∨ 100 < x.other.size) : great15 xs = true := by
  unfold great15
  rw [Bool.or_eq_true]
  exact .inr (List.any_eq_true.2 ⟨x, List.mem_of_getElem? hk, decide_eq_true h⟩)

theorem great15_none {xs : List Op15} (h : xs.length ≤ 80) (hr : ∀ (k : Nat) (x : Op15), xs[k]? = some x → x.name.size ≤ 100 ∧ x.other.size ≤ 100) : great15 xs = false := by
  unfold great15
  rw [Bool.or_eq_false_iff]
  refine ⟨decide_eq_false (by omega), List.any_eq_false.2 fun r hm => ?_⟩
  obtain ⟨k, hk⟩ := List.getElem?_of_mem hm
  have := hr k r hk
  simp
  omega

set_option maxHeartbeats 8000000 in
set_option maxRecDepth 100000 in
theorem great15_any (xs : List Op15) (A : Option Addr) (n c : Nat) (w : World) (hn : xs.length = n) (hc : n ≤ c) (hm : c ≤ 9223372036854775807) (hrs : OpsAt w w.heap.size A xs) :
    Calls Try.prog 13 #[.slice A n c] w fun e w' => e = .returned (.bool (great15 xs)) ∧ Below w.heap.size w w' := by
  obtain ⟨CZ, hCZ⟩ : ∃ CZ, CZ = opZ := ⟨_, rfl⟩
  have HZ := Lib.hid (fun w : World => show (zeroValue 44).run Try.prog w = .ok (.agg CZ.toArray) w by rw [hCZ]; exact opZero w)
  have HZl := Lib.hid (show CZ.length = 53 by rw [hCZ]; rfl)
  clear hCZ
  by_cases h80 : 80 < n
  · have hd : decide ((80 : Int) < (n : Int)) = true := by simp; omega
    have hd' : decide ((n : Int) > (80 : Int)) = true := by simp; omega
    have hg := Lib.hid (great15_many (xs := xs) (by omega))
    have Hn := Lib.hid hn
    clear hn
    go_enter Try.func13, Try.ntmps13
    go_wp2
    go_ret
    exact ⟨by rw [hg.out]; rfl, Below.refl _ _⟩
  · have hd : decide ((80 : Int) < (n : Int)) = false := by simp; omega
    have hd' : decide ((n : Int) > (80 : Int)) = false := by simp; omega
    have Hn := Lib.hid hn
    have Hrs := Lib.hid hrs
    clear hn hrs
    go_enter Try.func13, Try.ntmps13
    go_upto_region 4 with fail
    go_loopw [10] (fun i wr => ∃ k : Nat, k ≤ n ∧ i = .int .i64 k ∧ Below w.heap.size w wr ∧ Hid (∀ (j : Nat) (x : Op15), j < k → xs[j]? = some x → x.name.size ≤ 100 ∧ x.other.size ≤ 100)) (fun i _ => n - (Go.RowKit.intOf i).toNat)
    case atStart => exact ⟨0, Nat.zero_le _, rfl, Below.refl _ _, fun j x hj => by omega⟩
    case round =>
      obtain ⟨k, hk, rfl, hbr, Hr⟩ := hrel
      by_cases hlt : k < n
      · have hd1 : decide ((k : Int) < (n : Int)) = true := by simp; omega
        obtain ⟨x, hx⟩ : ∃ x, xs[k]? = some x := ⟨xs[k]'(by rw [Hn.out]; exact hlt), List.getElem?_eq_getElem _⟩
        obtain ⟨b, off, rfl, hblk, hrow⟩ := Hrs.out.2 (by rw [Hn.out]; omega)
        have hxo := Hrs.out.1 x (List.mem_of_getElem? hx)
        obtain ⟨VL, hVL⟩ : ∃ VL, VL = opC x := ⟨_, rfl⟩
        have hVl : VL.length = 53 := by rw [hVL, opC_length hxo.b48]
        have hrg : wr.rangeAt b (off + k * 53) VL := fun j v hj => by
          rw [hVL] at hj
          rw [← hrow k x hx j v hj]
          exact World.cell?_of_block (hbr.block b hblk)
        have HVi := Lib.hid (show (Try.prog.info? 44).map (·.size) = some VL.length by rw [hVl]; exact opSize)
        have HVj := Lib.hid (show (Try.prog.info? 44).map (·.size) = some VL.toArray.size by rw [List.size_toArray, hVl]; exact opSize)
        have HV1 := Lib.hid (show VL.toArray.all (·.oneCell') = true by rw [hVL]; exact all_oneCell_toArray (opC_one x))
        have HVz := Lib.hid (show CZ.toArray.size = VL.toArray.size by rw [List.size_toArray, List.size_toArray, HZl.out, hVl])
        obtain ⟨wa, hwa⟩ : ∃ W, W = (wr.alloc (.cells CZ.toArray 44)).setRow wr.heap.size VL.toArray := ⟨_, rfl⟩
        obtain ⟨hVa, hbra⟩ := alloc_row wr 44 CZ.toArray VL
        rw [← hwa] at hVa hbra
        obtain ⟨_, h1, h2, _⟩ := c12_cells hVa hVL
        obtain ⟨nx, hnx⟩ : ∃ l, x.name = l := ⟨_, rfl⟩
        obtain ⟨ox, hox⟩ : ∃ l, x.other = l := ⟨_, rfl⟩
        rw [hnx] at h1
        rw [hox] at h2
        have hn1 : nx.size ≤ 9223372036854775807 := by have := hxo.n1; rw [hnx] at this; unfold maxLen at this; omega
        have hn2 : ox.size ≤ 9223372036854775807 := by have := hxo.n2; rw [hox] at this; unfold maxLen at this; omega
        have hba : Below w.heap.size w wa := hbr.trans (hbra.mono hbr.size)
        have Hwa := Lib.hid hwa
        have Hnx := Lib.hid hnx
        have Hox := Lib.hid hox
        have Hx := Lib.hid hx
        clear hwa hnx hox hx hrow hVL hVl hVa hbra hbr hxo
        go_upto_region 6 with (first
          | (refine wpList_load_mid rfl _ _ rfl b (off + k * 53) rfl VL _ hrg Try.underlying44 rfl HVi.out ?_)
          | (refine wpList_allocZC rfl 44 rfl CZ.toArray (HZ.out _) ?_)
          | (refine wpList_store_row rfl _ _ _ rfl wr.heap.size VL.toArray rfl rfl 44 CZ.toArray (heap_alloc_new wr _) HVj.out HVz.out HV1.out ?_; rw [← Hwa.out]))
        by_cases hlong : 100 < nx.size
        · have hd2 : decide ((100 : Int) < (nx.size : Int)) = true := by simp; omega
          have hd3 : decide ((nx.size : Int) > (100 : Int)) = true := by simp; omega
          have hg := Lib.hid (great15_long Hx.out (.inl (by rw [Hnx.out]; exact hlong)))
          go_wp2_with fail
          go_ret
          exact ⟨by rw [hg.out]; rfl, hba⟩
        · have hd2 : decide ((100 : Int) < (nx.size : Int)) = false := by simp; omega
          have hd3 : decide ((nx.size : Int) > (100 : Int)) = false := by simp; omega
          by_cases hlong2 : 100 < ox.size
          · have he2 : decide ((100 : Int) < (ox.size : Int)) = true := by simp; omega
            have he3 : decide ((ox.size : Int) > (100 : Int)) = true := by simp; omega
            have hg := Lib.hid (great15_long Hx.out (.inr (by rw [Hox.out]; exact hlong2)))
            go_wp2_with fail
            go_ret
            exact ⟨by rw [hg.out]; rfl, hba⟩
          · have he2 : decide ((100 : Int) < (ox.size : Int)) = false := by simp; omega
            have he3 : decide ((ox.size : Int) > (100 : Int)) = false := by simp; omega
            have Hr' : Hid (∀ (j : Nat) (y : Op15), j < k + 1 → xs[j]? = some y → y.name.size ≤ 100 ∧ y.other.size ≤ 100) := fun j y hj hy => by
              by_cases e : j = k
              · subst e
                rw [Hx.out] at hy
                injection hy with hy
                rw [← hy, Hnx.out, Hox.out]
                omega
              · exact Hr.out j y (by omega) hy
            go_wp2_with fail
            go_roundw
            case rel => exact ⟨k + 1, by omega, by go_num, hba, Hr'⟩
            case measure => simp [Go.RowKit.intOf]; omega
      · have hd1 : decide ((k : Int) < (n : Int)) = false := by simp; omega
        have hg := Lib.hid (great15_none (xs := xs) (by rw [Hn.out]; omega) (fun j x hx => Hr.out j x (by have := (List.getElem?_eq_some_iff.1 hx).1; rw [Hn.out] at this; omega) hx))
        go_wp2_with fail
        go_ret
        exact ⟨by rw [hg.out]; rfl, hbr⟩


end Go.Proofs.Ytcajhndhjlfmaaa

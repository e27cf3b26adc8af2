/-
  An argument []Call of disk's law, opened.
-/
import Derived.Test.YtkpgbgiamekhaacDiskImage
import Derived.Deep.Slices
import Derived.Deep.Fields
import Derived.ChangeSame
import Derived.OpenShut
namespace Go.Proofs.Ytkpgbgiamekhaac
open Go.RowKit Go.ChangeShapes Go.WideShapes
set_option linter.unusedVariables false
set_option linter.unusedSimpArgs false

structure DCl where
  what : Int
  pos : Int
  n : Int
  s : List UInt8
  pv : Value
def DCl.fits (x : DCl) : Prop := -9223372036854775808 ≤ x.what ∧ x.what ≤ 9223372036854775807 ∧ -9223372036854775808 ≤ x.pos ∧ x.pos ≤ 9223372036854775807 ∧ x.s.length = 64 ∧ x.pv.oneCell' = true
def dcC (x : DCl) : List Value := .int .i64 x.what :: .int .i64 x.pos :: .int .i64 x.n :: (Lib.byteCells x.s ++ [x.pv])
theorem dcC_length {x : DCl} (h : x.s.length = 64) : (dcC x).length = 68 := by simp [dcC, Lib.byteCells_length, h]
theorem dcC_cell {x : DCl} (h : x.pv.oneCell' = true) : ∀ v ∈ dcC x, v.oneCell' = true := by
  intro v hv
  simp only [dcC, List.mem_cons, List.mem_append, List.not_mem_nil, or_false] at hv
  rcases hv with rfl | rfl | rfl | hv | rfl
  · rfl
  · rfl
  · rfl
  · exact byteCells_one _ v hv
  · exact h
theorem dcC_mid {x : DCl} {j : Nat} {v : Value} (h : (Lib.byteCells x.s)[j]? = some v) : (dcC x)[3 + j]? = some v := by
  unfold dcC
  rw [Nat.add_comm, List.getElem?_cons_succ, List.getElem?_cons_succ, List.getElem?_cons_succ, List.getElem?_append_left (List.getElem?_eq_some_iff.1 h).1]
  exact h

/-- Calls in memory, in a block below B. -/
def DClsAt (w : World) (B : Nat) (A : Option Addr) (n : Nat) (f : Nat → DCl) : Prop :=
  0 < n → ∃ b off, A = some ⟨b, off, none⟩ ∧ b < B ∧ ∀ i, i < n → (f i).fits ∧ w.rangeAt b (off + i * 68) (dcC (f i))
theorem DClsAt.below {w w' : World} {B B' n : Nat} {A : Option Addr} {f : Nat → DCl} (h : DClsAt w B A n f) (hb : Below B' w w') (hB : B ≤ B') : DClsAt w' B A n f := fun hn => by
  obtain ⟨b, off, e, hlt, hc⟩ := h hn
  exact ⟨b, off, e, hlt, fun i hi => ⟨(hc i hi).1, fun j v hj => (hb.cell (p := ⟨b, _, none⟩) (show b < B' by omega)).trans ((hc i hi).2 j v hj)⟩⟩

theorem sec_cells {H : Type} {enc : TypeId × Value → H} {W : World} {base : Nat} {sp : Nat → Bool} {held : Bool} {m : Nat} {cs : List Value} {x : DataW H × List MemPlace} (hl : cs.length = 64) (h : DataW.trod enc Try.prog W base sp held m 30 cs = some x) : ∃ l : List UInt8, l.length = 64 ∧ cs = Lib.byteCells l := by
  have hr : ∃ l : List UInt8, l.length = 64 ∧ (.agg cs.toArray : Value) = digV l := by
    obtain ⟨xs, m', _, _, hlen, hn, hel⟩ := DataW.trod_array Try.underlying30 h
    have hc1 : Try.prog.cellsOf 5 = 1 := by kernel_rfl
    have hall : ∀ i, i < 64 → ∃ b : UInt8, cs[i]? = some (.int .u8 (b.toNat : Nat)) := by
      intro i hi
      have h1 := hel i hi
      rw [hc1, Nat.mul_one] at h1
      have hx : xs[i]? = some (xs[i]'(by omega)) := List.getElem?_eq_getElem (by omega)
      rw [hx] at h1
      have hd : ((cs.drop i).take 1) = [cs[i]'(by omega)] := by rw [List.drop_eq_getElem_cons (by omega)]; rfl
      rw [hd] at h1
      obtain ⟨k, e, _, hw⟩ := DataW.trod_int Try.underlying5 h1
      have hb := bounds_u8 hw
      simp only [List.cons.injEq, and_true] at e
      refine ⟨k.toNat.toUInt8, ?_⟩
      rw [List.getElem?_eq_getElem (by omega), e, Lib.toUInt8_toNat (by omega), Int.toNat_of_nonneg hb.1]
    have hch : ∃ f : Nat → UInt8, ∀ i, i < 64 → cs[i]? = some (.int .u8 ((f i).toNat : Nat)) := by
      classical
      refine ⟨fun i => if hi : i < 64 then Classical.choose (hall i hi) else 0, fun i hi => ?_⟩
      simp only [dif_pos hi]
      exact Classical.choose_spec (hall i hi)
    obtain ⟨f, hf2⟩ := hch
    refine ⟨(List.range 64).map f, by simp, ?_⟩
    unfold digV
    congr 2
    apply List.ext_getElem?
    intro i
    by_cases hi : i < 64
    · rw [hf2 i hi]
      simp [Lib.byteCells, hi]
    · rw [List.getElem?_eq_none (by omega), List.getElem?_eq_none (by simp [Lib.byteCells]; omega)]
  obtain ⟨l, h1, h2⟩ := hr
  refine ⟨l, h1, ?_⟩
  unfold digV at h2
  injection h2 with h2
  simpa using congrArg Array.toList h2

theorem dint_cell {H : Type} {enc : TypeId × Value → H} {W : World} {v : Value} {y : DataW H × List MemPlace} {n : Nat} (h : DataW.trod enc Try.prog W 0 (fun _ => true) true n 3 [v] = some y) :
    ∃ z, v = .int .i64 z ∧ -9223372036854775808 ≤ z ∧ z ≤ 9223372036854775807 := by
  obtain ⟨z, hcs, _, hw⟩ := DataW.trod_int Try.underlying3 h
  simp at hcs
  exact ⟨z, hcs, bounds_i64 hw⟩

theorem dcall_cells {H : Type} {enc : TypeId × Value → H} {W : World} {m : Nat} {cs : List Value} {x : DataW H × List MemPlace} (hl : cs.length = 68) (h : DataW.trod enc Try.prog W 0 (fun _ => true) true m 32 cs = some x) : ∃ y : DCl, y.fits ∧ cs = dcC y := by
  obtain ⟨ys, n', _, _, hlen, hyl, hf⟩ := DataW.trod_struct Try.underlying32 h
  have g : ∀ j (hj : j < ys.length), ys[j]? = some (ys[j]) := fun j hj => List.getElem?_eq_getElem hj
  have hy5 : ys.length = 5 := hyl
  have c0 : DataW.trod enc Try.prog W 0 (fun _ => true) true n' 3 ((cs.drop 0).take (Try.prog.cellsOf 3)) = ys[0]? := hf 0 _ rfl
  have c1 : DataW.trod enc Try.prog W 0 (fun _ => true) true n' 3 ((cs.drop 1).take (Try.prog.cellsOf 3)) = ys[1]? := hf 1 _ rfl
  have c2 : DataW.trod enc Try.prog W 0 (fun _ => true) true n' 3 ((cs.drop 2).take (Try.prog.cellsOf 3)) = ys[2]? := hf 2 _ rfl
  have c3 : DataW.trod enc Try.prog W 0 (fun _ => true) true n' 30 ((cs.drop 3).take (Try.prog.cellsOf 30)) = ys[3]? := hf 3 _ rfl
  have c4 : DataW.trod enc Try.prog W 0 (fun _ => true) true n' 23 ((cs.drop 67).take (Try.prog.cellsOf 23)) = ys[4]? := hf 4 _ rfl
  have k1 : Try.prog.cellsOf 3 = 1 := by kernel_rfl
  have k64 : Try.prog.cellsOf 30 = 64 := by kernel_rfl
  have ks : Try.prog.cellsOf 23 = 1 := by kernel_rfl
  rw [k1] at c0 c1 c2
  rw [k64] at c3
  rw [ks] at c4
  rw [g 0 (by omega)] at c0
  rw [g 1 (by omega)] at c1
  rw [g 2 (by omega)] at c2
  rw [g 3 (by omega)] at c3
  rw [g 4 (by omega)] at c4
  have one : ∀ j (hj : j < cs.length), (cs.drop j).take 1 = [cs[j]] := fun j hj => by rw [List.drop_eq_getElem_cons hj]; rfl
  rw [one 0 (by omega)] at c0
  rw [one 1 (by omega)] at c1
  rw [one 2 (by omega)] at c2
  rw [one 67 (by omega)] at c4
  obtain ⟨z0, e0, b0, b0'⟩ := dint_cell c0
  obtain ⟨z1, e1, b1, b1'⟩ := dint_cell c1
  obtain ⟨z2, e2, b2, b2'⟩ := dint_cell c2
  obtain ⟨l, hl64, e3⟩ := sec_cells (by rw [List.length_take, List.length_drop]; omega) c3
  have h4 : (cs[67]).oneCell' = true := by
    rcases Go.Deep.open_slice Try.underlying23 c4 with ⟨h0, _⟩ | ⟨a, len', cap', m, n, D, Pl, hcs, _⟩
    · injection h0 with h0; rw [h0]; rfl
    · injection hcs with hcs; rw [hcs]; rfl
  refine ⟨⟨z0, z1, z2, l, cs[67]⟩, ⟨b0, b0', b1, b1', hl64, h4⟩, ?_⟩
  have e : cs = cs[0] :: cs[1] :: cs[2] :: ((cs.drop 3).take 64 ++ [cs[67]]) := by
    conv => lhs; rw [← List.take_append_drop 3 cs, ← List.take_append_drop 64 (cs.drop 3), List.drop_drop]
    have d67 : cs.drop (3 + 64) = [cs[67]] := by
      rw [List.drop_eq_getElem_cons (by omega), List.drop_of_length_le (by omega)]
    have t3 : cs.take 3 = [cs[0], cs[1], cs[2]] := by
      apply List.ext_getElem
      · simp; omega
      · intro i h1 h2
        simp at h1 h2
        have : i = 0 ∨ i = 1 ∨ i = 2 := by omega
        rcases this with rfl | rfl | rfl <;> simp
    rw [d67, t3]
    rfl
  refine e.trans ?_
  rw [e0, e1, e2, e3]
  rfl

theorem dcalls_arg {H : Type} {enc : TypeId × Value → H} {W : World} {A : Option Addr} {len cap : Nat} {d : DataW H} {p : List MemPlace} (h : DataW.Trod enc Try.prog W 0 (fun _ => true) true 22 (.slice A len cap) d p) :
    ∃ f : Nat → DCl, 0 = 0 ∧ len ≤ cap ∧ cap ≤ maxLen ∧ DClsAt W W.heap.size A len f := by
  obtain ⟨fuel, hf⟩ := h
  rcases Go.Deep.open_slice Try.underlying22 hf with ⟨h0, _⟩ | ⟨a, len', cap', m, n, D, Pl, hcs, _, hl, hm, hmm, _, hi⟩
  · simp [Value.cells] at h0
    obtain ⟨rfl, rfl, rfl⟩ := h0
    exact ⟨fun _ => ⟨0, 0, 0, [], undef⟩, rfl, Nat.le_refl _, by unfold maxLen; omega, fun h => by omega⟩
  · simp [Value.cells] at hcs
    obtain ⟨rfl, rfl, rfl⟩ := hcs
    have k68 : Try.prog.cellsOf 32 = 68 := by kernel_rfl
    have hle : len ≤ m := by rw [hmm]; split <;> omega
    have hall : ∀ i, i < len → ∃ x : DCl, x.fits ∧ ∀ j v, (dcC x)[j]? = some v → W.cell? (a.add (i * 68 + j)) = some v := by
      intro i him
      obtain ⟨cs', hc, ht'⟩ := hi i (by omega)
      rw [k68] at hc
      obtain ⟨_, hcl, hat⟩ := World.cells?_some hc
      obtain ⟨y, hy, rfl⟩ := dcall_cells hcl ht'
      refine ⟨y, hy, fun j v hj => ?_⟩
      have hj' := (List.getElem?_eq_some_iff.1 hj).1
      rw [← Go.Deep.add_add, hat j (by omega)]
      exact hj
    have hch : ∃ f : Nat → DCl, ∀ i, i < len → (f i).fits ∧ ∀ j v, (dcC (f i))[j]? = some v → W.cell? (a.add (i * 68 + j)) = some v := by
      classical
      refine ⟨fun i => if hi : i < len then Classical.choose (hall i hi) else ⟨0, 0, 0, [], undef⟩, fun i hi => ?_⟩
      simp only [dif_pos hi]
      exact Classical.choose_spec (hall i hi)
    clear hall
    obtain ⟨f, hf⟩ := hch
    refine ⟨f, rfl, hl, hm, fun hp => ?_⟩
    obtain ⟨b, off, spot⟩ := a
    have hc0 := (hf 0 hp).2 0 _ rfl
    have hspot : spot = none := by simpa [Addr.add] using World.cell?_spot hc0
    subst hspot
    refine ⟨b, off, rfl, World.block_lt_of_cell? W _ (by simpa [Addr.add] using hc0), fun i hi => ⟨(hf i hi).1, fun j v hj => ?_⟩⟩
    have hadd : ∀ k, (⟨b, off, none⟩ : Addr).add k = ⟨b, off + k, none⟩ := fun k => by unfold Addr.add; split <;> simp_all
    have := (hf i hi).2 j v hj
    rw [hadd] at this
    rw [Nat.add_assoc]
    exact this

end Go.Proofs.Ytkpgbgiamekhaac

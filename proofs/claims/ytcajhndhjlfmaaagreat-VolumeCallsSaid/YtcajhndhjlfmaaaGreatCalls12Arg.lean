/-
  An argument []Call of the laws of volumes, opened; great.
-/
import Derived.Test.YtcajhndhjlfmaaaGreatVolRows
import Derived.Deep.Slices
import Derived.Deep.Fields
import Derived.ChangeSame
import Derived.OpenShut
import Derived.Deep.DeepCutAuto
import Derived.Deep.CutBlock
namespace Go.Proofs.YtcajhndhjlfmaaaGreat
open Go.RowKit Go.ChangeShapes Go.WideShapes
set_option linter.unusedVariables false
set_option linter.unusedSimpArgs false

set_option maxRecDepth 100000 in
theorem dig_cells12 {H : Type} {enc : TypeId × Value → H} {W : World} {base : Nat} {sp : Nat → Bool} {held : Bool} {m : Nat} {cs : List Value} {x : DataW H × List MemPlace} (hl : cs.length = 32) (h : DataW.trod enc Tryz.prog W base sp held m 29 cs = some x) : ∃ l : List UInt8, l.length = 32 ∧ cs = Lib.byteCells l := by
  have hr : ∃ l : List UInt8, l.length = 32 ∧ (.agg cs.toArray : Value) = digV l := by
    obtain ⟨xs, m', _, _, hlen, hn, hel⟩ := DataW.trod_array Tryz.underlying29 h
    have hc1 : Tryz.prog.cellsOf 5 = 1 := by kernel_rfl
    have hall : ∀ i, i < 32 → ∃ b : UInt8, cs[i]? = some (.int .u8 (b.toNat : Nat)) := by
      intro i hi
      have h1 := hel i hi
      rw [hc1, Nat.mul_one] at h1
      have hx : xs[i]? = some (xs[i]'(by omega)) := List.getElem?_eq_getElem (by omega)
      rw [hx] at h1
      have hd : ((cs.drop i).take 1) = [cs[i]'(by omega)] := by rw [List.drop_eq_getElem_cons (by omega)]; rfl
      rw [hd] at h1
      obtain ⟨k, e, _, hw⟩ := DataW.trod_int Tryz.underlying5 h1
      have hb := bounds_u8 hw
      simp only [List.cons.injEq, and_true] at e
      refine ⟨k.toNat.toUInt8, ?_⟩
      rw [List.getElem?_eq_getElem (by omega), e, Lib.toUInt8_toNat (by omega), Int.toNat_of_nonneg hb.1]
    have hch : ∃ f : Nat → UInt8, ∀ i, i < 32 → cs[i]? = some (.int .u8 ((f i).toNat : Nat)) := by
      classical
      refine ⟨fun i => if hi : i < 32 then Classical.choose (hall i hi) else 0, fun i hi => ?_⟩
      simp only [dif_pos hi]
      exact Classical.choose_spec (hall i hi)
    obtain ⟨f, hf2⟩ := hch
    refine ⟨(List.range 32).map f, by simp, ?_⟩
    unfold digV
    congr 2
    apply List.ext_getElem?
    intro i
    by_cases hi : i < 32
    · rw [hf2 i hi]
      simp [Lib.byteCells, hi]
    · rw [List.getElem?_eq_none (by omega), List.getElem?_eq_none (by simp [Lib.byteCells]; omega)]
  obtain ⟨l, h1, h2⟩ := hr
  refine ⟨l, h1, ?_⟩
  unfold digV at h2
  injection h2 with h2
  simpa using congrArg Array.toList h2

/-- A call. -/
structure Cl12 where
  what : Int
  name : ByteArray
  other : ByteArray
  num : Int
  quota : Int
  frozen : Bool
  finger : List UInt8
def c12C (x : Cl12) : List Value := [.int .i64 x.what, .string x.name, .string x.other, .int .i64 x.num, .int .i64 x.quota, .bool x.frozen] ++ Lib.byteCells x.finger
structure C12Ok (x : Cl12) : Prop where
  f32 : x.finger.length = 32
  n1 : x.name.size ≤ maxLen
  n2 : x.other.size ≤ maxLen
  i1 : -9223372036854775808 ≤ x.num ∧ x.num ≤ 9223372036854775807
  i2 : -9223372036854775808 ≤ x.quota ∧ x.quota ≤ 9223372036854775807
  i3 : -9223372036854775808 ≤ x.what ∧ x.what ≤ 9223372036854775807
theorem c12C_length {x : Cl12} (h : x.finger.length = 32) : (c12C x).length = 38 := by simp [c12C, Lib.byteCells_length, h]
theorem c12C_one (x : Cl12) : ∀ v ∈ c12C x, v.oneCell' = true := by
  intro v hv
  rcases List.mem_append.1 hv with hv | hv
  · simp only [List.mem_cons, List.mem_nil_iff, or_false] at hv
    rcases hv with rfl | rfl | rfl | rfl | rfl | rfl <;> rfl
  · simp only [Lib.byteCells, List.mem_map] at hv
    obtain ⟨b, _, rfl⟩ := hv
    rfl
/-- Calls in memory, in a block below B. -/
def Cls12 (w : World) (B : Nat) (A : Option Addr) (xs : List Cl12) : Prop :=
  (∀ x ∈ xs, C12Ok x) ∧ (0 < xs.length → ∃ b off, A = some ⟨b, off, none⟩ ∧ b < B ∧ ∀ i x, xs[i]? = some x → w.rangeAt b (off + i * 38) (c12C x))
theorem Cls12.below {w w' : World} {B B' : Nat} {A : Option Addr} {xs : List Cl12} (h : Cls12 w B A xs) (hb : Below B' w w') (hB : B ≤ B') : Cls12 w' B A xs :=
  ⟨h.1, fun hp => by
    obtain ⟨b, off, e, hlt, hc⟩ := h.2 hp
    exact ⟨b, off, e, hlt, fun i x hx j v hj => (hb.cell (p := ⟨b, _, none⟩) (show b < B' by omega)).trans (hc i x hx j v hj)⟩⟩

theorem call12_cells {H : Type} {enc : TypeId × Value → H} {W : World} {m : Nat} {cs : List Value} {x : DataW H × List MemPlace} (hl : cs.length = 38) (h : DataW.trod enc Tryz.prog W 0 (fun _ => true) true m 31 cs = some x) : ∃ y : Cl12, C12Ok y ∧ cs = c12C y := by
  obtain ⟨ys, n', _, _, hlen, hyl, hf⟩ := DataW.trod_struct Tryz.underlying31 h
  have g : ∀ j (hj : j < ys.length), ys[j]? = some (ys[j]) := fun j hj => List.getElem?_eq_getElem hj
  have hy7 : ys.length = 7 := hyl
  have k1 : Tryz.prog.cellsOf 3 = 1 := by kernel_rfl
  have ks : Tryz.prog.cellsOf 9 = 1 := by kernel_rfl
  have kb : Tryz.prog.cellsOf 4 = 1 := by kernel_rfl
  have k32 : Tryz.prog.cellsOf 29 = 32 := by kernel_rfl
  have c0 : DataW.trod enc Tryz.prog W 0 (fun _ => true) true n' 3 ((cs.drop 0).take (Tryz.prog.cellsOf 3)) = ys[0]? := hf 0 _ rfl
  have c1 : DataW.trod enc Tryz.prog W 0 (fun _ => true) true n' 9 ((cs.drop 1).take (Tryz.prog.cellsOf 9)) = ys[1]? := hf 1 _ rfl
  have c2 : DataW.trod enc Tryz.prog W 0 (fun _ => true) true n' 9 ((cs.drop 2).take (Tryz.prog.cellsOf 9)) = ys[2]? := hf 2 _ rfl
  have c3 : DataW.trod enc Tryz.prog W 0 (fun _ => true) true n' 3 ((cs.drop 3).take (Tryz.prog.cellsOf 3)) = ys[3]? := hf 3 _ rfl
  have c4 : DataW.trod enc Tryz.prog W 0 (fun _ => true) true n' 3 ((cs.drop 4).take (Tryz.prog.cellsOf 3)) = ys[4]? := hf 4 _ rfl
  have c5 : DataW.trod enc Tryz.prog W 0 (fun _ => true) true n' 4 ((cs.drop 5).take (Tryz.prog.cellsOf 4)) = ys[5]? := hf 5 _ rfl
  have c6 : DataW.trod enc Tryz.prog W 0 (fun _ => true) true n' 29 ((cs.drop 6).take (Tryz.prog.cellsOf 29)) = ys[6]? := hf 6 _ rfl
  rw [k1, g 0 (by omega)] at c0
  rw [ks, g 1 (by omega)] at c1
  rw [ks, g 2 (by omega)] at c2
  rw [k1, g 3 (by omega)] at c3
  rw [k1, g 4 (by omega)] at c4
  rw [kb, g 5 (by omega)] at c5
  rw [k32, g 6 (by omega)] at c6
  have one : ∀ j (hj : j < cs.length), (cs.drop j).take 1 = [cs[j]] := fun j hj => by rw [List.drop_eq_getElem_cons hj]; rfl
  rw [one 0 (by omega)] at c0
  rw [one 1 (by omega)] at c1
  rw [one 2 (by omega)] at c2
  rw [one 3 (by omega)] at c3
  rw [one 4 (by omega)] at c4
  rw [one 5 (by omega)] at c5
  obtain ⟨z0, e0, _, w0⟩ := DataW.trod_int Tryz.underlying3 c0
  obtain ⟨z1, e1, _, w1⟩ := DataW.trod_string Tryz.underlying9 c1
  obtain ⟨z2, e2, _, w2⟩ := DataW.trod_string Tryz.underlying9 c2
  obtain ⟨z3, e3, _, w3⟩ := DataW.trod_int Tryz.underlying3 c3
  obtain ⟨z4, e4, _, w4⟩ := DataW.trod_int Tryz.underlying3 c4
  obtain ⟨z5, e5, _⟩ := DataW.trod_bool Tryz.underlying4 c5
  simp only [List.cons.injEq, and_true] at e0 e1 e2 e3 e4 e5
  obtain ⟨l, hl32, e6⟩ := dig_cells12 (by rw [List.length_take, List.length_drop]; omega) c6
  refine ⟨⟨z0, z1, z2, z3, z4, z5, l⟩, ⟨hl32, w1, w2, bounds_i64 w3, bounds_i64 w4, bounds_i64 w0⟩, ?_⟩
  have e : cs = [cs[0], cs[1], cs[2], cs[3], cs[4], cs[5]] ++ (cs.drop 6).take 32 := by
    apply List.ext_getElem?
    intro j
    by_cases hj : j < 6
    · rw [List.getElem?_append_left (by simpa using hj)]
      rcases j with _ | _ | _ | _ | _ | _ | j
      all_goals first | (rw [List.getElem?_eq_getElem (by omega)]; rfl) | omega
    · rw [List.getElem?_append_right (by simp; omega), List.getElem?_take, List.getElem?_drop]
      simp only [List.length_cons, List.length_nil]
      by_cases hj2 : j < 38
      · rw [if_pos (by omega), show 6 + (j - (0 + 1 + 1 + 1 + 1 + 1 + 1)) = j by omega]
      · rw [if_neg (by omega), List.getElem?_eq_none (by omega)]
  refine e.trans ?_
  rw [e0, e1, e2, e3, e4, e5, e6]
  rfl

theorem calls12_arg {H : Type} {enc : TypeId × Value → H} {W : World} {A : Option Addr} {len cap : Nat} {d : DataW H} {p : List MemPlace} (h : DataW.Trod enc Tryz.prog W 0 (fun _ => true) true 22 (.slice A len cap) d p) :
    ∃ xs : List Cl12, xs.length = len ∧ len ≤ cap ∧ cap ≤ maxLen ∧ Cls12 W W.heap.size A xs := by
  obtain ⟨fuel, hf⟩ := h
  rcases Go.Deep.open_slice Tryz.underlying22 hf with ⟨h0, _⟩ | ⟨a, len', cap', m, n, D, Pl, hcs, _, hl, hm, hmm, _, hi⟩
  · simp [Value.cells] at h0
    obtain ⟨rfl, rfl, rfl⟩ := h0
    exact ⟨[], rfl, Nat.le_refl _, by unfold maxLen; omega, fun x hx => by simp at hx, fun h => by simp at h⟩
  · simp [Value.cells] at hcs
    obtain ⟨rfl, rfl, rfl⟩ := hcs
    have k38 : Tryz.prog.cellsOf 31 = 38 := by kernel_rfl
    have hle : len ≤ m := by rw [hmm]; split <;> omega
    have hall : ∀ i, i < len → ∃ x : Cl12, C12Ok x ∧ ∀ j v, (c12C x)[j]? = some v → W.cell? (a.add (i * 38 + j)) = some v := by
      intro i him
      obtain ⟨cs', hc, ht'⟩ := hi i (by omega)
      rw [k38] at hc
      obtain ⟨_, hcl, hat⟩ := World.cells?_some hc
      obtain ⟨y, hy, rfl⟩ := call12_cells hcl ht'
      refine ⟨y, hy, fun j v hj => ?_⟩
      have hj' := (List.getElem?_eq_some_iff.1 hj).1
      rw [← Go.Deep.add_add, hat j (by omega)]
      exact hj
    have hch : ∃ f : Nat → Cl12, ∀ i, i < len → C12Ok (f i) ∧ ∀ j v, (c12C (f i))[j]? = some v → W.cell? (a.add (i * 38 + j)) = some v := by
      classical
      refine ⟨fun i => if hi : i < len then Classical.choose (hall i hi) else ⟨0, ⟨#[]⟩, ⟨#[]⟩, 0, 0, false, []⟩, fun i hi => ?_⟩
      simp only [dif_pos hi]
      exact Classical.choose_spec (hall i hi)
    clear hall
    obtain ⟨f, hf⟩ := hch
    have hget : ∀ i x, ((List.range len).map f)[i]? = some x → i < len ∧ x = f i := by
      intro i x hx
      obtain ⟨h1, h2⟩ := List.getElem?_eq_some_iff.1 hx
      simp at h1 h2
      exact ⟨h1, h2.symm⟩
    refine ⟨(List.range len).map f, by simp, hl, hm, fun x hx => ?_, fun hp => ?_⟩
    · obtain ⟨i, hi', rfl⟩ := List.mem_map.1 hx
      exact (hf i (List.mem_range.1 hi')).1
    · have hp' : 0 < len := by simpa using hp
      obtain ⟨b, off, spot⟩ := a
      have hc0 := (hf 0 hp').2 0 _ rfl
      have hspot : spot = none := by simpa [Addr.add] using World.cell?_spot hc0
      subst hspot
      refine ⟨b, off, rfl, World.block_lt_of_cell? W _ (by simpa [Addr.add] using hc0), fun i x hx j v hj => ?_⟩
      obtain ⟨hil, rfl⟩ := hget i x hx
      have hadd : ∀ k, (⟨b, off, none⟩ : Addr).add k = ⟨b, off + k, none⟩ := fun k => by unfold Addr.add; split <;> simp_all
      have := (hf i hil).2 j v hj
      rw [hadd] at this
      rw [Nat.add_assoc]
      exact this

theorem c12Size : (Tryz.prog.info? 31).map (·.size) = some 38 := by kernel_rfl
def c12Z : List Value := [.int .i64 0, .string ⟨#[]⟩, .string ⟨#[]⟩, .int .i64 0, .int .i64 0, .bool false] ++ Lib.byteCells zeros
theorem c12Zero (w : World) : (zeroValue 31).run Tryz.prog w = .ok (.agg c12Z.toArray) w := by kernel_rfl
theorem wpList_allocZ12 {P : Program} {ops : Array Oper} {rest : List Oper} {o : Oper} {a : Act} {w : World} {Q : Exit → Act → World → Prop} (hg : o.guard = none) (t : TypeId) (ho : o.op = .alloc t) (Z : Array Value) (hz : (zeroValue t).run P w = .ok (.agg Z) w)
    (h : wpList P ops Q rest (a.put o.dst (.pointer (some ⟨w.heap.size, 0, none⟩))) (w.alloc (.cells Z t))) : wpList P ops Q (o :: rest) a w := by
  refine wpList_plain hg fun K hK => ?_
  unfold Oper.wp execOp
  simp only [ho, Instr.alloc, Sem.run_bind, hz, Result.andThen_ok]
  exact hK _ _ h
/-- A call's cells, where it stands in a block of its own. -/
theorem c12_cells {w : World} {g : Nat} {x : Cl12} {VL : List Value} (h : Arr w g 31 VL) (hV : VL = c12C x) : w.cell? ⟨g, 0, none⟩ = some (.int .i64 x.what) ∧ w.cell? ⟨g, 1, none⟩ = some (.string x.name) ∧ w.cell? ⟨g, 2, none⟩ = some (.string x.other) ∧ w.cell? ⟨g, 3, none⟩ = some (.int .i64 x.num) ∧ w.cell? ⟨g, 4, none⟩ = some (.int .i64 x.quota) ∧ w.cell? ⟨g, 5, none⟩ = some (.bool x.frozen) := by
  subst hV
  refine ⟨?_, ?_, ?_, ?_, ?_, ?_⟩ <;> (rw [h.cell]; rfl)
theorem c12_finger {w : World} {g : Nat} {x : Cl12} {VL FL : List Value} (h : Arr w g 31 VL) (hV : VL = c12C x) (hF : FL = Lib.byteCells x.finger) : w.rangeAt g 6 FL := by
  subst hV hF
  intro j v hj
  rw [h.cell]
  unfold c12C
  rw [List.getElem?_append_right (by simp), show 6 + j - [Value.int .i64 x.what, .string x.name, .string x.other, .int .i64 x.num, .int .i64 x.quota, .bool x.frozen].length = j by simp]
  exact hj

/-- Are calls more than are looked at? -/
def great12 (xs : List Cl12) : Bool := decide (60 < xs.length) || xs.any fun x => decide (100 < x.name.size ∨ 100 < x.other.size)
theorem great12_no {xs : List Cl12} (h : great12 xs = false) : xs.length ≤ 60 ∧ ∀ x ∈ xs, x.name.size ≤ 100 ∧ x.other.size ≤ 100 := by
  unfold great12 at h
  simp only [Bool.or_eq_false_iff, decide_eq_false_iff_not, List.any_eq_false, decide_eq_true_eq] at h
  exact ⟨by omega, fun r hr => by have := h.2 r hr; omega⟩
theorem great12_many {xs : List Cl12} (h : 60 < xs.length) : great12 xs = true := by unfold great12; rw [decide_eq_true h, Bool.true_or]
theorem great12_long {xs : List Cl12} {k : Nat} {x : Cl12} (hk : xs[k]? = some x) (h : 100 < x.name.size ∨ 100 < x.other.size) : great12 xs = true := by
  unfold great12
  rw [Bool.or_eq_true]
  exact .inr (List.any_eq_true.2 ⟨x, List.mem_of_getElem? hk, decide_eq_true h⟩)
theorem great12_none {xs : List Cl12} (h : xs.length ≤ 60) (hr : ∀ (k : Nat) (x : Cl12), xs[k]? = some x → x.name.size ≤ 100 ∧ x.other.size ≤ 100) : great12 xs = false := by
  unfold great12
  rw [Bool.or_eq_false_iff]
  refine ⟨decide_eq_false (by omega), List.any_eq_false.2 fun r hm => ?_⟩
  obtain ⟨k, hk⟩ := List.getElem?_of_mem hm
  have := hr k r hk
  simp
  omega

set_option maxHeartbeats 8000000 in
set_option maxRecDepth 100000 in
theorem great12_any (xs : List Cl12) (A : Option Addr) (n c : Nat) (w : World) (hn : xs.length = n) (hc : n ≤ c) (hm : c ≤ 9223372036854775807) (hrs : Cls12 w w.heap.size A xs) :
    Calls Tryz.prog 5 #[.slice A n c] w fun e w' => e = .returned (.bool (great12 xs)) ∧ Below w.heap.size w w' := by
  obtain ⟨CZ, hCZ⟩ : ∃ CZ, CZ = c12Z := ⟨_, rfl⟩
  have HZ := Lib.hid (fun w : World => show (zeroValue 31).run Tryz.prog w = .ok (.agg CZ.toArray) w by rw [hCZ]; exact c12Zero w)
  have HZl := Lib.hid (show CZ.length = 38 by rw [hCZ]; rfl)
  clear hCZ
  by_cases h60 : 60 < n
  · have hd : decide ((60 : Int) < (n : Int)) = true := by simp; omega
    have hd' : decide ((n : Int) > (60 : Int)) = true := by simp; omega
    have hg := Lib.hid (great12_many (xs := xs) (by omega))
    have Hn := Lib.hid hn
    clear hn
    go_enter Tryz.func5, Tryz.ntmps5
    go_wp2
    go_ret
    exact ⟨by rw [hg.out]; rfl, Below.refl _ _⟩
  · have hd : decide ((60 : Int) < (n : Int)) = false := by simp; omega
    have hd' : decide ((n : Int) > (60 : Int)) = false := by simp; omega
    have Hn := Lib.hid hn
    have Hrs := Lib.hid hrs
    clear hn hrs
    go_enter Tryz.func5, Tryz.ntmps5
    go_upto_region 4 with fail
    go_loopw [10] (fun i wr => ∃ k : Nat, k ≤ n ∧ i = .int .i64 k ∧ Below w.heap.size w wr ∧ Hid (∀ (j : Nat) (x : Cl12), j < k → xs[j]? = some x → x.name.size ≤ 100 ∧ x.other.size ≤ 100)) (fun i _ => n - (Go.RowKit.intOf i).toNat)
    case atStart => exact ⟨0, Nat.zero_le _, rfl, Below.refl _ _, fun j x hj => by omega⟩
    case round =>
      obtain ⟨k, hk, rfl, hbr, Hr⟩ := hrel
      by_cases hlt : k < n
      · have hd1 : decide ((k : Int) < (n : Int)) = true := by simp; omega
        obtain ⟨x, hx⟩ : ∃ x, xs[k]? = some x := ⟨xs[k]'(by rw [Hn.out]; exact hlt), List.getElem?_eq_getElem _⟩
        obtain ⟨b, off, rfl, hblk, hrow⟩ := Hrs.out.2 (by rw [Hn.out]; omega)
        have hxo := Hrs.out.1 x (List.mem_of_getElem? hx)
        obtain ⟨VL, hVL⟩ : ∃ VL, VL = c12C x := ⟨_, rfl⟩
        have hVl : VL.length = 38 := by rw [hVL, c12C_length hxo.f32]
        have hrg : wr.rangeAt b (off + k * 38) VL := fun j v hj => by
          rw [hVL] at hj
          rw [← hrow k x hx j v hj]
          exact World.cell?_of_block (hbr.block b hblk)
        have HVi := Lib.hid (show (Tryz.prog.info? 31).map (·.size) = some VL.length by rw [hVl]; exact c12Size)
        have HVj := Lib.hid (show (Tryz.prog.info? 31).map (·.size) = some VL.toArray.size by rw [List.size_toArray, hVl]; exact c12Size)
        have HV1 := Lib.hid (show VL.toArray.all (·.oneCell') = true by rw [hVL]; exact all_oneCell_toArray (c12C_one x))
        have HVz := Lib.hid (show CZ.toArray.size = VL.toArray.size by rw [List.size_toArray, List.size_toArray, HZl.out, hVl])
        obtain ⟨wa, hwa⟩ : ∃ W, W = (wr.alloc (.cells CZ.toArray 31)).setRow wr.heap.size VL.toArray := ⟨_, rfl⟩
        obtain ⟨hVa, hbra⟩ := alloc_row wr 31 CZ.toArray VL
        rw [← hwa] at hVa hbra
        obtain ⟨_, h1, h2, _⟩ := c12_cells hVa hVL
        obtain ⟨nx, hnx⟩ : ∃ l, x.name = l := ⟨_, rfl⟩
        obtain ⟨ox, hox⟩ : ∃ l, x.other = l := ⟨_, rfl⟩
        rw [hnx] at h1
        rw [hox] at h2
        have hn1 : nx.size ≤ 9223372036854775807 := by have := hxo.n1; rw [hnx] at this; unfold maxLen at this; omega
        have hn2 : ox.size ≤ 9223372036854775807 := by have := hxo.n2; rw [hox] at this; unfold maxLen at this; omega
        have hba : Below w.heap.size w wa := hbr.trans (hbra.mono hbr.size)
        have Hwa := Lib.hid hwa
        have Hnx := Lib.hid hnx
        have Hox := Lib.hid hox
        have Hx := Lib.hid hx
        clear hwa hnx hox hx hrow hVL hVl hVa hbra hbr hxo
        go_upto_region 6 with (first
          | (refine wpList_load_mid rfl _ _ rfl b (off + k * 38) rfl VL _ hrg Tryz.underlying31 rfl HVi.out ?_)
          | (refine wpList_allocZ12 rfl 31 rfl CZ.toArray (HZ.out _) ?_)
          | (refine wpList_store_row rfl _ _ _ rfl wr.heap.size VL.toArray rfl rfl 31 CZ.toArray (heap_alloc_new wr _) HVj.out HVz.out HV1.out ?_; rw [← Hwa.out]))
        by_cases hlong : 100 < nx.size
        · have hd2 : decide ((100 : Int) < (nx.size : Int)) = true := by simp; omega
          have hd3 : decide ((nx.size : Int) > (100 : Int)) = true := by simp; omega
          have hg := Lib.hid (great12_long Hx.out (.inl (by rw [Hnx.out]; exact hlong)))
          go_wp2_with fail
          go_ret
          exact ⟨by rw [hg.out]; rfl, hba⟩
        · have hd2 : decide ((100 : Int) < (nx.size : Int)) = false := by simp; omega
          have hd3 : decide ((nx.size : Int) > (100 : Int)) = false := by simp; omega
          by_cases hlong2 : 100 < ox.size
          · have he2 : decide ((100 : Int) < (ox.size : Int)) = true := by simp; omega
            have he3 : decide ((ox.size : Int) > (100 : Int)) = true := by simp; omega
            have hg := Lib.hid (great12_long Hx.out (.inr (by rw [Hox.out]; exact hlong2)))
            go_wp2_with fail
            go_ret
            exact ⟨by rw [hg.out]; rfl, hba⟩
          · have he2 : decide ((100 : Int) < (ox.size : Int)) = false := by simp; omega
            have he3 : decide ((ox.size : Int) > (100 : Int)) = false := by simp; omega
            have Hr' : Hid (∀ (j : Nat) (y : Cl12), j < k + 1 → xs[j]? = some y → y.name.size ≤ 100 ∧ y.other.size ≤ 100) := fun j y hj hy => by
              by_cases e : j = k
              · subst e
                rw [Hx.out] at hy
                injection hy with hy
                rw [← hy, Hnx.out, Hox.out]
                omega
              · exact Hr.out j y (by omega) hy
            go_wp2_with fail
            go_roundw
            case rel => exact ⟨k + 1, by omega, by go_num, hba, Hr'⟩
            case measure => simp [Go.RowKit.intOf]; omega
      · have hd1 : decide ((k : Int) < (n : Int)) = false := by simp; omega
        have hg := Lib.hid (great12_none (xs := xs) (by rw [Hn.out]; omega) (fun j x hx => Hr.out j x (by have := (List.getElem?_eq_some_iff.1 hx).1; rw [Hn.out] at this; omega) hx))
        go_wp2_with fail
        go_ret
        exact ⟨by rw [hg.out]; rfl, hbr⟩

end Go.Proofs.YtcajhndhjlfmaaaGreat

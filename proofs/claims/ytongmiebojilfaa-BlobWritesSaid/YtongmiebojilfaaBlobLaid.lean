/-
  The document's own Laid.
-/
import Derived.Test.YtongmiebojilfaaBlobRef
import Derived.Test.YtongmiebojilfaaSecRow
namespace Go.Proofs.Ytongmiebojilfaa
open Go.RowKit
set_option linter.unusedVariables false
set_option linter.unusedSimpArgs false

def laidF (b : List UInt8) (i : Nat) : List (List UInt8) := (List.range i).map (secAtF b)
theorem laidF_length (b : List UInt8) (i : Nat) : (laidF b i).length = i := by simp [laidF]
theorem laidF_succ (b : List UInt8) (i : Nat) : laidF b (i + 1) = laidF b i ++ [secAtF b i] := by simp [laidF, List.range_succ]
theorem laidF_getD (b : List UInt8) {i j : Nat} (h : j < i) : (laidF b i).getD j [] = secAtF b j := by simp [laidF, List.getD, h]
theorem zeroSec_built : Try.prog.built 30 [] = some (Lib.byteCells zero64).toArray := by kernel_rfl

/-- A sector with the first k bytes in it. -/
def partS (ch : List UInt8) (k : Nat) : List UInt8 := ch.take k ++ List.replicate (64 - k) 0
theorem partS_zero (ch : List UInt8) : partS ch 0 = zero64 := by simp [partS, zero64]
theorem partS_length {ch : List UInt8} {k : Nat} (hk : k ≤ ch.length) (hc : ch.length ≤ 64) : (partS ch k).length = 64 := by
  unfold partS
  rw [List.length_append, List.length_take, List.length_replicate]; omega
theorem partS_at {ch : List UInt8} {k : Nat} (hk : k < ch.length) (hc : ch.length ≤ 64) : (Lib.byteCells (partS ch k))[k]? = some (.int .u8 0) := by
  have hl : (ch.take k).length = k := by rw [List.length_take]; omega
  have h : (partS ch k)[k]? = some 0 := by
    unfold partS
    rw [List.getElem?_append_right (by omega), hl, Nat.sub_self, List.getElem?_replicate]
    simp; omega
  simp [Lib.byteCells, h]
theorem partS_set {ch : List UInt8} {k x : Nat} (hk : k < ch.length) (hc : ch.length ≤ 64) (hx : (ch.getD k 0).toNat = x) : (Lib.byteCells (partS ch k)).set k (.int .u8 (x : Nat)) = Lib.byteCells (partS ch (k + 1)) := by
  have hl : (ch.take k).length = k := by rw [List.length_take]; omega
  have h : (partS ch k).set k (ch.getD k 0) = partS ch (k + 1) := by
    unfold partS
    rw [List.set_append_right _ _ (by omega), hl, Nat.sub_self, show 64 - k = (64 - (k + 1)) + 1 by omega, List.replicate_succ, List.set_cons_zero, List.take_succ_eq_append_getElem hk, List.append_assoc]
    simp [List.getD, hk]
  rw [← h]
  unfold Lib.byteCells
  rw [List.map_set, ← hx]
theorem partS_all (b : List UInt8) (i : Nat) : partS ((b.drop (64 * i)).take 64) ((b.drop (64 * i)).take 64).length = secAtF b i := by
  unfold partS secAtF
  rw [List.take_length]

theorem SRow.only {w w' : World} {B : Nat} {v : Value} {ds : List (List UInt8)} {R : Nat → Prop} (h : SRow w B v ds) (hO : Only R w w') (hv : ∀ g, v.ownBlock = some g → ¬ R g) : SRow w' B v ds := ⟨h.1, ownsRow_only h.2 hO hv⟩

set_option maxHeartbeats 8000000 in
set_option maxRecDepth 100000 in
theorem laid_any (b : List UInt8) (A : Option Addr) (n c : Nat) (w : World) (hn : b.length = n) (hn2 : n ≤ 100000) (hnc : n ≤ c) (hcm : c ≤ 9223372036854775807) (hb : Bs w w.heap.size A b) :
    Calls Try.prog 13 #[.slice A n c] w fun e w' => ∃ v, e = .returned v ∧ SRow w' w.heap.size v (laidF b (secsF n)) ∧ Below w.heap.size w w' := by
  obtain ⟨s, hs⟩ : ∃ s, secsF n = s := ⟨_, rfl⟩
  have Hs := Lib.hid hs
  have hsB : s ≤ 1000000 := by rw [← hs]; unfold secsF; omega
  rw [hs]
  have Hn := Lib.hid hn
  obtain ⟨ZL, hZL⟩ : ∃ l, l = Lib.byteCells zero64 := ⟨_, rfl⟩
  have hZl : ZL.length = 64 := by rw [hZL]; rfl
  have HZi := Lib.hid (show (Try.prog.info? 30).map (·.size) = some ZL.toArray.size by rw [List.size_toArray, hZl]; exact secInfo)
  have HZ1 := Lib.hid (show ZL.toArray.all (·.oneCell') = true by rw [hZL]; exact sec_one _)
  have HZs := Lib.hid (show (Lib.byteCells zero64).toArray.size = ZL.toArray.size by rw [hZL])
  have HZb := Lib.hid (show Try.prog.built 30 [] = some ZL.toArray by rw [hZL]; exact zeroSec_built)
  have HZL := Lib.hid hZL
  clear hs hn hZL
  go_enter Try.func13, Try.ntmps13
  go_wp2_with fail
  go_loopw [3, 4] (fun v x wr => ∃ i : Nat, i ≤ s ∧ x = .int .i64 i ∧ SRow wr w.heap.size v (laidF b i) ∧ Below w.heap.size w wr) (fun _ x _ => s - (intOf x).toNat)
  case atStart => exact ⟨0, by omega, rfl, SRow.empty w _ (Nat.le_refl _), (Below.refl _ w).alloc (Nat.le_refl _) _⟩
  case round =>
    obtain ⟨i, hi, rfl, hown, hbel⟩ := hrel
    obtain ⟨wq, hwq⟩ : ∃ x, x = wr := ⟨_, rfl⟩
    subst hwq
    have hsz := hbel.size
    have hbw : Bs wq w.heap.size A b := hb.below hbel (Nat.le_refl _)
    go_wp2_with fail
    refine Calls.mono (rsectors_any n (by omega) wq) ?_
    rintro e w1 ⟨rfl, rfl⟩
    rw [Hs.out]
    by_cases hlt : i < s
    · have hd1 : decide ((i : Int) < (s : Int)) = true := by simp; exact hlt
      have hd1n : decide (i < s) = true := by simp; exact hlt
      go_wp2_with (first
        | (refine wpList_builtD rfl _ _ rfl [] rfl ZL.toArray HZb.out ?_)
        | (change wpList _ _ _ _ _ (w1.alloc (.cells (Lib.byteCells zero64).toArray 30)); refine wpList_store_row rfl _ _ _ rfl w1.heap.size ZL.toArray rfl rfl 30 (Lib.byteCells zero64).toArray (heap_alloc_new w1 _) HZi.out HZs.out HZ1.out ?_; obtain ⟨w4, hw4⟩ : ∃ x, x = (w1.alloc (.cells (Lib.byteCells zero64).toArray 30)).setRow w1.heap.size ZL.toArray := ⟨_, rfl⟩; rw [← hw4]; obtain ⟨hX4, hb4⟩ := alloc_rowD w1 30 (Lib.byteCells zero64).toArray ZL; rw [← hw4] at hX4 hb4; clear hw4))
      have hown4 := hown.up hb4
      have hne := hown.lt
      have hbw4 : Bs w4 w.heap.size A b := hbw.below hb4 hsz
      have hbel4 : Below w.heap.size w w4 := hbel.trans (hb4.mono hsz)
      obtain ⟨ch, hch⟩ : ∃ ch, (b.drop (64 * i)).take 64 = ch := ⟨_, rfl⟩
      have hcl : ch.length = min 64 (n - 64 * i) := by rw [← hch, List.length_take, List.length_drop, Hn.out]
      have hcl64 : ch.length ≤ 64 := by omega
      have hget : ∀ k, k < ch.length → ch.getD k 0 = b.getD (64 * i + k) 0 := fun k hk => by
        rw [← hch]
        simp only [List.getD]
        rw [List.getElem?_take_of_lt (by omega), List.getElem?_drop]
      have hpa : partS ch ch.length = secAtF b i := by rw [← hch]; exact partS_all b i
      have hX4' : Arr w4 w1.heap.size 30 (Lib.byteCells (partS ch 0)) := by rw [partS_zero, ← HZL.out]; exact hX4
      have Hpa := Lib.hid hpa
      have hix : 64 * i ≤ n := by
        by_cases h0 : 0 < n
        · exact Nat.le_of_lt (secsF_fits (by rw [Hs.out]; exact hlt) h0)
        · have := Hs.out; unfold secsF at this; omega
      obtain ⟨x, hx⟩ : ∃ x, 64 * i = x := ⟨_, rfl⟩
      have hxI : (64 : Int) * (i : Int) = (x : Int) := by omega
      rw [hx] at hcl hget hix
      have hxB : x ≤ 100000 := by omega
      obtain ⟨m, hm⟩ : ∃ m, ch.length = m := ⟨_, rfl⟩
      have hglt : w1.heap.size < w4.heap.size := hX4.lt
      have Hm := Lib.hid hm
      have Hget := Lib.hid hget
      rw [hm] at hcl hcl64
      clear hch hx hX4 hm hget hpa hbw hb4 hown
      go_loopw [6] (fun y wr => ∃ k : Nat, k ≤ m ∧ y = .int .i64 k ∧ Arr wr w1.heap.size 30 (Lib.byteCells (partS ch k)) ∧ Only (fun j => j = w1.heap.size) w4 wr) (fun y _ => 64 - (intOf y).toNat)
      case atStart => exact ⟨0, by omega, rfl, hX4', Only.refl _ _⟩
      case round =>
        clear hX4'
        obtain ⟨k, hk, rfl, hX, hO⟩ := hrel
        obtain ⟨wk, hwk⟩ : ∃ x, x = wr := ⟨_, rfl⟩
        subst hwk
        obtain ⟨y, hy⟩ : ∃ y, x + k = y := ⟨_, rfl⟩
        have hyI : (x : Int) + (k : Int) = (y : Int) := by omega
        have hyB : y ≤ 200000 := by omega
        by_cases hlk : k < m
        · have hyn : y < n := by omega
          have hd2 : decide ((k : Int) < (64 : Int)) = true := by simp; omega
          have hd3 : decide ((y : Int) < (n : Int)) = true := by simp; omega
          have hd3n : decide (y < n) = true := by simp; omega
          have hbk : Bs wk w.heap.size A b := hbw4.keep fun bb o hl => World.cell?_of_block (hO.block bb (by omega) (by omega))
          obtain ⟨bb, off, z, rfl, hbbB, hcz, hzl, Hz⟩ := hbk.at_ (k := y) (by rw [Hn.out]; exact hyn)
          have hck : wk.cell? ⟨w1.heap.size, k, none⟩ = some (.int .u8 0) := by rw [hX.cell]; exact partS_at (by rw [Hm.out]; exact hlk) (by rw [Hm.out]; exact hcl64)
          have hfk := hX.frozen k
          have hset := hX.set k (.int .u8 (z : Nat))
          rw [partS_set (x := z) (by rw [Hm.out]; exact hlk) (by rw [Hm.out]; exact hcl64) (by rw [Hget.out k (by rw [Hm.out]; exact hlk), hy]; exact Hz.out)] at hset
          have hkI : (k : Int) < (64 : Int) := by omega
          have hynI : (y : Int) < (n : Int) := by omega
          have hOs : Only (fun j => j = w1.heap.size) w4 (wk.setCell ⟨w1.heap.size, k, none⟩ (.int .u8 (z : Nat))) := hO.setCell (p := ⟨w1.heap.size, k, none⟩) (.inl rfl) _
          obtain ⟨wn, hwn⟩ : ∃ x, x = wk.setCell ⟨w1.heap.size, k, none⟩ (.int .u8 (z : Nat)) := ⟨_, rfl⟩
          rw [← hwn] at hset hOs
          have Hwn := Lib.hid hwn
          clear hy hwn hbk
          go_wp2_with fail
          go_roundw
          case rel => exact ⟨k + 1, by omega, by go_num, by rw [← Hwn.out]; exact hset, by rw [← Hwn.out]; exact hOs⟩
          case measure => simp [intOf]; omega
        · obtain rfl : k = m := by omega
          have hpk : partS ch k = secAtF b i := by rw [← Hm.out]; exact Hpa.out
          rw [hpk] at hX
          have hl64 := secAtF_length b i
          obtain ⟨SL, hSL⟩ : ∃ SL, SL = Lib.byteCells (secAtF b i) := ⟨_, rfl⟩
          have hSl : SL.length = 64 := by rw [hSL, Lib.byteCells_length]; exact hl64
          have HSi := Lib.hid (show (Try.prog.info? 30).map (·.size) = some SL.toArray.size by rw [List.size_toArray, hSl]; exact secInfo)
          have hownk := hown4.only hO (fun g hg e => by have := (hne g hg).2; omega)
          have hBk : w.heap.size ≤ wk.heap.size := by have := hO.size; omega
          have hbelk : Below w.heap.size w wk := hbel4.trans (hO.below (by omega) (by rintro j rfl; omega))
          have hXk : Hid (wk.heap[w1.heap.size]? = some (.cells SL.toArray 30 (0, 0))) := by rw [hSL]; exact hX
          have hba : Below wk.heap.size wk (wk.alloc (.cells SL.toArray 30)) := (Below.refl _ _).alloc (Nat.le_refl _) _
          have hga : Arr (wk.alloc (.cells SL.toArray 30)) wk.heap.size 30 (Lib.byteCells (secAtF b i)) := by rw [← hSL]; exact Arr.new wk _ _
          have hlk : (laidF b i).length ≤ 1000000 := by rw [laidF_length]; omega
          have hd2 : decide ((k : Int) < (64 : Int)) = false ∨ (decide ((k : Int) < (64 : Int)) = true ∧ decide ((y : Int) < (n : Int)) = false ∧ decide (y < n) = false) := by
            simp only [decide_eq_true_eq, decide_eq_false_iff_not]
            omega
          have HSL := Lib.hid hSL
          clear hy hX hSL hpk hO
          rcases hd2 with hd2 | ⟨hd2, hd3, hd3n⟩
          · go_wp2_with (first
              | (refine wpList_load_row rfl _ _ rfl w1.heap.size rfl 30 SL.toArray (0, 0) _ hXk.out Try.underlying30 rfl HSi.out ?_)
              | (refine wpList_build_secR rfl _ rfl SL hSl rfl ?_)
              | (refine wpList_append_secR rfl _ _ rfl (hownk.up hba) (by simp; omega) rfl wk.heap.size 1 rfl (secAtF b i) hl64 hga hlk (fun v' w' hr hg => ?_)))
            all_goals exact ⟨⟨i + 1, by omega, by simp, by rw [laidF_succ]; exact hr, (hbelk.alloc hBk _).grown hg (by simp; omega) (fun q hq => (hne q hq).1)⟩, by simp [intOf]; omega⟩
          · go_wp2_with (first
              | (refine wpList_load_row rfl _ _ rfl w1.heap.size rfl 30 SL.toArray (0, 0) _ hXk.out Try.underlying30 rfl HSi.out ?_)
              | (refine wpList_build_secR rfl _ rfl SL hSl rfl ?_)
              | (refine wpList_append_secR rfl _ _ rfl (hownk.up hba) (by simp; omega) rfl wk.heap.size 1 rfl (secAtF b i) hl64 hga hlk (fun v' w' hr hg => ?_)))
            all_goals exact ⟨⟨i + 1, by omega, by simp, by rw [laidF_succ]; exact hr, (hbelk.alloc hBk _).grown hg (by simp; omega) (fun q hq => (hne q hq).1)⟩, by simp [intOf]; omega⟩
    · obtain rfl : i = s := by omega
      have hd1 : decide ((i : Int) < (i : Int)) = false := by simp
      have hd1n : decide (i < i) = false := by simp
      go_wp2
      go_ret
      exact ⟨_, rfl, hown, hbel⟩

end Go.Proofs.Ytongmiebojilfaa

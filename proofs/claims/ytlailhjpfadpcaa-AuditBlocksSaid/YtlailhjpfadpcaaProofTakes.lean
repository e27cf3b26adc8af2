/-
  proof's take, whatever the bytes are.
-/
import Derived.Test.YtlailhjpfadpcaaProofMath
import Derived.Test.YtlailhjpfadpcaaGen
import Derived.Deep.DeepCutAuto
import Derived.Deep.CutBlock
import Derived.IntWalk
import Derived.StillTailTactics
import Derived.Test.YtlailhjpfadpcaaDig
import Derived.Maps.OwnSet
import Derived.Maps.Views
import Derived.Test.YtlailhjpfadpcaaInBytes
import Derived.Deep.RegionHeld3
import Derived.WalkSpells
import Derived.Test.YtlailhjpfadpcaaCut
namespace Go.Proofs.Ytlailhjpfadpcaa
open Go.RowKit
set_option linter.unusedVariables false
set_option linter.unusedSimpArgs false

theorem owns_empty64P (w : World) (B : Nat) (hB : B ≤ w.heap.size) : Owns (w.alloc (.cells (Lib.byteCells (List.replicate 64 0)).toArray 5)) B 5 (.slice (some ⟨w.heap.size, 0, none⟩) 0 64) [] :=
  ⟨by simp [Lib.byteCells], .inr ⟨w.heap.size, 64, (Lib.byteCells (List.replicate 64 0)).toArray, rfl, hB, heap_alloc_new w _, by simp, by unfold maxLen; omega, by simp [Lib.byteCells], by simp [Lib.byteCells]⟩⟩
theorem run_index_dig (d : List UInt8) (hd : d.length = 32) (DL : List Value) (hDL : DL = Lib.byteCells d) (i : Nat) (hi : i < 32) (w : World) :
    (Instr.index 24 (.agg DL.toArray) (.int .i64 (i : Nat))).run Try.prog w = .ok (.int .u8 ((d.getD i 0).toNat : Nat)) w := by
  have hg : (Lib.byteCells d)[i]? = some (.int .u8 ((d.getD i 0).toNat : Nat)) := byteCells_get (by omega)
  have hu := Try.underlying24
  have hs : (sizeOf 5).run Try.prog w = .ok 1 w := by kernel_rfl
  subst hDL
  simp [Instr.index, asIntOf, run_underlying hu, part, hs, hg]
  intro h8
  omega
theorem restF_two (k : List UInt8) (i : Nat) (x : Nat) (hx : (k.getD i 0).toNat = x) : restF k 0 (2 * (i + 1)) = restF k 0 (2 * i) ++ [(x / 16).toUInt8, (x % 16).toUInt8] := by
  rw [show 2 * (i + 1) = 2 * i + 1 + 1 by omega, restF_snoc k (by omega), restF_snoc k (by omega)]
  have e1 : nibF k (2 * i) = x / 16 := by unfold nibF; rw [if_pos (by omega), show 2 * i / 2 = i by omega, hx]
  have e2 : nibF k (2 * i + 1) = x % 16 := by unfold nibF; rw [if_neg (by omega), show (2 * i + 1) / 2 = i by omega, hx]
  rw [e1, e2]
  simp
theorem Owns.snoc2 {w : World} {B : Nat} {T : TypeId} {v : Value} {l : List UInt8} {a b n : Nat} {y z : Int} (ha : a < 256) (hb : b < 256) (hn : n = l.length + 2) (hy : y = (a : Int)) (hz : z = (b : Int)) (h : w.ownsRow B T 1 v n (Lib.byteCells l ++ [.int .u8 y, .int .u8 z])) : Owns w B T v (l ++ [a.toUInt8, b.toUInt8]) := by
  subst hn hy hz
  unfold Owns
  have e : l ++ [a.toUInt8, b.toUInt8] = (l ++ [a.toUInt8]) ++ [b.toUInt8] := by simp
  rw [e, Lib.byteCells_snoc _ hb, Lib.byteCells_snoc l ha]
  simpa using h

set_option maxHeartbeats 8000000 in
set_option maxRecDepth 100000 in
theorem nibbles_run (key : List UInt8) (hk : key.length = 32) (KL : List Value) (hKL : KL = Lib.byteCells key) (w : World) :
    Calls Try.prog 33 #[.agg KL.toArray] w fun e w' => ∃ v, e = .returned v ∧ Owns w' w.heap.size 5 v (restF key 0 64) ∧ Below w.heap.size w w' := by
  obtain ⟨i0, hi, hz0, hz1, hz2⟩ := info_parts byteInfo
  have hmk : ∀ w', (Instr.makeSlice 40 (.int .i64 0) (.int .i64 64)).run Try.prog w' = .ok (.slice (some ⟨w'.heap.size, 0, none⟩) 0 64) (w'.alloc (.cells (Lib.byteCells (List.replicate 64 0)).toArray 5)) := fun w' => by
    have h := run_make (P := Try.prog) (w := w') 40 5 i0 (.int .u8 0) Try.underlying40 hi hz0 .i64 .i64 (0 : Nat) (64 : Nat) (by omega) (by omega) (by rw [hz2]; omega) (by omega)
    rw [hz1, Nat.mul_one] at h
    simpa [made_zeros, Value.cells] using h
  have Hix := Lib.hid (fun i hi w => run_index_dig key hk KL hKL i hi w)
  have Hki := Lib.hid (show (Try.prog.info? 24).map (·.size) = some KL.length by rw [hKL, Lib.byteCells_length, hk]; kernel_rfl)
  obtain ⟨W1, hW1⟩ : ∃ W1, W1 = w.alloc (.cells KL.toArray 24) := ⟨_, rfl⟩
  have hR1 : Arr W1 w.heap.size 24 KL := by rw [hW1]; exact Arr.new w _ _
  have hb1 : Below w.heap.size w W1 := by rw [hW1]; exact (Below.refl _ w).alloc (Nat.le_refl _) _
  obtain ⟨W2, hW2⟩ : ∃ W2, W2 = W1.alloc (.cells (Lib.byteCells (List.replicate 64 0)).toArray 5) := ⟨_, rfl⟩
  have hR2 : Arr W2 w.heap.size 24 KL := by rw [hW2]; exact hR1.alloc _
  have hb2 : Below w.heap.size w W2 := by rw [hW2]; exact hb1.alloc hb1.size _
  have hown2 : Owns W2 w.heap.size 5 (.slice (some ⟨W1.heap.size, 0, none⟩) 0 64) (restF key 0 (2 * 0)) := by
    rw [hW2, show restF key 0 (2 * 0) = [] by simp [restF]]; exact owns_empty64P W1 w.heap.size hb1.size
  have HW1 := Lib.hid hW1
  have HW2 := Lib.hid hW2
  clear hW1 hW2 hKL hR1
  go_enter Try.func33, Try.ntmps33
  go_upto_region 1 with fail
  change Code.wp _ _ _ _ (w.alloc (.cells KL.toArray 24))
  rw [← HW1.out]
  clear HW1
  go_upto_region 2 with fail
  change Code.wp _ _ _ _ (W1.alloc (.cells (Lib.byteCells (List.replicate 64 0)).toArray 5))
  rw [← HW2.out]
  clear HW2 hmk
  obtain ⟨g2, hg2⟩ : ∃ g2, g2 = W1.heap.size := ⟨_, rfl⟩
  rw [← hg2] at hown2 ⊢
  clear hg2
  have hrng := hR2.range
  go_wp2_with (refine wpList_load_mid rfl _ _ rfl w.heap.size 0 rfl KL _ hrng Try.underlying24 rfl Hki.out ?_)
  clear hrng hR2
  go_loopw [3, 8] (fun v x wr => ∃ k : Nat, k ≤ 32 ∧ x = .int .i64 k ∧ Owns wr w.heap.size 5 v (restF key 0 (2 * k)) ∧ Below w.heap.size w wr) (fun _ x _ => 32 - (intOf x).toNat)
  case atStart => exact ⟨0, by omega, rfl, hown2, hb2⟩
  case round =>
    clear hown2 hb2
    obtain ⟨k, hk32, rfl, hown, hbB⟩ := hrel
    have hrl := restF_length key 0 (2 * k)
    by_cases hlt : k < 32
    · have hd1 : decide ((k : Int) < (32 : Int)) = true := by simp; omega
      have hix := Hix.out k hlt
      obtain ⟨x, hx⟩ : ∃ x, (key.getD k 0).toNat = x := ⟨_, rfl⟩
      have hx256 : x < 256 := by rw [← hx]; exact UInt8.toNat_lt _
      rw [hx] at hix
      have Hx := Lib.hid hx
      clear hx
      have hB0 := hbB.size
      go_wp2_with (at_builtin; refine wpList_append_own_at _ rfl _ _ 40 rfl w.heap.size 5 i0 (.int .u8 0) 1 1 Try.underlying40 hi hz0 hz1 hz2 rfl (by decide) _ _ _ rfl (World.ownsRow.alloc hown _) ⟨wr.heap.size, 0, none⟩ 2 2 [Value.int .u8 ((x : Int) / 16), Value.int .u8 ((x : Int) % 16)] rfl rfl ?c1 ?c2 ?c3 ?c4 ?c5 ?_)
      case c1 =>
        intro j u hj
        match j, hj with
        | 0, hj => simp at hj; subst hj; simp [Addr.add]
        | 1, hj => simp at hj; subst hj; simp [Addr.add]
      case c2 => intro u hu; simp at hu; rcases hu with rfl | rfl <;> rfl
      case c3 => unfold maxLen; omega
      case c4 => omega
      case c5 => simp; omega
      intro v' w1 hown' hgrow _ hplace
      have hbn : Below w.heap.size w w1 := (hbB.alloc hbB.size _).grown hgrow (by simp; omega) (fun k hk => (hown.lt k hk).1)
      have hon : Owns w1 w.heap.size 5 v' (restF key 0 (2 * (k + 1))) := by
        rw [restF_two key k x Hx.out]
        exact Owns.snoc2 (a := x / 16) (b := x % 16) (by omega) (by omega) (by omega) (by omega) (by omega) hown'
      clear hown hown' hgrow hplace hbB
      go_wp2
      go_roundw
      case rel => exact ⟨k + 1, by omega, by go_num, hon, hbn⟩
      case measure => simp [intOf]; omega
    · obtain rfl : k = 32 := by omega
      have hd1 : decide (((32 : Nat) : Int) < (32 : Int)) = false := by simp
      go_wp2_with fail
      go_ret
      exact ⟨_, rfl, hown, hbB⟩

/-- All nibbles? -/
theorem nibsB_take {l : List UInt8} {k : Nat} (hk : k < l.length) (h : nibsB (l.take k) = true) {x : Nat} (hx : (l.getD k 0).toNat = x) : nibsB (l.take (k + 1)) = decide (x < 16) := by
  unfold nibsB at *
  rw [List.take_succ_eq_append_getElem hk, List.all_append, h]
  have : l.getD k 0 = l[k] := by simp [List.getD, hk]
  rw [← hx, this]
  simp
theorem nibsB_bad {l : List UInt8} {k : Nat} (hk : k < l.length) {x : Nat} (hx : (l.getD k 0).toNat = x) (h : 16 ≤ x) : nibsB l = false := by
  have : l.getD k 0 = l[k] := by simp [List.getD, hk]
  cases hn : nibsB l
  · rfl
  · unfold nibsB at hn
    have := List.all_eq_true.1 hn l[k] (List.getElem_mem hk)
    simp at this
    rw [← hx, ‹l.getD k 0 = l[k]›] at h
    omega

set_option maxHeartbeats 4000000 in
set_option maxRecDepth 100000 in
theorem allNibbles_run (B : Nat) (A : Option Addr) (c n : Nat) (l : List UInt8) (hn : l.length = n) (w : World) (hA : Bs w B A l) (hl : n ≤ 140737488355328) (r : Bool) (hr : nibsB l = r) :
    Calls Try.prog 75 #[.slice A n c] w fun e w' => e = .returned (.bool r) ∧ w' = w := by
  have Hr := Lib.hid hr
  have Hn := Lib.hid hn
  clear hr hn
  go_enter Try.func75, Try.ntmps75
  go_wp2_with fail
  go_loop [7] (fun x => ∃ k : Nat, k ≤ n ∧ x = .int .i64 k ∧ Hid (nibsB (l.take k) = true)) (fun x => n - (intOf x).toNat)
  case atStart => exact ⟨0, by omega, rfl, rfl⟩
  case round =>
    obtain ⟨k, hkn, rfl, hok⟩ := hrel
    by_cases hlt : k < n
    · obtain ⟨b, off, x, rfl, hbB, hc, hx, Hx⟩ := hA.at_ (show k < l.length by rw [Hn.out]; exact hlt)
      have hd1 : decide ((k : Int) < (n : Int)) = true := by simp; omega
      by_cases hx16 : x < 16
      · have hok2 : Hid (nibsB (l.take (k + 1)) = true) := by
          show _ = _
          rw [nibsB_take (by rw [Hn.out]; exact hlt) hok.out Hx.out]
          simpa using hx16
        have hd2 : decide ((16 : Int) ≤ (x : Int)) = false := by simp; omega
        go_wp2_with fail
        go_round
        case rel => exact ⟨k + 1, by omega, by go_num, hok2⟩
        case measure => simp [intOf]; omega
      · have hd2 : decide ((16 : Int) ≤ (x : Int)) = true := by simp; omega
        have hf := nibsB_bad (by rw [Hn.out]; exact hlt) Hx.out (by omega)
        rw [Hr.out] at hf
        subst hf
        go_wp2_with fail
        go_ret
        exact ⟨rfl, rfl⟩
    · obtain rfl : k = n := by omega
      have hd1 : decide ((k : Int) < (k : Int)) = false := by simp
      have ht := hok.out
      rw [List.take_of_length_le (by rw [Hn.out]; exact Nat.le_refl _), Hr.out] at ht
      subst ht
      go_wp2_with fail
      go_ret
      exact ⟨rfl, rfl⟩

end Go.Proofs.Ytlailhjpfadpcaa

namespace Go.Proofs.Ytlailhjpfadpcaa
open Go.RowKit
open Go.Maps (Keyed)
set_option linter.unusedVariables false
set_option linter.unusedSimpArgs false

theorem byteCells_inj {a b : List UInt8} (h : Lib.byteCells a = Lib.byteCells b) : a = b := by
  have hl : a.length = b.length := by have := congrArg List.length h; simpa [Lib.byteCells_length] using this
  refine List.ext_getElem hl fun j h1 h2 => ?_
  have e1 := byteCells_get h1
  have e2 := byteCells_get h2
  rw [h, e2] at e1
  simp only [Option.some.injEq, Value.int.injEq, true_and] at e1
  have e3 : (b.getD j 0).toNat = (a.getD j 0).toNat := by omega
  have e4 := UInt8.toNat_inj.1 e3
  simp only [List.getD, List.getElem?_eq_getElem h1, List.getElem?_eq_getElem h2, Option.getD_some] at e4
  exact e4.symm

theorem popM_succ (m n : Nat) : popM m (n + 1) = popM m n + if bitM m n then 1 else 0 := rfl
theorem kidS_succ (m : Nat) (s : St) (n : Nat) : kidS m s (n + 1) = if bitM m n then cutS (kidS m s n) else kidS m s n := rfl
/-- A block of the call's own turns. -/
theorem Turn.mapTurn {p m : Nat} {a b c : World} (h : Turn p a b) (hg : b.grownBy c (some m)) (hm : a.heap.size ≤ m) : Turn p a c :=
  ⟨hg.os.trans h.os, hg.tape.trans h.tape, hg.output.trans h.output, Nat.le_trans h.size hg.size,
    fun k hk hne => (hg.block k (Nat.lt_of_lt_of_le hk h.size) (fun e => by injection e with e; omega)).trans (h.block k hk hne)⟩
/-- How a digest in a map reads. -/
noncomputable def digR (v : Value) : Option (DataW Unit × List MemPlace) :=
  open Classical in if h : ∃ d : List UInt8, d.length = 32 ∧ v = .agg (Lib.byteCells d).toArray then some (.lit (.string (Classical.choose h)), []) else none
theorem digR_mk {d : List UInt8} (hd : d.length = 32) : digR (.agg (Lib.byteCells d).toArray) = some (.lit (.string d), []) := by
  have h : ∃ d' : List UInt8, d'.length = 32 ∧ Value.agg (Lib.byteCells d).toArray = .agg (Lib.byteCells d').toArray := ⟨d, hd, rfl⟩
  unfold digR
  rw [dif_pos h]
  have hs : Value.agg (Lib.byteCells d).toArray = .agg (Lib.byteCells (Classical.choose h)).toArray := (Classical.choose_spec h).2
  have hs2 : Lib.byteCells d = Lib.byteCells (Classical.choose h) := by injection hs with hs; exact List.toArray_inj hs
  have hs3 : Classical.choose h = d := (byteCells_inj hs2).symm
  rw [hs3]
theorem digR_inv {v : Value} {d : List UInt8} {ps : List MemPlace} (h : digR v = some (.lit (.string d), ps)) : d.length = 32 ∧ v = .agg (Lib.byteCells d).toArray := by
  unfold digR at h
  split at h
  · rename_i hx
    simp only [Option.some.injEq, Prod.mk.injEq, DataW.lit.injEq, Lit.string.injEq] at h
    have hs := Classical.choose_spec hx
    rw [h.1] at hs
    exact hs
  · cases h

theorem nibKeyed : Keyed Try.prog 5 := Go.Maps.int_keyed Try.underlying5
theorem nibKey (j : Nat) (hj : j < 256) : keyOf Try.prog 5 (.int .u8 (j : Nat)) = some (.int .u8 (j : Nat)) := Go.Maps.keyOf_int_mk Try.underlying5 (by simp [Lit.wf, IntKind.min, IntKind.max, IntKind.signed, IntKind.bits]; omega)
theorem isKeyNib (j : Nat) (hj : j < 256) : WideAt.IsKeyLit (.int .u8 (j : Nat)) := nibKeyed.key (nibKey j hj)
theorem zeroDig (w : World) : (zeroValue 24).run Try.prog w = .ok (.agg (Lib.byteCells zeros).toArray) w := by kernel_rfl

/-- Block m is a map of the digests of the first n nibbles. -/
def KidMap (w : World) (m : Nat) (mask : Nat) (s : St) (n : Nat) : Prop :=
  ∃ (D : DataW Unit) (c : Nat), w.ownsMap Try.prog 5 digR m c D ∧ c ≤ n ∧ Maps.Tidy D ∧ (∀ j : Nat, j < 256 → Maps.has D (.int .u8 (j : Nat)) = (decide (j < n) && bitM mask j)) ∧
    (∀ j : Nat, j < n → n ≤ 16 → bitM mask j = true → ∀ z, D.atKey (.int .u8 (j : Nat)) z = .lit (.string (kidD mask s j))) ∧ Maps.size D = popM mask n

theorem KidMap.lt {w : World} {m mask : Nat} {s : St} {n : Nat} (h : KidMap w m mask s n) : m < w.heap.size := by
  obtain ⟨D, c, h1, _⟩ := h
  exact h1.lt
theorem KidMap.kept {w w' : World} {m mask : Nat} {s : St} {n : Nat} {row : Option Nat} (h : KidMap w m mask s n) (hg : w.grownBy w' row) (hne : some m ≠ row) : KidMap w' m mask s n := by
  obtain ⟨D, c, h1, h2⟩ := h
  exact ⟨D, c, h1.kept hg hne, h2⟩
theorem KidMap.new (w : World) (mask : Nat) (s : St) : KidMap (w.alloc (.map #[] 0)) w.heap.size mask s 0 :=
  ⟨.map [], 0, World.ownsMap_made w _ _ _, Nat.le_refl _, Maps.tidy_empty, fun j _ => by simp [Maps.has_eq], fun j hj => by omega, rfl⟩
theorem KidMap.skip {w : World} {m mask : Nat} {s : St} {n : Nat} (h : KidMap w m mask s n) (hb : bitM mask n = false) : KidMap w m mask s (n + 1) := by
  obtain ⟨D, c, h1, h2, h3, h4, h5, h6⟩ := h
  refine ⟨D, c, h1, by omega, h3, fun j hj => ?_, fun j hj hn he => ?_, ?_⟩
  · rw [h4 j hj]
    by_cases e : j = n
    · subst e; simp [hb]
    · have : decide (j < n) = decide (j < n + 1) := decide_eq_decide.2 (by omega)
      rw [this]
  · by_cases e : j = n
    · subst e; rw [hb] at he; cases he
    · exact h5 j (by omega) (by omega) he
  · rw [h6, popM_succ, hb]; simp
theorem litNe {j n : Nat} (h : j ≠ n) : (Lit.int .u8 (j : Nat)) ≠ Lit.int .u8 (n : Nat) := fun e => by injection e with _ e; omega
theorem KidMap.put {w' : World} {m mask : Nat} {s : St} {n c : Nat} {D : DataW Unit} (h1 : w'.ownsMap Try.prog 5 digR m (c + 1) (D.put (.int .u8 (n : Nat)) (.lit (.string (kidD mask s n))))) (h2 : c ≤ n) (h3 : Maps.Tidy D)
    (h4 : ∀ j : Nat, j < 256 → Maps.has D (.int .u8 (j : Nat)) = (decide (j < n) && bitM mask j)) (h5 : ∀ j : Nat, j < n → n ≤ 16 → bitM mask j = true → ∀ z, D.atKey (.int .u8 (j : Nat)) z = .lit (.string (kidD mask s j)))
    (h6 : Maps.size D = popM mask n) (hb : bitM mask n = true) (hn : n < 16) : KidMap w' m mask s (n + 1) := by
  have hk := isKeyNib n (by omega)
  refine ⟨_, c + 1, h1, by omega, h3.put hk _, fun j hj => ?_, fun j hj hn he z => ?_, ?_⟩
  · by_cases e : j = n
    · subst e; rw [Maps.has_put_same h3.isMap hk]; simp [hb]
    · rw [Maps.has_put_other (litNe e), h4 j hj]
      have : decide (j < n) = decide (j < n + 1) := decide_eq_decide.2 (by omega)
      rw [this]
  · by_cases e : j = n
    · subst e; rw [Maps.atKey_put_same h3.isMap hk]
    · rw [Maps.atKey_put_other (litNe e)]
      exact h5 j (by omega) (by omega) he z
  · rw [Maps.size_put h3, h4 n (by omega), h6]
    rw [popM_succ]
    simp [hb]

theorem bit_test (mask n : Nat) : (((mask : Int) / 2 ^ n).tmod 2 == 1) = bitM mask n := by
  have e : (mask : Int) / 2 ^ n = ((mask / 2 ^ n : Nat) : Int) := by simp
  unfold bitM
  rw [e]
  generalize mask / 2 ^ n = q
  rw [Int.tmod_eq_emod_of_nonneg (by omega)]
  rw [Bool.eq_iff_iff, beq_iff_eq, decide_eq_true_eq]
  omega
theorem numS_le (most : Nat) (s : St) : (numS most s).1 ≤ most := numF_le most s.1

set_option maxHeartbeats 8000000 in
set_option maxRecDepth 100000 in
theorem digests_run (p : Nat) (s : St) (mask : Nat) (s2 : St) (hm : numS 65535 s = (mask, s2)) (w : World) (h : PIn w p s.1 s.2) :
    Calls Try.prog 74 #[.pointer (some ⟨p, 0, none⟩)] w fun e w' => ∃ m, e = .returned (.map (some m)) ∧ w.heap.size ≤ m ∧ KidMap w' m mask s2 16 ∧ PIn w' p (kidS mask s2 16).1 (kidS mask s2 16).2 ∧ Turn p w w' := by
  have hp := h.lt
  have hm16 : mask ≤ 65535 := by have := numS_le 65535 s; rw [hm] at this; exact this
  go_enter Try.func74, Try.ntmps74
  go_wp2_with fail
  refine Calls.mono (show Calls Try.prog 43 #[.pointer (some ⟨p, 0, none⟩), .int .u64 65535] w _ from number_in p 65535 s.1 s.2 w h (by omega)) ?_
  rintro e w1 ⟨rfl, hp1, ht1⟩
  have e1 : (numF 65535 s.1).1 = mask := congrArg Prod.fst hm
  have e2 : ((numF 65535 s.1).2.1, s.2 || (numF 65535 s.1).2.2) = s2 := congrArg Prod.snd hm
  have e3 : (numF 65535 s.1).2.1 = s2.1 := by rw [← e2]
  have e4 : (s.2 || (numF 65535 s.1).2.2) = s2.2 := by rw [← e2]
  rw [e3, e4] at hp1
  rw [e1]
  dsimp only
  clear hm e1 e2 e3 e4 h
  have hz1 := ht1.size
  obtain ⟨W2, hW2⟩ : ∃ W2, W2 = w1.alloc (.map #[] 0) := ⟨_, rfl⟩
  obtain ⟨m, hmm⟩ : ∃ m, m = w1.heap.size := ⟨_, rfl⟩
  have hk2 : KidMap W2 m mask s2 0 := by rw [hW2, hmm]; exact KidMap.new w1 mask s2
  have ht2 : Turn p w W2 := by rw [hW2]; exact ht1.alloc _
  have hp2 : PIn W2 p (kidS mask s2 0).1 (kidS mask s2 0).2 := by
    rw [hW2]
    exact hp1.kept fun k hk => Below.heap_alloc w1 _ k (by have := hp1.lt; omega)
  have hwm : w.heap.size ≤ m := by rw [hmm]; exact hz1
  have hpm : p < m := by omega
  have HW2 := Lib.hid hW2
  have Hmm := Lib.hid hmm
  clear hW2 hmm hz1 hp1 ht1
  have hmk := @run_makeMap Try.prog
  go_upto_region 3 with fail
  change Code.wp _ _ _ _ (w1.alloc (.map #[] 0))
  rw [← HW2.out, ← Hmm.out]
  clear HW2 Hmm hmk
  go_wp2_with fail
  go_loopw [9] (fun x wr => ∃ n : Nat, n ≤ 16 ∧ x = .int .u8 n ∧ KidMap wr m mask s2 n ∧ PIn wr p (kidS mask s2 n).1 (kidS mask s2 n).2 ∧ Turn p w wr) (fun x _ => 16 - (intOf x).toNat)
  case atStart => exact ⟨0, by omega, rfl, hk2, hp2, ht2⟩
  case round =>
    clear hk2 hp2 ht2
    obtain ⟨n, hn16, rfl, hkm, hpn, htn⟩ := hrel
    by_cases hlt : n < 16
    · have hd1 : decide ((n : Int) < (16 : Int)) = true := by simp; omega
      cases hbit : bitM mask n with
      | false =>
        have hd2 : (((mask : Int) / 2 ^ n).tmod 2 == 1) = false := by rw [bit_test]; exact hbit
        have hk' : KidMap wr m mask s2 (n + 1) := hkm.skip hbit
        have hs' : kidS mask s2 (n + 1) = kidS mask s2 n := by rw [kidS_succ, hbit]; rfl
        rw [← hs'] at hpn
        clear hkm hbit hs'
        go_wp2_with fail
        go_roundw
        case rel => exact ⟨n + 1, by omega, by go_num, hk', hpn, htn⟩
        case measure => simp [intOf]; omega
      | true =>
        have hd2 : (((mask : Int) / 2 ^ n).tmod 2 == 1) = true := by rw [bit_test]; exact hbit
        obtain ⟨D, c, hown, hc, htid, hhas, hat, hsz⟩ := hkm
        have hKD := kidD_length mask s2 n
        have Hrd := Lib.hid (digR_mk hKD)
        have hs' : kidS mask s2 (n + 1) = cutS (kidS mask s2 n) := by rw [kidS_succ, hbit]; rfl
        have Hput := Lib.hid (fun (w' : World) h1 => KidMap.put (w' := w') (m := m) h1 hc htid hhas hat hsz hbit hlt)
        have hmax : c < maxLen := by unfold maxLen; omega
        have Hkey := Lib.hid (nibKey n (by omega))
        have Hs := Lib.hid hs'
        clear hbit hs' hc htid hhas hat hsz
        go_wp2_with fail
        go_at_call 47
        refine Calls.mono (digest_in p _ _ wr hpn) ?_
        rintro e w3 ⟨rfl, hp3, ht3⟩
        have hown3 := hown.kept ht3 (fun e => by injection e with e; omega)
        have hz3 := ht3.size
        have hp3' : PIn w3 p (kidS mask s2 (n + 1)).1 (kidS mask s2 (n + 1)).2 := by rw [Hs.out]; exact hp3
        have ht3' := htn.trans ht3
        clear hpn htn hp3 ht3 hown
        dsimp only
        rw [show digF (kidS mask s2 n).1 = kidD mask s2 n from rfl]
        go_wp2_with (at_mapUpdate; refine wpList_mapUpdate_own _ rfl _ _ _ 107 rfl 5 24 nibKeyed Try.underlying107 digR m c D rfl hown3 hmax _ _ _ rfl rfl Hkey.out _ [] Hrd.out ?_)
        intro w4 hown4 hg4
        have hk' := Hput.out w4 hown4
        have hp4 : PIn w4 p (kidS mask s2 (n + 1)).1 (kidS mask s2 (n + 1)).2 := hp3'.kept fun k hk => hg4.block k (by have := hp3'.lt; omega) (fun e => by injection e with e; omega)
        have ht4 : Turn p w w4 := ht3'.mapTurn hg4 hwm
        clear hp3' ht3' hown4 hg4 hown3
        go_wp2_with fail
        go_roundw
        case rel => exact ⟨n + 1, by omega, by go_num, hk', hp4, ht4⟩
        case measure => simp [intOf]; omega
    · obtain rfl : n = 16 := by omega
      have hd1 : decide (((16 : Nat) : Int) < (16 : Int)) = false := by simp
      go_wp2_with fail
      go_ret
      exact ⟨m, rfl, hwm, hkm, hpn, htn⟩
end Go.Proofs.Ytlailhjpfadpcaa

namespace Go.Proofs.Ytlailhjpfadpcaa
open Go.RowKit
set_option linter.unusedVariables false
set_option linter.unusedSimpArgs false

/-- A node's cells. -/
def ndC (t v b : Value) : List Value := [t, v, b]
def ndZ : List Value := ndC (.slice none 0 0) (.slice none 0 0) (.map none)
theorem Arr.turnP {w w' : World} {g p : Nat} {T : TypeId} {cs : List Value} (h : Arr w g T cs) (ht : Turn p w w') (hg : g ≠ p) : Arr w' g T cs := (ht.block g h.lt (fun e => hg (by injection e))).trans h
theorem bytS_len (m : Nat) (s : St) : (bytS m s).1.length ≤ m := by
  unfold bytS bytesF
  rw [if_neg (by omega), Int.toNat_natCast]
  have h := numF_le m s.1
  unfold cutF
  split
  · simp
  · simp only [List.length_take]; omega
theorem ndSize : (Try.prog.info? 109).map (·.size) = some 3 := by kernel_rfl
theorem store_toP {P : Program} {op : Oper} {a : Act} {w : World} {K : Act → World → Prop} {Q : Exit → Act → World → Prop} (hd : op.dst = none) (ty : TypeId) (x y : Operand) (ho : op.op = .store ty x y)
    (b o : Nat) (cells : Array Value) (hx : a.eval x = .pointer (some ⟨b, o, none⟩)) (hy : a.eval y = .agg cells)
    (ht : w.there b o cells.size) (hi : (P.info? ty).map (·.size) = some cells.size) (h1 : cells.all (·.oneCell') = true)
    (h : K a (w.setCells b o cells.toList)) : op.wp P a w K Q :=
  wp_store_mid ty x y ho b o cells hx hy ht hi h1 (by rw [hd]; exact h)
theorem Arr.thereP {w : World} {g : Nat} {T : TypeId} {cs : List Value} (h : Arr w g T cs) {n : Nat} (hn : n ≤ cs.length) : w.there g 0 n := fun j hj => by
  refine ⟨?_, h.frozen _⟩
  rw [h.cell, List.getElem?_eq_getElem (by omega)]
  rfl

theorem results_cell2P {P : Program} {fn : Func} {p u : Tmp} {ty : TypeId} (h : fn.results = #[.cell p ty, .tmp u]) (tmps : Array Value) (w : World) (g : Nat) (t : TypeId) (cs : Array Value) (fr : Nat × Nat) (d : TypeDesc)
    (hp : tmps.getD p undef = .pointer (some ⟨g, 0, none⟩)) (x : Value) (hx : tmps.getD u undef = x) (hg : w.heap[g]? = some (.cells cs t fr))
    (hu : P.underlying ty = some d) (hd : (match d with | .struct _ | .array _ _ => true | _ => false) = true) (hi : (P.info? ty).map (·.size) = some cs.size) :
    (results fn tmps).run P w = .ok (.tuple #[.agg cs, x]) w := by
  rw [results_cell_tmp h, hp, hx]
  simp only [asAddr, Sem.run_pure, Result.andThen_ok, run_loadVar_row w g t ty cs fr d hg hu hd hi]
theorem Only.grown {w w' : World} {g : Nat} (h : Only (fun k => k = g) w w') : w.grownBy w' (some g) := ⟨h.os, h.tape, h.output, h.size, fun k hk hn => h.block k hk (fun e => hn (by rw [e]))⟩
/-- Bytes don't lie in a block that has none. -/
theorem Bs.onlyP {w : World} {n : Nat} {w' : World} {B g : Nat} {A : Option Addr} {l : List UInt8} {T : TypeId} {cs : List Value} (h : Bs w B A l) (hg : Arr w g T cs) (hcs : ∀ v ∈ cs, ∀ x, v ≠ .int .u8 x) (hO : Only (fun k => k = g) (w.drewN n) w') : Bs w' B A l := fun hp => by
  obtain ⟨b, off, e, hb, hc⟩ := h hp
  have hne : b ≠ g := fun eb => by
    subst eb
    have h0 := hc 0 hp
    rw [hg.cell] at h0
    exact hcs _ (List.mem_of_getElem? h0) _ rfl
  refine ⟨b, off, e, hb, fun j hj => ?_⟩
  have h1 := hc j hj
  have hlt : b < w.heap.size := World.block_lt_of_cell? w _ h1
  rw [← h1]
  exact World.cell?_of_block (hO.block b hlt hne)
theorem ndZ_no : ∀ v ∈ ndZ, ∀ x, v ≠ .int .u8 x := by
  intro v hv x
  simp only [ndZ, ndC, List.mem_cons, List.not_mem_nil, or_false] at hv
  rcases hv with rfl | rfl | rfl <;> exact fun e => by cases e

set_option maxHeartbeats 8000000 in
set_option maxRecDepth 100000 in
theorem take_leaf (b : List UInt8) (A : Option Addr) (n c left : Nat) (hn : b.length = n) (hn2 : n ≤ 1000000) (hl : left ≤ 64) (w : World) (hA : Bs w w.heap.size A b) (l1 l2 l3 told val : List UInt8) (b1 b2 b3 : Bool) (hk : numS 1 (b, false) = (0, l1, b1)) (ht : bytS left (l1, b1) = (told, l2, b2)) (hv : bytS 9223372036854775807 (l2, b2) = (val, l3, b3))
    (f r1 r2 : Bool) (hf : decide (told.length = left) = f) (hr1 : nibsB told = r1) (hr2 : (doneF l3 b3 == 0) = r2) :
    Calls Try.prog 58 #[.slice A n c, .int .i64 (left : Nat)] w fun e w' => ∃ A1 c1 A2 c2, e = .returned (.tuple #[.agg #[.slice A1 told.length c1, .slice A2 val.length c2, .map none], .bool (f && r1 && r2)]) ∧ told.length ≤ c1 ∧ c1 ≤ maxLen ∧ val.length ≤ c2 ∧ c2 ≤ maxLen ∧ Bs w' w'.heap.size A1 told ∧ Bs w' w'.heap.size A2 val ∧ Below w.heap.size w w' := by
  obtain ⟨W1, hW1⟩ : ∃ W1, W1 = w.alloc (.cells ndZ.toArray 109) := ⟨_, rfl⟩
  have hR1 : Arr W1 w.heap.size 109 ndZ := by rw [hW1]; exact Arr.new w _ _
  have hb1 : Below w.heap.size w W1 := by rw [hW1]; exact (Below.refl _ w).alloc (Nat.le_refl _) _
  have hA1 : Bs W1 W1.heap.size A b := (hA.below hb1 (Nat.le_refl _)).more hb1.size
  have HW1 := Lib.hid hW1
  have Hn := Lib.hid hn
  have Hk := Lib.hid hk
  have Ht := Lib.hid ht
  have Hv := Lib.hid hv
  have Hf := Lib.hid hf
  have Hr1 := Lib.hid hr1
  have Hr2 := Lib.hid hr2
  clear hW1 hA hn hk ht hv hf hr1 hr2
  go_enter Try.func58, Try.ntmps58
  go_upto_region 1 with fail
  change Code.wp _ _ _ _ (w.alloc (.cells ndZ.toArray 109))
  rw [← HW1.out]
  clear HW1
  go_wp2_with fail
  refine Calls.mono (from_n W1.heap.size A c n b W1 hA1 Hn.out (by omega)) ?_
  rintro e w2 ⟨p, rfl, hp2, hpin, hb2⟩
  have hR2 := hR1.below hb2 hR1.lt
  have hb2' : Below w.heap.size w w2 := hb1.trans (hb2.mono hb1.size)
  have hRlt := hR1.lt
  have hpR : w.heap.size < p := by omega
  clear hA1 hR1 hb2 hb1 hp2
  dsimp only
  go_wp2_with fail
  refine Calls.mono (show Calls Try.prog 43 #[.pointer (some ⟨p, 0, none⟩), .int .u64 1] w2 _ from number_in p 1 b false w2 hpin (by omega)) ?_
  rintro e w3 ⟨rfl, hp3, ht3⟩
  have e1 : (numF 1 b).1 = 0 := congrArg Prod.fst Hk.out
  have e2 : (numF 1 b).2.1 = l1 := congrArg (fun x => x.2.1) Hk.out
  have e3 : (false || (numF 1 b).2.2) = b1 := congrArg (fun x => x.2.2) Hk.out
  rw [e2, e3] at hp3
  rw [e1]
  have hR3 := hR2.turnP ht3 (by omega)
  have hb3 : Below w.heap.size w w3 := hb2'.trans (ht3.below hb2'.size (Nat.le_of_lt hpR))
  clear e1 e2 e3 hpin ht3 hb2' hR2
  dsimp only
  go_wp2_with fail
  refine Calls.mono (bytes_in p (left : Nat) l1 b1 w3 hp3 (by omega) (by omega)) ?_
  rintro e w4 ⟨A1, c1, rfl, h11, h12, h13, hp4, ht4⟩
  have e1 : (bytesF (left : Nat) l1).1 = told := congrArg Prod.fst Ht.out
  have e2 : (bytesF (left : Nat) l1).2.1 = l2 := congrArg (fun x => x.2.1) Ht.out
  have e3 : (b1 || (bytesF (left : Nat) l1).2.2) = b2 := congrArg (fun x => x.2.2) Ht.out
  rw [e2, e3] at hp4
  rw [e1] at h11 h13 ⊢
  have hR4 := hR3.turnP ht4 (by omega)
  have hb4 : Below w.heap.size w w4 := hb3.trans (ht4.below hb3.size (Nat.le_of_lt hpR))
  clear e1 e2 e3 hp3 ht4 hb3 hR3
  dsimp only
  obtain ⟨tl, htl⟩ : ∃ tl, told.length = tl := ⟨_, rfl⟩
  have htl64 : tl ≤ left := by rw [← htl, show told = (bytS left (l1, b1)).1 by rw [Ht.out]]; exact bytS_len left _
  have Htl := Lib.hid htl
  have hd1 : ((tl : Int) == (left : Int)) = f := by rw [← Hf.out, htl, Bool.eq_iff_iff, beq_iff_eq, decide_eq_true_eq]; omega
  rw [htl] at h11 ⊢
  obtain ⟨g, hg⟩ : ∃ g, g = w4.heap.size := ⟨_, rfl⟩
  obtain ⟨w5, hw5⟩ : ∃ w5, w5 = w4.alloc (.cells (ndC (.slice A1 tl c1) (.slice none 0 0) (.map none)).toArray 109) := ⟨_, rfl⟩
  have hN5 : Arr w5 g 109 (ndC (.slice A1 tl c1) (.slice none 0 0) (.map none)) := by rw [hw5, hg]; exact Arr.new w4 _ _
  have hR5 : Arr w5 w.heap.size 109 ndZ := by rw [hw5]; exact hR4.alloc _
  have hp5 : PIn w5 p l2 b2 := by rw [hw5]; exact hp4.kept fun k hk => Below.heap_alloc w4 _ k (by have := hp4.lt; omega)
  have hT5 : Bs w5 p A1 told := by rw [hw5]; exact h13.alloc (Nat.le_of_lt hp4.lt) _
  have hb5 : Below w.heap.size w w5 := by rw [hw5]; exact hb4.alloc hb4.size _
  have hpg : p < g := by rw [hg]; exact hp4.lt
  have hc50 : w5.cell? ⟨g, 0, none⟩ = some (.slice A1 tl c1) := hN5.cell 0
  have Hw5 := Lib.hid hw5
  have Hg := Lib.hid hg
  clear htl hw5 hg hR4 hp4 h13 hb4
  go_upto_region 4 with fail
  rw [← Hg.out]
  change Code.wp _ _ _ _ (w4.alloc (.cells (ndC (.slice A1 tl c1) (.slice none 0 0) (.map none)).toArray 109))
  rw [← Hw5.out]
  clear Hw5 Hg
  have HN5 := Lib.hid hN5
  clear hN5
  go_wp2_with fail
  go_at_call 50
  refine Calls.mono (bytes_in p 9223372036854775807 l2 b2 w5 hp5 (by omega) (by omega)) ?_
  rintro e w6 ⟨A2, c2, rfl, h21, h22, h23, hp6, ht6⟩
  have e1 : (bytesF 9223372036854775807 l2).1 = val := congrArg Prod.fst Hv.out
  have e2 : (bytesF 9223372036854775807 l2).2.1 = l3 := congrArg (fun x => x.2.1) Hv.out
  have e3 : (b2 || (bytesF 9223372036854775807 l2).2.2) = b3 := congrArg (fun x => x.2.2) Hv.out
  rw [e2, e3] at hp6
  rw [e1] at h21 h23 ⊢
  obtain ⟨vl, hvl⟩ : ∃ vl, val.length = vl := ⟨_, rfl⟩
  have Hvl := Lib.hid hvl
  rw [hvl] at h21 ⊢
  clear hvl
  have hN6 := HN5.out.turnP ht6 (by omega)
  have hR6 := hR5.turnP ht6 (by omega)
  have hT6 : Bs w6 p A1 told := ht6.bs hp5.lt hT5
  have hb6 : Below w.heap.size w w6 := hb5.trans (ht6.below hb5.size (Nat.le_of_lt hpR))
  have hz6 : p < w6.heap.size := hp6.lt
  clear e1 e2 e3 hp5 ht6 hb5 hR5 hT5 HN5 hc50
  have hc61 : w6.cell? ⟨g, 1, none⟩ = some (.slice none 0 0) := hN6.cell 1
  have hf61 := hN6.frozen 1
  obtain ⟨w7, hw7⟩ : ∃ x, x = w6.setCell ⟨g, 1, none⟩ (.slice A2 vl c2) := ⟨_, rfl⟩
  have hN7 : Arr w7 g 109 (ndC (.slice A1 tl c1) (.slice A2 vl c2) (.map none)) := by rw [hw7]; exact hN6.set 1 _
  have hV7 : Bs w7 p A2 val := by rw [hw7]; exact h23.keep fun b o hlt => World.cell?_of_block (Below.heap_setCell w6 _ _ b (by simp; omega))
  have hR7 : Arr w7 w.heap.size 109 ndZ := by rw [hw7]; exact hR6.setOther (show w.heap.size ≠ g by omega) _
  have hp7 : PIn w7 p l3 b3 := by rw [hw7]; exact hp6.kept fun k hk => Below.heap_setCell w6 _ _ k (by simp; omega)
  have hT7 : Bs w7 p A1 told := by rw [hw7]; exact hT6.keep fun b o hlt => World.cell?_of_block (Below.heap_setCell w6 _ _ b (by simp; omega))
  have hb7 : Below w.heap.size w w7 := by rw [hw7]; exact hb6.trans ⟨rfl, rfl, rfl, by simp [World.setCell], fun k hk => Below.heap_setCell w6 _ _ k (by simp; omega)⟩
  have Hw7 := Lib.hid hw7
  clear hw7 hN6 hR6 hp6 hT6 hb6 h23
  go_upto_region 9 with fail
  change Code.wp _ _ _ _ (w6.setCell ⟨g, 1, none⟩ (.slice A2 vl c2))
  rw [← Hw7.out]
  clear Hw7 hc61 hf61
  cases f with
  | false =>
    obtain ⟨NL, hNL⟩ : ∃ NL, NL = ndC (.slice A1 tl c1) (.slice A2 vl c2) (.map none) := ⟨_, rfl⟩
    rw [← hNL] at hN7
    have Hl := Lib.hid (show NL.length = 3 by rw [hNL]; rfl)
    have Hi := Lib.hid (show (Try.prog.info? 109).map (·.size) = some NL.length by rw [hNL]; exact ndSize)
    have HiA := Lib.hid (show (Try.prog.info? 109).map (·.size) = some NL.toArray.size by rw [hNL]; exact ndSize)
    have H1 := Lib.hid (show NL.toArray.all (·.oneCell') = true by rw [hNL]; simp [ndC, Value.oneCell'])
    have Hc0 : Hid (∀ w' : World, Arr w' g 109 NL → w'.cell? ⟨g, 0, none⟩ = some (.slice A1 tl c1)) := fun w' h => by rw [h.cell, hNL]; rfl
    have HNL := Lib.hid hNL
    clear hNL
    refine wp_region_held_drew (S := fun w' => Arr w' g 109 NL) (by kernel_rfl) (hN7.drewN 1) (fun hHeld => ?_)
    refine anyH_take (i := 0) (some 42) rfl rfl (by kernel_rfl) (by kernel_rfl) (by kernel_rfl) (fun _ _ _ h => h) (yieldsIf_load_mid (by rfl) 109 (.tmp 8) rfl g 0 rfl NL _ (fun w' h => h.range) Try.underlying109 rfl Hi.out) (by assumption) ?_
    simp only [Act.put, List.setIfInBounds_toArray, List.set_cons_zero, List.set_cons_succ]
    refine anyH_take (i := 1) (v := .bool false) (some 43) rfl rfl (by kernel_rfl) (by kernel_rfl) (by kernel_rfl) (fun _ _ _ h => h) (Or.inl ⟨by rfl, fun w' hw => by go_simp⟩) (by assumption) ?_
    simp only [Act.put, List.setIfInBounds_toArray, List.set_cons_zero, List.set_cons_succ]
    refine anyH_take (i := 2) (v := .bool false) (some 44) rfl rfl (by kernel_rfl) (by kernel_rfl) (by kernel_rfl) (fun _ _ _ h => h) (Or.inl ⟨by rfl, fun w' hw => by go_simp⟩) (by assumption) ?_
    simp only [Act.put, List.setIfInBounds_toArray, List.set_cons_zero, List.set_cons_succ]
    refine anyH_take (i := 3) (v := undef) (some 45) rfl rfl (by kernel_rfl) (by kernel_rfl) (by kernel_rfl) (fun _ _ _ h => h) (Or.inr ⟨by rfl, rfl⟩) (by assumption) ?_
    simp only [Act.put, List.setIfInBounds_toArray, List.set_cons_zero, List.set_cons_succ]
    refine anyH_take (i := 4) (v := undef) (some 46) rfl rfl (by kernel_rfl) (by kernel_rfl) (by kernel_rfl) (fun _ _ _ h => h) (Or.inr ⟨by rfl, rfl⟩) (by assumption) ?_
    simp only [Act.put, List.setIfInBounds_toArray, List.set_cons_zero, List.set_cons_succ]
    refine anyH_take (i := 5) (v := undef) (some 47) rfl rfl (by kernel_rfl) (by kernel_rfl) (by kernel_rfl) (fun _ _ _ h => h) (Or.inr ⟨by rfl, rfl⟩) (by assumption) ?_
    simp only [Act.put, List.setIfInBounds_toArray, List.set_cons_zero, List.set_cons_succ]
    refine anyH_take (i := 6) (v := .bool false) (some 48) rfl rfl (by kernel_rfl) (by kernel_rfl) (by kernel_rfl) (fun _ _ _ h => h) (Or.inl ⟨by rfl, fun w' hw => by go_simp⟩) (by assumption) ?_
    simp only [Act.put, List.setIfInBounds_toArray, List.set_cons_zero, List.set_cons_succ]
    refine anyH_take (i := 7) (v := .bool false) (some 49) rfl rfl (by kernel_rfl) (by kernel_rfl) (by kernel_rfl) (fun _ _ _ h => h) (Or.inl ⟨by rfl, fun w' hw => by go_simp⟩) (by assumption) ?_
    simp only [Act.put, List.setIfInBounds_toArray, List.set_cons_zero, List.set_cons_succ]
    refine anyH_take (i := 8) (v := undef) (some 50) rfl rfl (by kernel_rfl) (by kernel_rfl) (by kernel_rfl) (fun _ _ _ h => h) (Or.inr ⟨by rfl, rfl⟩) (by assumption) ?_
    simp only [Act.put, List.setIfInBounds_toArray, List.set_cons_zero, List.set_cons_succ]
    refine anyH_take (i := 9) (v := undef) (some 51) rfl rfl (by kernel_rfl) (by kernel_rfl) (by kernel_rfl) (fun _ _ _ h => h) (Or.inr ⟨by rfl, rfl⟩) (by assumption) ?_
    simp only [Act.put, List.setIfInBounds_toArray, List.set_cons_zero, List.set_cons_succ]
    refine anyH_take (i := 10) (v := undef) (some 52) rfl rfl (by kernel_rfl) (by kernel_rfl) (by kernel_rfl) (fun _ _ _ h => h) (Or.inr ⟨by rfl, rfl⟩) (by assumption) ?_
    simp only [Act.put, List.setIfInBounds_toArray, List.set_cons_zero, List.set_cons_succ]
    refine anyH_take (i := 11) (v := .bool false) (some 53) rfl rfl (by kernel_rfl) (by kernel_rfl) (by kernel_rfl) (fun _ _ _ h => h) (Or.inl ⟨by rfl, fun w' hw => by go_simp⟩) (by assumption) ?_
    simp only [Act.put, List.setIfInBounds_toArray, List.set_cons_zero, List.set_cons_succ]
    have hth : (w7.drewN 1).there w.heap.size 0 NL.toArray.size := Arr.thereP (w := w7.drewN 1) (hR7.drewN 1) (by rw [List.size_toArray, Hl.out]; exact Nat.le_refl _)
    have hR8 := Arr.setCells NL 0 ndZ (w7.drewN 1) (hR7.drewN 1) (by rw [Hl.out]; rfl)
    rw [List.take_zero, List.nil_append] at hR8
    have hO8 : Only (fun k => k = w.heap.size) (w7.drewN 1) ((w7.drewN 1).setCells w.heap.size 0 NL) := Only.setCells (R := fun k => k = w.heap.size) rfl NL 0 (w7.drewN 1) (Only.refl _ _)
    refine wpAnyH_ready (rs := [12]) (by kernel_rfl) (by simp) ?_
    refine AllReadyH.cons rfl (fun K hK => ?_) AllReadyH.nil
    rw [if_pos (by rfl)]
    refine store_toP rfl 109 _ _ rfl w.heap.size 0 NL.toArray rfl rfl hth HiA.out H1.out ?_
    try rw [show NL.toArray.toList = NL from rfl]
    refine hK.out _ _ (Arr.only (w := w7.drewN 1) (hN7.drewN 1) hO8 (by omega)) (fun hHeldx => ?_)
    clear hK K
    try simp only [Act.put, List.setIfInBounds_toArray, List.set_cons_zero, List.set_cons_succ]
    refine anyH_take (i := 13) (v := .bool false) (some 5) rfl rfl (by kernel_rfl) (by kernel_rfl) (by kernel_rfl) (fun _ _ _ h => h) (Or.inl ⟨by rfl, fun w' hw => by go_simp⟩) (by assumption) ?_
    simp only [Act.put, List.setIfInBounds_toArray, List.set_cons_zero, List.set_cons_succ]
    refine wpAnyH_done (by kernel_rfl) ?_ _
    clear hHeld hHeldx
    go_wp2_with fail
    obtain ⟨V, hV⟩ : ∃ V, V = Value.tuple #[.agg NL.toArray, .bool false] := ⟨_, rfl⟩
    refine bodyPost_ret (v := V) ?hx1 ?h2 ?h3
    case hx1 => rw [hV]; exact results_cell2P (fn := Try.f58) (by rfl) _ _ w.heap.size 109 NL.toArray (0, 0) _ (by rfl) _ (by rfl) hR8 Try.underlying109 rfl HiA.out
    case h2 => rfl
    case h3 =>
      have hz8 := hO8.size
      have hT8 := (Bs.onlyP hT7 hR7 ndZ_no hO8).more (Nat.le_trans (Nat.le_of_lt hp7.lt) hz8)
      have hV8 := (Bs.onlyP hV7 hR7 ndZ_no hO8).more (Nat.le_trans (Nat.le_of_lt hp7.lt) hz8)
      rw [Hvl.out, Htl.out]
      exact ⟨A1, c1, A2, c2, by rw [hV, HNL.out]; rfl, h11, h12, h21, h22, hT8, hV8, (Below.dN hb7 1).trans (hO8.below (Nat.le_of_lt hR7.lt) (fun k hk => by omega))⟩
  | true =>
    cases r1 with
    | false =>
      obtain ⟨NL, hNL⟩ : ∃ NL, NL = ndC (.slice A1 tl c1) (.slice A2 vl c2) (.map none) := ⟨_, rfl⟩
      rw [← hNL] at hN7
      have Hl := Lib.hid (show NL.length = 3 by rw [hNL]; rfl)
      have Hi := Lib.hid (show (Try.prog.info? 109).map (·.size) = some NL.length by rw [hNL]; exact ndSize)
      have HiA := Lib.hid (show (Try.prog.info? 109).map (·.size) = some NL.toArray.size by rw [hNL]; exact ndSize)
      have H1 := Lib.hid (show NL.toArray.all (·.oneCell') = true by rw [hNL]; simp [ndC, Value.oneCell'])
      have Hc0 : Hid (∀ w' : World, Arr w' g 109 NL → w'.cell? ⟨g, 0, none⟩ = some (.slice A1 tl c1)) := fun w' h => by rw [h.cell, hNL]; rfl
      have HNL := Lib.hid hNL
      clear hNL
      refine wp_region_held_drew (S := fun w' => Arr w' g 109 NL) (by kernel_rfl) (hN7.drewN 1) (fun hHeld => ?_)
      refine anyH_take (i := 0) (some 42) rfl rfl (by kernel_rfl) (by kernel_rfl) (by kernel_rfl) (fun _ _ _ h => h) (yieldsIf_load_mid (by rfl) 109 (.tmp 8) rfl g 0 rfl NL _ (fun w' h => h.range) Try.underlying109 rfl Hi.out) (by assumption) ?_
      simp only [Act.put, List.setIfInBounds_toArray, List.set_cons_zero, List.set_cons_succ]
      refine anyH_take (i := 1) (v := .bool true) (some 43) rfl rfl (by kernel_rfl) (by kernel_rfl) (by kernel_rfl) (fun _ _ _ h => h) (Or.inl ⟨by rfl, fun w' hw => by go_simp⟩) (by assumption) ?_
      simp only [Act.put, List.setIfInBounds_toArray, List.set_cons_zero, List.set_cons_succ]
      refine anyH_take (i := 2) (v := .bool true) (some 44) rfl rfl (by kernel_rfl) (by kernel_rfl) (by kernel_rfl) (fun _ _ _ h => h) (Or.inl ⟨by rfl, fun w' hw => by go_simp⟩) (by assumption) ?_
      simp only [Act.put, List.setIfInBounds_toArray, List.set_cons_zero, List.set_cons_succ]
      refine anyH_take (i := 3) (v := .pointer (some ⟨g, 0, none⟩)) (some 45) rfl rfl (by kernel_rfl) (by kernel_rfl) (by kernel_rfl) (fun _ _ _ h => h) (Or.inl ⟨by rfl, fun w' hw => by go_simp⟩) (by assumption) ?_
      simp only [Act.put, List.setIfInBounds_toArray, List.set_cons_zero, List.set_cons_succ]
      refine anyH_take (i := 4) (v := .slice A1 tl c1) (some 46) rfl rfl (by kernel_rfl) (by kernel_rfl) (by kernel_rfl) (fun _ _ _ h => h) (Or.inl ⟨by rfl, fun w' hw => by (have hc := Hc0.out w' hw; go_simp)⟩) (by assumption) ?_
      simp only [Act.put, List.setIfInBounds_toArray, List.set_cons_zero, List.set_cons_succ]
      refine wpAnyH_ready (rs := [5]) (by kernel_rfl) (by simp) ?_
      refine AllReadyH.cons rfl (fun K hK => ?_) AllReadyH.nil
      go_simp
      go_at_call 75
      refine Calls.mono (allNibbles_run p A1 c1 tl told Htl.out (w7.drewN 1) (hT7.drewN 1) (by omega) false Hr1.out) ?_
      rintro e wx ⟨rfl, rfl⟩
      dsimp only
      go_wp2_with fail
      refine hK.out _ _ (hN7.drewN 1) (fun hHeldx => ?_)
      clear hK K
      try simp only [Act.put, List.setIfInBounds_toArray, List.set_cons_zero, List.set_cons_succ]
      refine anyH_take (i := 6) (v := .bool false) (some 48) rfl rfl (by kernel_rfl) (by kernel_rfl) (by kernel_rfl) (fun _ _ _ h => h) (Or.inl ⟨by rfl, fun w' hw => by go_simp⟩) (by assumption) ?_
      simp only [Act.put, List.setIfInBounds_toArray, List.set_cons_zero, List.set_cons_succ]
      refine anyH_take (i := 7) (v := .bool false) (some 49) rfl rfl (by kernel_rfl) (by kernel_rfl) (by kernel_rfl) (fun _ _ _ h => h) (Or.inl ⟨by rfl, fun w' hw => by go_simp⟩) (by assumption) ?_
      simp only [Act.put, List.setIfInBounds_toArray, List.set_cons_zero, List.set_cons_succ]
      refine anyH_take (i := 8) (v := undef) (some 50) rfl rfl (by kernel_rfl) (by kernel_rfl) (by kernel_rfl) (fun _ _ _ h => h) (Or.inr ⟨by rfl, rfl⟩) (by assumption) ?_
      simp only [Act.put, List.setIfInBounds_toArray, List.set_cons_zero, List.set_cons_succ]
      refine anyH_take (i := 9) (v := undef) (some 51) rfl rfl (by kernel_rfl) (by kernel_rfl) (by kernel_rfl) (fun _ _ _ h => h) (Or.inr ⟨by rfl, rfl⟩) (by assumption) ?_
      simp only [Act.put, List.setIfInBounds_toArray, List.set_cons_zero, List.set_cons_succ]
      refine anyH_take (i := 10) (v := undef) (some 52) rfl rfl (by kernel_rfl) (by kernel_rfl) (by kernel_rfl) (fun _ _ _ h => h) (Or.inr ⟨by rfl, rfl⟩) (by assumption) ?_
      simp only [Act.put, List.setIfInBounds_toArray, List.set_cons_zero, List.set_cons_succ]
      refine anyH_take (i := 11) (v := .bool false) (some 53) rfl rfl (by kernel_rfl) (by kernel_rfl) (by kernel_rfl) (fun _ _ _ h => h) (Or.inl ⟨by rfl, fun w' hw => by go_simp⟩) (by assumption) ?_
      simp only [Act.put, List.setIfInBounds_toArray, List.set_cons_zero, List.set_cons_succ]
      have hth : (w7.drewN 1).there w.heap.size 0 NL.toArray.size := Arr.thereP (w := w7.drewN 1) (hR7.drewN 1) (by rw [List.size_toArray, Hl.out]; exact Nat.le_refl _)
      have hR8 := Arr.setCells NL 0 ndZ (w7.drewN 1) (hR7.drewN 1) (by rw [Hl.out]; rfl)
      rw [List.take_zero, List.nil_append] at hR8
      have hO8 : Only (fun k => k = w.heap.size) (w7.drewN 1) ((w7.drewN 1).setCells w.heap.size 0 NL) := Only.setCells (R := fun k => k = w.heap.size) rfl NL 0 (w7.drewN 1) (Only.refl _ _)
      refine wpAnyH_ready (rs := [12]) (by kernel_rfl) (by simp) ?_
      refine AllReadyH.cons rfl (fun K hK => ?_) AllReadyH.nil
      rw [if_pos (by rfl)]
      refine store_toP rfl 109 _ _ rfl w.heap.size 0 NL.toArray rfl rfl hth HiA.out H1.out ?_
      try rw [show NL.toArray.toList = NL from rfl]
      refine hK.out _ _ (Arr.only (w := w7.drewN 1) (hN7.drewN 1) hO8 (by omega)) (fun hHeldx => ?_)
      clear hK K
      try simp only [Act.put, List.setIfInBounds_toArray, List.set_cons_zero, List.set_cons_succ]
      refine anyH_take (i := 13) (v := .bool false) (some 5) rfl rfl (by kernel_rfl) (by kernel_rfl) (by kernel_rfl) (fun _ _ _ h => h) (Or.inl ⟨by rfl, fun w' hw => by go_simp⟩) (by assumption) ?_
      simp only [Act.put, List.setIfInBounds_toArray, List.set_cons_zero, List.set_cons_succ]
      refine wpAnyH_done (by kernel_rfl) ?_ _
      clear hHeld hHeldx
      go_wp2_with fail
      obtain ⟨V, hV⟩ : ∃ V, V = Value.tuple #[.agg NL.toArray, .bool false] := ⟨_, rfl⟩
      refine bodyPost_ret (v := V) ?hx1 ?h2 ?h3
      case hx1 => rw [hV]; exact results_cell2P (fn := Try.f58) (by rfl) _ _ w.heap.size 109 NL.toArray (0, 0) _ (by rfl) _ (by rfl) hR8 Try.underlying109 rfl HiA.out
      case h2 => rfl
      case h3 =>
        have hz8 := hO8.size
        have hT8 := (Bs.onlyP hT7 hR7 ndZ_no hO8).more (Nat.le_trans (Nat.le_of_lt hp7.lt) hz8)
        have hV8 := (Bs.onlyP hV7 hR7 ndZ_no hO8).more (Nat.le_trans (Nat.le_of_lt hp7.lt) hz8)
        rw [Hvl.out, Htl.out]
        exact ⟨A1, c1, A2, c2, by rw [hV, HNL.out]; rfl, h11, h12, h21, h22, hT8, hV8, (Below.dN hb7 1).trans (hO8.below (Nat.le_of_lt hR7.lt) (fun k hk => by omega))⟩
    | true =>
      obtain ⟨NL, hNL⟩ : ∃ NL, NL = ndC (.slice A1 tl c1) (.slice A2 vl c2) (.map none) := ⟨_, rfl⟩
      rw [← hNL] at hN7
      have Hl := Lib.hid (show NL.length = 3 by rw [hNL]; rfl)
      have Hi := Lib.hid (show (Try.prog.info? 109).map (·.size) = some NL.length by rw [hNL]; exact ndSize)
      have HiA := Lib.hid (show (Try.prog.info? 109).map (·.size) = some NL.toArray.size by rw [hNL]; exact ndSize)
      have H1 := Lib.hid (show NL.toArray.all (·.oneCell') = true by rw [hNL]; simp [ndC, Value.oneCell'])
      have Hc0 : Hid (∀ w' : World, Arr w' g 109 NL → w'.cell? ⟨g, 0, none⟩ = some (.slice A1 tl c1)) := fun w' h => by rw [h.cell, hNL]; rfl
      have HNL := Lib.hid hNL
      clear hNL
      refine wp_region_held_drew (S := fun w' => Arr w' g 109 NL) (by kernel_rfl) (hN7.drewN 1) (fun hHeld => ?_)
      refine anyH_take (i := 0) (some 42) rfl rfl (by kernel_rfl) (by kernel_rfl) (by kernel_rfl) (fun _ _ _ h => h) (yieldsIf_load_mid (by rfl) 109 (.tmp 8) rfl g 0 rfl NL _ (fun w' h => h.range) Try.underlying109 rfl Hi.out) (by assumption) ?_
      simp only [Act.put, List.setIfInBounds_toArray, List.set_cons_zero, List.set_cons_succ]
      refine anyH_take (i := 1) (v := .bool true) (some 43) rfl rfl (by kernel_rfl) (by kernel_rfl) (by kernel_rfl) (fun _ _ _ h => h) (Or.inl ⟨by rfl, fun w' hw => by go_simp⟩) (by assumption) ?_
      simp only [Act.put, List.setIfInBounds_toArray, List.set_cons_zero, List.set_cons_succ]
      refine anyH_take (i := 2) (v := .bool true) (some 44) rfl rfl (by kernel_rfl) (by kernel_rfl) (by kernel_rfl) (fun _ _ _ h => h) (Or.inl ⟨by rfl, fun w' hw => by go_simp⟩) (by assumption) ?_
      simp only [Act.put, List.setIfInBounds_toArray, List.set_cons_zero, List.set_cons_succ]
      refine anyH_take (i := 3) (v := .pointer (some ⟨g, 0, none⟩)) (some 45) rfl rfl (by kernel_rfl) (by kernel_rfl) (by kernel_rfl) (fun _ _ _ h => h) (Or.inl ⟨by rfl, fun w' hw => by go_simp⟩) (by assumption) ?_
      simp only [Act.put, List.setIfInBounds_toArray, List.set_cons_zero, List.set_cons_succ]
      refine anyH_take (i := 4) (v := .slice A1 tl c1) (some 46) rfl rfl (by kernel_rfl) (by kernel_rfl) (by kernel_rfl) (fun _ _ _ h => h) (Or.inl ⟨by rfl, fun w' hw => by (have hc := Hc0.out w' hw; go_simp)⟩) (by assumption) ?_
      simp only [Act.put, List.setIfInBounds_toArray, List.set_cons_zero, List.set_cons_succ]
      refine wpAnyH_ready (rs := [5]) (by kernel_rfl) (by simp) ?_
      refine AllReadyH.cons rfl (fun K hK => ?_) AllReadyH.nil
      go_simp
      go_at_call 75
      refine Calls.mono (allNibbles_run p A1 c1 tl told Htl.out (w7.drewN 1) (hT7.drewN 1) (by omega) true Hr1.out) ?_
      rintro e wx ⟨rfl, rfl⟩
      dsimp only
      go_wp2_with fail
      refine hK.out _ _ (hN7.drewN 1) (fun hHeldx => ?_)
      clear hK K
      try simp only [Act.put, List.setIfInBounds_toArray, List.set_cons_zero, List.set_cons_succ]
      refine anyH_take (i := 6) (v := .bool true) (some 48) rfl rfl (by kernel_rfl) (by kernel_rfl) (by kernel_rfl) (fun _ _ _ h => h) (Or.inl ⟨by rfl, fun w' hw => by go_simp⟩) (by assumption) ?_
      simp only [Act.put, List.setIfInBounds_toArray, List.set_cons_zero, List.set_cons_succ]
      refine anyH_take (i := 7) (v := .bool true) (some 49) rfl rfl (by kernel_rfl) (by kernel_rfl) (by kernel_rfl) (fun _ _ _ h => h) (Or.inl ⟨by rfl, fun w' hw => by go_simp⟩) (by assumption) ?_
      simp only [Act.put, List.setIfInBounds_toArray, List.set_cons_zero, List.set_cons_succ]
      refine anyH_take (i := 8) (v := .pointer (some ⟨p, 0, none⟩)) (some 50) rfl rfl (by kernel_rfl) (by kernel_rfl) (by kernel_rfl) (fun _ _ _ h => h) (Or.inl ⟨by rfl, fun w' hw => by go_simp⟩) (by assumption) ?_
      simp only [Act.put, List.setIfInBounds_toArray, List.set_cons_zero, List.set_cons_succ]
      refine wpAnyH_ready (rs := [9]) (by kernel_rfl) (by simp) ?_
      refine AllReadyH.cons rfl (fun K hK => ?_) AllReadyH.nil
      go_simp
      go_at_call 51
      refine Calls.mono (done_in p l3 b3 (w7.drewN 1) (hp7.drewN 1)) ?_
      rintro e wx ⟨rfl, rfl⟩
      dsimp only
      go_wp2_with fail
      refine hK.out _ _ (hN7.drewN 1) (fun hHeldx => ?_)
      clear hK K
      try simp only [Act.put, List.setIfInBounds_toArray, List.set_cons_zero, List.set_cons_succ]
      refine anyH_take (i := 10) (v := .bool r2) (some 52) rfl rfl (by kernel_rfl) (by kernel_rfl) (by kernel_rfl) (fun _ _ _ h => h) (Or.inl ⟨by rfl, fun w' hw => by (have hr := Hr2.out; go_simp)⟩) (by assumption) ?_
      simp only [Act.put, List.setIfInBounds_toArray, List.set_cons_zero, List.set_cons_succ]
      refine anyH_take (i := 11) (v := .bool r2) (some 53) rfl rfl (by kernel_rfl) (by kernel_rfl) (by kernel_rfl) (fun _ _ _ h => h) (Or.inl ⟨by rfl, fun w' hw => by go_simp⟩) (by assumption) ?_
      simp only [Act.put, List.setIfInBounds_toArray, List.set_cons_zero, List.set_cons_succ]
      have hth : (w7.drewN 1).there w.heap.size 0 NL.toArray.size := Arr.thereP (w := w7.drewN 1) (hR7.drewN 1) (by rw [List.size_toArray, Hl.out]; exact Nat.le_refl _)
      have hR8 := Arr.setCells NL 0 ndZ (w7.drewN 1) (hR7.drewN 1) (by rw [Hl.out]; rfl)
      rw [List.take_zero, List.nil_append] at hR8
      have hO8 : Only (fun k => k = w.heap.size) (w7.drewN 1) ((w7.drewN 1).setCells w.heap.size 0 NL) := Only.setCells (R := fun k => k = w.heap.size) rfl NL 0 (w7.drewN 1) (Only.refl _ _)
      refine wpAnyH_ready (rs := [12]) (by kernel_rfl) (by simp) ?_
      refine AllReadyH.cons rfl (fun K hK => ?_) AllReadyH.nil
      rw [if_pos (by rfl)]
      refine store_toP rfl 109 _ _ rfl w.heap.size 0 NL.toArray rfl rfl hth HiA.out H1.out ?_
      try rw [show NL.toArray.toList = NL from rfl]
      refine hK.out _ _ (Arr.only (w := w7.drewN 1) (hN7.drewN 1) hO8 (by omega)) (fun hHeldx => ?_)
      clear hK K
      try simp only [Act.put, List.setIfInBounds_toArray, List.set_cons_zero, List.set_cons_succ]
      refine anyH_take (i := 13) (v := .bool r2) (some 5) rfl rfl (by kernel_rfl) (by kernel_rfl) (by kernel_rfl) (fun _ _ _ h => h) (Or.inl ⟨by rfl, fun w' hw => by go_simp⟩) (by assumption) ?_
      simp only [Act.put, List.setIfInBounds_toArray, List.set_cons_zero, List.set_cons_succ]
      refine wpAnyH_done (by kernel_rfl) ?_ _
      clear hHeld hHeldx
      go_wp2_with fail
      obtain ⟨V, hV⟩ : ∃ V, V = Value.tuple #[.agg NL.toArray, .bool r2] := ⟨_, rfl⟩
      refine bodyPost_ret (v := V) ?hx1 ?h2 ?h3
      case hx1 => rw [hV]; exact results_cell2P (fn := Try.f58) (by rfl) _ _ w.heap.size 109 NL.toArray (0, 0) _ (by rfl) _ (by rfl) hR8 Try.underlying109 rfl HiA.out
      case h2 => rfl
      case h3 =>
        have hz8 := hO8.size
        have hT8 := (Bs.onlyP hT7 hR7 ndZ_no hO8).more (Nat.le_trans (Nat.le_of_lt hp7.lt) hz8)
        have hV8 := (Bs.onlyP hV7 hR7 ndZ_no hO8).more (Nat.le_trans (Nat.le_of_lt hp7.lt) hz8)
        rw [Hvl.out, Htl.out]
        exact ⟨A1, c1, A2, c2, by rw [hV, HNL.out]; rfl, h11, h12, h21, h22, hT8, hV8, (Below.dN hb7 1).trans (hO8.below (Nat.le_of_lt hR7.lt) (fun k hk => by omega))⟩

set_option maxHeartbeats 8000000 in
set_option maxRecDepth 100000 in
theorem take_branch (b : List UInt8) (A : Option Addr) (n c left : Nat) (hn : b.length = n) (hn2 : n ≤ 1000000) (hl : left ≤ 64) (w : World) (hA : Bs w w.heap.size A b) (l1 l2 l3 told : List UInt8) (b1 b2 b3 : Bool) (kd mask : Nat) (s2 : St) (hkd : 0 < kd) (hk : numS 1 (b, false) = (kd, l1, b1)) (ht : bytS left (l1, b1) = (told, l2, b2)) (hm : numS 65535 (l2, b2) = (mask, s2)) (hfin : kidS mask s2 16 = (l3, b3))
    (f r1 r2 : Bool) (hf : (decide (told.length < left) && decide (1 < popM mask 16)) = f) (hr1 : nibsB told = r1) (hr2 : (doneF l3 b3 == 0) = r2) :
    Calls Try.prog 58 #[.slice A n c, .int .i64 (left : Nat)] w fun e w' => ∃ A1 c1 m, e = .returned (.tuple #[.agg #[.slice A1 told.length c1, .slice none 0 0, .map (some m)], .bool (f && r1 && r2)]) ∧ told.length ≤ c1 ∧ c1 ≤ maxLen ∧  Bs w' w'.heap.size A1 told ∧ KidMap w' m mask s2 16 ∧ Below w.heap.size w w' := by
  obtain ⟨W1, hW1⟩ : ∃ W1, W1 = w.alloc (.cells ndZ.toArray 109) := ⟨_, rfl⟩
  have hR1 : Arr W1 w.heap.size 109 ndZ := by rw [hW1]; exact Arr.new w _ _
  have hb1 : Below w.heap.size w W1 := by rw [hW1]; exact (Below.refl _ w).alloc (Nat.le_refl _) _
  have hA1 : Bs W1 W1.heap.size A b := (hA.below hb1 (Nat.le_refl _)).more hb1.size
  have HW1 := Lib.hid hW1
  have Hn := Lib.hid hn
  have Hk := Lib.hid hk
  have Ht := Lib.hid ht
  have Hm := Lib.hid hm
  have Hfin := Lib.hid hfin
  have Hf := Lib.hid hf
  have Hr1 := Lib.hid hr1
  have Hr2 := Lib.hid hr2
  clear hW1 hA hn hk ht hm hfin hf hr1 hr2
  have hkd2 : ((kd : Int) == 0) = false := by rw [beq_eq_false_iff_ne]; omega
  go_enter Try.func58, Try.ntmps58
  go_upto_region 1 with fail
  change Code.wp _ _ _ _ (w.alloc (.cells ndZ.toArray 109))
  rw [← HW1.out]
  clear HW1
  go_wp2_with fail
  refine Calls.mono (from_n W1.heap.size A c n b W1 hA1 Hn.out (by omega)) ?_
  rintro e w2 ⟨p, rfl, hp2, hpin, hb2⟩
  have hR2 := hR1.below hb2 hR1.lt
  have hb2' : Below w.heap.size w w2 := hb1.trans (hb2.mono hb1.size)
  have hRlt := hR1.lt
  have hpR : w.heap.size < p := by omega
  clear hA1 hR1 hb2 hb1 hp2
  dsimp only
  go_wp2_with fail
  refine Calls.mono (show Calls Try.prog 43 #[.pointer (some ⟨p, 0, none⟩), .int .u64 1] w2 _ from number_in p 1 b false w2 hpin (by omega)) ?_
  rintro e w3 ⟨rfl, hp3, ht3⟩
  have e1 : (numF 1 b).1 = kd := congrArg Prod.fst Hk.out
  have e2 : (numF 1 b).2.1 = l1 := congrArg (fun x => x.2.1) Hk.out
  have e3 : (false || (numF 1 b).2.2) = b1 := congrArg (fun x => x.2.2) Hk.out
  rw [e2, e3] at hp3
  rw [e1]
  have hR3 := hR2.turnP ht3 (by omega)
  have hb3 : Below w.heap.size w w3 := hb2'.trans (ht3.below hb2'.size (Nat.le_of_lt hpR))
  clear e1 e2 e3 hpin ht3 hb2' hR2
  dsimp only
  go_wp2_with fail
  refine Calls.mono (bytes_in p (left : Nat) l1 b1 w3 hp3 (by omega) (by omega)) ?_
  rintro e w4 ⟨A1, c1, rfl, h11, h12, h13, hp4, ht4⟩
  have e1 : (bytesF (left : Nat) l1).1 = told := congrArg Prod.fst Ht.out
  have e2 : (bytesF (left : Nat) l1).2.1 = l2 := congrArg (fun x => x.2.1) Ht.out
  have e3 : (b1 || (bytesF (left : Nat) l1).2.2) = b2 := congrArg (fun x => x.2.2) Ht.out
  rw [e2, e3] at hp4
  rw [e1] at h11 h13 ⊢
  have hR4 := hR3.turnP ht4 (by omega)
  have hb4 : Below w.heap.size w w4 := hb3.trans (ht4.below hb3.size (Nat.le_of_lt hpR))
  clear e1 e2 e3 hp3 ht4 hb3 hR3
  dsimp only
  obtain ⟨tl, htl⟩ : ∃ tl, told.length = tl := ⟨_, rfl⟩
  have htl64 : tl ≤ left := by rw [← htl, show told = (bytS left (l1, b1)).1 by rw [Ht.out]]; exact bytS_len left _
  have Htl := Lib.hid htl
  obtain ⟨f0, hd0⟩ : ∃ f0, ((tl : Int) == (left : Int)) = f0 := ⟨_, rfl⟩
  obtain ⟨f1, hf1⟩ : ∃ f1, decide (tl < left) = f1 := ⟨_, rfl⟩
  have hd1 : decide (tl < left) = f1 := hf1
  obtain ⟨f2, hf2⟩ : ∃ f2, decide (1 < popM mask 16) = f2 := ⟨_, rfl⟩
  have Hf' : Hid ((f1 && f2) = f) := by show _ = _; rw [← hf1, ← hf2, ← htl]; exact Hf.out
  have Hf2 := Lib.hid hf2
  clear hf1 hf2 Hf
  rw [htl] at h11 ⊢
  obtain ⟨g, hg⟩ : ∃ g, g = w4.heap.size := ⟨_, rfl⟩
  obtain ⟨w5, hw5⟩ : ∃ w5, w5 = w4.alloc (.cells (ndC (.slice A1 tl c1) (.slice none 0 0) (.map none)).toArray 109) := ⟨_, rfl⟩
  have hN5 : Arr w5 g 109 (ndC (.slice A1 tl c1) (.slice none 0 0) (.map none)) := by rw [hw5, hg]; exact Arr.new w4 _ _
  have hR5 : Arr w5 w.heap.size 109 ndZ := by rw [hw5]; exact hR4.alloc _
  have hp5 : PIn w5 p l2 b2 := by rw [hw5]; exact hp4.kept fun k hk => Below.heap_alloc w4 _ k (by have := hp4.lt; omega)
  have hT5 : Bs w5 p A1 told := by rw [hw5]; exact h13.alloc (Nat.le_of_lt hp4.lt) _
  have hb5 : Below w.heap.size w w5 := by rw [hw5]; exact hb4.alloc hb4.size _
  have hpg : p < g := by rw [hg]; exact hp4.lt
  have hc50 : w5.cell? ⟨g, 0, none⟩ = some (.slice A1 tl c1) := hN5.cell 0
  have Hw5 := Lib.hid hw5
  have Hg := Lib.hid hg
  clear htl hw5 hg hR4 hp4 h13 hb4
  go_upto_region 4 with fail
  rw [← Hg.out]
  change Code.wp _ _ _ _ (w4.alloc (.cells (ndC (.slice A1 tl c1) (.slice none 0 0) (.map none)).toArray 109))
  rw [← Hw5.out]
  clear Hw5 Hg
  have HN5 := Lib.hid hN5
  clear hN5
  go_wp2_with fail
  go_at_call 74
  refine Calls.mono (digests_run p (l2, b2) mask s2 Hm.out w5 hp5) ?_
  rintro e w6 ⟨m, rfl, hwm, hK6, hp6, ht6⟩
  rw [Hfin.out] at hp6
  simp only at hp6
  have hgm : g < m := Nat.lt_of_lt_of_le HN5.out.lt hwm
  have hN6 := HN5.out.turnP ht6 (by omega)
  have hR6 := hR5.turnP ht6 (by omega)
  have hT6 : Bs w6 p A1 told := ht6.bs hp5.lt hT5
  have hb6 : Below w.heap.size w w6 := hb5.trans (ht6.below hb5.size (Nat.le_of_lt hpR))
  have hz6 : p < w6.heap.size := hp6.lt
  clear hp5 ht6 hb5 hR5 hT5 HN5 hc50 hwm
  dsimp only
  have hc62 : w6.cell? ⟨g, 2, none⟩ = some (.map none) := hN6.cell 2
  have hf62 := hN6.frozen 2
  obtain ⟨w7, hw7⟩ : ∃ x, x = w6.setCell ⟨g, 2, none⟩ (.map (some m)) := ⟨_, rfl⟩
  have hN7 : Arr w7 g 109 (ndC (.slice A1 tl c1) (.slice none 0 0) (.map (some m))) := by rw [hw7]; exact hN6.set 2 _
  have hK7 : KidMap w7 m mask s2 16 := by rw [hw7]; exact hK6.kept (row := some g) ⟨rfl, rfl, rfl, by simp [World.setCell], fun k _ hk => Below.heap_setCell w6 _ _ k (fun e => hk (by rw [e]))⟩ (fun e => by injection e with e; omega)
  have hR7 : Arr w7 w.heap.size 109 ndZ := by rw [hw7]; exact hR6.setOther (show w.heap.size ≠ g by omega) _
  have hp7 : PIn w7 p l3 b3 := by rw [hw7]; exact hp6.kept fun k hk => Below.heap_setCell w6 _ _ k (by simp; omega)
  have hT7 : Bs w7 p A1 told := by rw [hw7]; exact hT6.keep fun b o hlt => World.cell?_of_block (Below.heap_setCell w6 _ _ b (by simp; omega))
  have hb7 : Below w.heap.size w w7 := by rw [hw7]; exact hb6.trans ⟨rfl, rfl, rfl, by simp [World.setCell], fun k hk => Below.heap_setCell w6 _ _ k (by simp; omega)⟩
  have Hw7 := Lib.hid hw7
  clear hw7 hN6 hR6 hp6 hT6 hb6 hK6
  go_upto_region 8 with fail
  change Code.wp _ _ _ _ (w6.setCell ⟨g, 2, none⟩ (.map (some m)))
  rw [← Hw7.out]
  clear Hw7 hc62 hf62
  have hc70 : w7.cell? ⟨g, 0, none⟩ = some (.slice A1 tl c1) := hN7.cell 0
  have hc72 : w7.cell? ⟨g, 2, none⟩ = some (.map (some m)) := hN7.cell 2
  have HN7 := Lib.hid hN7
  clear hN7
  cases f1 with
  | false =>
    obtain rfl : f = false := by have := Hf'.out; simpa using this.symm
    go_upto_region 9 with fail
    have hN7 := HN7.out
    clear hc70 hc72 HN7
    obtain ⟨NL, hNL⟩ : ∃ NL, NL = ndC (.slice A1 tl c1) (.slice none 0 0) (.map (some m)) := ⟨_, rfl⟩
    rw [← hNL] at hN7
    have Hl := Lib.hid (show NL.length = 3 by rw [hNL]; rfl)
    have Hi := Lib.hid (show (Try.prog.info? 109).map (·.size) = some NL.length by rw [hNL]; exact ndSize)
    have HiA := Lib.hid (show (Try.prog.info? 109).map (·.size) = some NL.toArray.size by rw [hNL]; exact ndSize)
    have H1 := Lib.hid (show NL.toArray.all (·.oneCell') = true by rw [hNL]; simp [ndC, Value.oneCell'])
    have Hc0 : Hid (∀ w' : World, Arr w' g 109 NL → w'.cell? ⟨g, 0, none⟩ = some (.slice A1 tl c1)) := fun w' h => by rw [h.cell, hNL]; rfl
    have HNL := Lib.hid hNL
    clear hNL
    refine wp_region_held_drew (S := fun w' => Arr w' g 109 NL) (by kernel_rfl) (hN7.drewN 1) (fun hHeld => ?_)
    refine anyH_take (i := 0) (some 42) rfl rfl (by kernel_rfl) (by kernel_rfl) (by kernel_rfl) (fun _ _ _ h => h) (yieldsIf_load_mid (by rfl) 109 (.tmp 8) rfl g 0 rfl NL _ (fun w' h => h.range) Try.underlying109 rfl Hi.out) (by assumption) ?_
    simp only [Act.put, List.setIfInBounds_toArray, List.set_cons_zero, List.set_cons_succ]
    refine anyH_take (i := 1) (v := .bool false) (some 43) rfl rfl (by kernel_rfl) (by kernel_rfl) (by kernel_rfl) (fun _ _ _ h => h) (Or.inl ⟨by rfl, fun w' hw => by go_simp⟩) (by assumption) ?_
    simp only [Act.put, List.setIfInBounds_toArray, List.set_cons_zero, List.set_cons_succ]
    refine anyH_take (i := 2) (v := .bool false) (some 44) rfl rfl (by kernel_rfl) (by kernel_rfl) (by kernel_rfl) (fun _ _ _ h => h) (Or.inl ⟨by rfl, fun w' hw => by go_simp⟩) (by assumption) ?_
    simp only [Act.put, List.setIfInBounds_toArray, List.set_cons_zero, List.set_cons_succ]
    refine anyH_take (i := 3) (v := undef) (some 45) rfl rfl (by kernel_rfl) (by kernel_rfl) (by kernel_rfl) (fun _ _ _ h => h) (Or.inr ⟨by rfl, rfl⟩) (by assumption) ?_
    simp only [Act.put, List.setIfInBounds_toArray, List.set_cons_zero, List.set_cons_succ]
    refine anyH_take (i := 4) (v := undef) (some 46) rfl rfl (by kernel_rfl) (by kernel_rfl) (by kernel_rfl) (fun _ _ _ h => h) (Or.inr ⟨by rfl, rfl⟩) (by assumption) ?_
    simp only [Act.put, List.setIfInBounds_toArray, List.set_cons_zero, List.set_cons_succ]
    refine anyH_take (i := 5) (v := undef) (some 47) rfl rfl (by kernel_rfl) (by kernel_rfl) (by kernel_rfl) (fun _ _ _ h => h) (Or.inr ⟨by rfl, rfl⟩) (by assumption) ?_
    simp only [Act.put, List.setIfInBounds_toArray, List.set_cons_zero, List.set_cons_succ]
    refine anyH_take (i := 6) (v := .bool false) (some 48) rfl rfl (by kernel_rfl) (by kernel_rfl) (by kernel_rfl) (fun _ _ _ h => h) (Or.inl ⟨by rfl, fun w' hw => by go_simp⟩) (by assumption) ?_
    simp only [Act.put, List.setIfInBounds_toArray, List.set_cons_zero, List.set_cons_succ]
    refine anyH_take (i := 7) (v := .bool false) (some 49) rfl rfl (by kernel_rfl) (by kernel_rfl) (by kernel_rfl) (fun _ _ _ h => h) (Or.inl ⟨by rfl, fun w' hw => by go_simp⟩) (by assumption) ?_
    simp only [Act.put, List.setIfInBounds_toArray, List.set_cons_zero, List.set_cons_succ]
    refine anyH_take (i := 8) (v := undef) (some 50) rfl rfl (by kernel_rfl) (by kernel_rfl) (by kernel_rfl) (fun _ _ _ h => h) (Or.inr ⟨by rfl, rfl⟩) (by assumption) ?_
    simp only [Act.put, List.setIfInBounds_toArray, List.set_cons_zero, List.set_cons_succ]
    refine anyH_take (i := 9) (v := undef) (some 51) rfl rfl (by kernel_rfl) (by kernel_rfl) (by kernel_rfl) (fun _ _ _ h => h) (Or.inr ⟨by rfl, rfl⟩) (by assumption) ?_
    simp only [Act.put, List.setIfInBounds_toArray, List.set_cons_zero, List.set_cons_succ]
    refine anyH_take (i := 10) (v := undef) (some 52) rfl rfl (by kernel_rfl) (by kernel_rfl) (by kernel_rfl) (fun _ _ _ h => h) (Or.inr ⟨by rfl, rfl⟩) (by assumption) ?_
    simp only [Act.put, List.setIfInBounds_toArray, List.set_cons_zero, List.set_cons_succ]
    refine anyH_take (i := 11) (v := .bool false) (some 53) rfl rfl (by kernel_rfl) (by kernel_rfl) (by kernel_rfl) (fun _ _ _ h => h) (Or.inl ⟨by rfl, fun w' hw => by go_simp⟩) (by assumption) ?_
    simp only [Act.put, List.setIfInBounds_toArray, List.set_cons_zero, List.set_cons_succ]
    have hth : (w7.drewN 1).there w.heap.size 0 NL.toArray.size := Arr.thereP (w := w7.drewN 1) (hR7.drewN 1) (by rw [List.size_toArray, Hl.out]; exact Nat.le_refl _)
    have hR8 := Arr.setCells NL 0 ndZ (w7.drewN 1) (hR7.drewN 1) (by rw [Hl.out]; rfl)
    rw [List.take_zero, List.nil_append] at hR8
    have hO8 : Only (fun k => k = w.heap.size) (w7.drewN 1) ((w7.drewN 1).setCells w.heap.size 0 NL) := Only.setCells (R := fun k => k = w.heap.size) rfl NL 0 (w7.drewN 1) (Only.refl _ _)
    refine wpAnyH_ready (rs := [12]) (by kernel_rfl) (by simp) ?_
    refine AllReadyH.cons rfl (fun K hK => ?_) AllReadyH.nil
    rw [if_pos (by rfl)]
    refine store_toP rfl 109 _ _ rfl w.heap.size 0 NL.toArray rfl rfl hth HiA.out H1.out ?_
    try rw [show NL.toArray.toList = NL from rfl]
    refine hK.out _ _ (Arr.only (w := w7.drewN 1) (hN7.drewN 1) hO8 (by omega)) (fun hHeldx => ?_)
    clear hK K
    try simp only [Act.put, List.setIfInBounds_toArray, List.set_cons_zero, List.set_cons_succ]
    refine anyH_take (i := 13) (v := .bool false) (some 5) rfl rfl (by kernel_rfl) (by kernel_rfl) (by kernel_rfl) (fun _ _ _ h => h) (Or.inl ⟨by rfl, fun w' hw => by go_simp⟩) (by assumption) ?_
    simp only [Act.put, List.setIfInBounds_toArray, List.set_cons_zero, List.set_cons_succ]
    refine wpAnyH_done (by kernel_rfl) ?_ _
    clear hHeld hHeldx
    go_wp2_with fail
    obtain ⟨V, hV⟩ : ∃ V, V = Value.tuple #[.agg NL.toArray, .bool false] := ⟨_, rfl⟩
    refine bodyPost_ret (v := V) ?hx1 ?h2 ?h3
    case hx1 => rw [hV]; exact results_cell2P (fn := Try.f58) (by rfl) _ _ w.heap.size 109 NL.toArray (0, 0) _ (by rfl) _ (by rfl) hR8 Try.underlying109 rfl HiA.out
    case h2 => rfl
    case h3 =>
      have hz8 := hO8.size
      have hT8 := (Bs.onlyP hT7 hR7 ndZ_no hO8).more (Nat.le_trans (Nat.le_of_lt hp7.lt) hz8)
      have hK8 := KidMap.kept (w := w7.drewN 1) hK7 hO8.grown (fun e => by injection e with e; omega)
      rw [Htl.out]
      exact ⟨A1, c1, m, by rw [hV, HNL.out]; rfl, h11, h12, hT8, hK8, (Below.dN hb7 1).trans (hO8.below (Nat.le_of_lt hR7.lt) (fun k hk => by omega))⟩
  | true =>
    obtain rfl : f2 = f := by have := Hf'.out; simpa using this
    have HK7 := Lib.hid hK7
    obtain ⟨D, cD, hown, _, _, _, _, hsz⟩ := hK7
    obtain ⟨z, hz⟩ : ∃ z, Maps.size D = z := ⟨_, rfl⟩
    rw [hz] at hsz
    have hlen : (Builtin.len_ #[107] 3 #[.map (some m)]).run Try.prog w7 = .ok (.int .i64 (z : Nat)) w7 := by rw [← hz]; exact hown.len Try.underlying107 _
    have hd3 : decide ((1 : Int) < (z : Int)) = f2 := by rw [← Hf2.out, ← hsz, decide_eq_decide]; omega
    clear hsz hz hown
    go_upto_region 9 with fail
    have hN7 := HN7.out
    have hK7 := HK7.out
    clear hc70 hc72 HN7 hlen HK7
    cases f2 with
    | false =>
      obtain ⟨NL, hNL⟩ : ∃ NL, NL = ndC (.slice A1 tl c1) (.slice none 0 0) (.map (some m)) := ⟨_, rfl⟩
      rw [← hNL] at hN7
      have Hl := Lib.hid (show NL.length = 3 by rw [hNL]; rfl)
      have Hi := Lib.hid (show (Try.prog.info? 109).map (·.size) = some NL.length by rw [hNL]; exact ndSize)
      have HiA := Lib.hid (show (Try.prog.info? 109).map (·.size) = some NL.toArray.size by rw [hNL]; exact ndSize)
      have H1 := Lib.hid (show NL.toArray.all (·.oneCell') = true by rw [hNL]; simp [ndC, Value.oneCell'])
      have Hc0 : Hid (∀ w' : World, Arr w' g 109 NL → w'.cell? ⟨g, 0, none⟩ = some (.slice A1 tl c1)) := fun w' h => by rw [h.cell, hNL]; rfl
      have HNL := Lib.hid hNL
      clear hNL
      refine wp_region_held_drew (S := fun w' => Arr w' g 109 NL) (by kernel_rfl) (hN7.drewN 1) (fun hHeld => ?_)
      refine anyH_take (i := 0) (some 42) rfl rfl (by kernel_rfl) (by kernel_rfl) (by kernel_rfl) (fun _ _ _ h => h) (yieldsIf_load_mid (by rfl) 109 (.tmp 8) rfl g 0 rfl NL _ (fun w' h => h.range) Try.underlying109 rfl Hi.out) (by assumption) ?_
      simp only [Act.put, List.setIfInBounds_toArray, List.set_cons_zero, List.set_cons_succ]
      refine anyH_take (i := 1) (v := .bool false) (some 43) rfl rfl (by kernel_rfl) (by kernel_rfl) (by kernel_rfl) (fun _ _ _ h => h) (Or.inl ⟨by rfl, fun w' hw => by go_simp⟩) (by assumption) ?_
      simp only [Act.put, List.setIfInBounds_toArray, List.set_cons_zero, List.set_cons_succ]
      refine anyH_take (i := 2) (v := .bool false) (some 44) rfl rfl (by kernel_rfl) (by kernel_rfl) (by kernel_rfl) (fun _ _ _ h => h) (Or.inl ⟨by rfl, fun w' hw => by go_simp⟩) (by assumption) ?_
      simp only [Act.put, List.setIfInBounds_toArray, List.set_cons_zero, List.set_cons_succ]
      refine anyH_take (i := 3) (v := undef) (some 45) rfl rfl (by kernel_rfl) (by kernel_rfl) (by kernel_rfl) (fun _ _ _ h => h) (Or.inr ⟨by rfl, rfl⟩) (by assumption) ?_
      simp only [Act.put, List.setIfInBounds_toArray, List.set_cons_zero, List.set_cons_succ]
      refine anyH_take (i := 4) (v := undef) (some 46) rfl rfl (by kernel_rfl) (by kernel_rfl) (by kernel_rfl) (fun _ _ _ h => h) (Or.inr ⟨by rfl, rfl⟩) (by assumption) ?_
      simp only [Act.put, List.setIfInBounds_toArray, List.set_cons_zero, List.set_cons_succ]
      refine anyH_take (i := 5) (v := undef) (some 47) rfl rfl (by kernel_rfl) (by kernel_rfl) (by kernel_rfl) (fun _ _ _ h => h) (Or.inr ⟨by rfl, rfl⟩) (by assumption) ?_
      simp only [Act.put, List.setIfInBounds_toArray, List.set_cons_zero, List.set_cons_succ]
      refine anyH_take (i := 6) (v := .bool false) (some 48) rfl rfl (by kernel_rfl) (by kernel_rfl) (by kernel_rfl) (fun _ _ _ h => h) (Or.inl ⟨by rfl, fun w' hw => by go_simp⟩) (by assumption) ?_
      simp only [Act.put, List.setIfInBounds_toArray, List.set_cons_zero, List.set_cons_succ]
      refine anyH_take (i := 7) (v := .bool false) (some 49) rfl rfl (by kernel_rfl) (by kernel_rfl) (by kernel_rfl) (fun _ _ _ h => h) (Or.inl ⟨by rfl, fun w' hw => by go_simp⟩) (by assumption) ?_
      simp only [Act.put, List.setIfInBounds_toArray, List.set_cons_zero, List.set_cons_succ]
      refine anyH_take (i := 8) (v := undef) (some 50) rfl rfl (by kernel_rfl) (by kernel_rfl) (by kernel_rfl) (fun _ _ _ h => h) (Or.inr ⟨by rfl, rfl⟩) (by assumption) ?_
      simp only [Act.put, List.setIfInBounds_toArray, List.set_cons_zero, List.set_cons_succ]
      refine anyH_take (i := 9) (v := undef) (some 51) rfl rfl (by kernel_rfl) (by kernel_rfl) (by kernel_rfl) (fun _ _ _ h => h) (Or.inr ⟨by rfl, rfl⟩) (by assumption) ?_
      simp only [Act.put, List.setIfInBounds_toArray, List.set_cons_zero, List.set_cons_succ]
      refine anyH_take (i := 10) (v := undef) (some 52) rfl rfl (by kernel_rfl) (by kernel_rfl) (by kernel_rfl) (fun _ _ _ h => h) (Or.inr ⟨by rfl, rfl⟩) (by assumption) ?_
      simp only [Act.put, List.setIfInBounds_toArray, List.set_cons_zero, List.set_cons_succ]
      refine anyH_take (i := 11) (v := .bool false) (some 53) rfl rfl (by kernel_rfl) (by kernel_rfl) (by kernel_rfl) (fun _ _ _ h => h) (Or.inl ⟨by rfl, fun w' hw => by go_simp⟩) (by assumption) ?_
      simp only [Act.put, List.setIfInBounds_toArray, List.set_cons_zero, List.set_cons_succ]
      have hth : (w7.drewN 1).there w.heap.size 0 NL.toArray.size := Arr.thereP (w := w7.drewN 1) (hR7.drewN 1) (by rw [List.size_toArray, Hl.out]; exact Nat.le_refl _)
      have hR8 := Arr.setCells NL 0 ndZ (w7.drewN 1) (hR7.drewN 1) (by rw [Hl.out]; rfl)
      rw [List.take_zero, List.nil_append] at hR8
      have hO8 : Only (fun k => k = w.heap.size) (w7.drewN 1) ((w7.drewN 1).setCells w.heap.size 0 NL) := Only.setCells (R := fun k => k = w.heap.size) rfl NL 0 (w7.drewN 1) (Only.refl _ _)
      refine wpAnyH_ready (rs := [12]) (by kernel_rfl) (by simp) ?_
      refine AllReadyH.cons rfl (fun K hK => ?_) AllReadyH.nil
      rw [if_pos (by rfl)]
      refine store_toP rfl 109 _ _ rfl w.heap.size 0 NL.toArray rfl rfl hth HiA.out H1.out ?_
      try rw [show NL.toArray.toList = NL from rfl]
      refine hK.out _ _ (Arr.only (w := w7.drewN 1) (hN7.drewN 1) hO8 (by omega)) (fun hHeldx => ?_)
      clear hK K
      try simp only [Act.put, List.setIfInBounds_toArray, List.set_cons_zero, List.set_cons_succ]
      refine anyH_take (i := 13) (v := .bool false) (some 5) rfl rfl (by kernel_rfl) (by kernel_rfl) (by kernel_rfl) (fun _ _ _ h => h) (Or.inl ⟨by rfl, fun w' hw => by go_simp⟩) (by assumption) ?_
      simp only [Act.put, List.setIfInBounds_toArray, List.set_cons_zero, List.set_cons_succ]
      refine wpAnyH_done (by kernel_rfl) ?_ _
      clear hHeld hHeldx
      go_wp2_with fail
      obtain ⟨V, hV⟩ : ∃ V, V = Value.tuple #[.agg NL.toArray, .bool false] := ⟨_, rfl⟩
      refine bodyPost_ret (v := V) ?hx1 ?h2 ?h3
      case hx1 => rw [hV]; exact results_cell2P (fn := Try.f58) (by rfl) _ _ w.heap.size 109 NL.toArray (0, 0) _ (by rfl) _ (by rfl) hR8 Try.underlying109 rfl HiA.out
      case h2 => rfl
      case h3 =>
        have hz8 := hO8.size
        have hT8 := (Bs.onlyP hT7 hR7 ndZ_no hO8).more (Nat.le_trans (Nat.le_of_lt hp7.lt) hz8)
        have hK8 := KidMap.kept (w := w7.drewN 1) hK7 hO8.grown (fun e => by injection e with e; omega)
        rw [Htl.out]
        exact ⟨A1, c1, m, by rw [hV, HNL.out]; rfl, h11, h12, hT8, hK8, (Below.dN hb7 1).trans (hO8.below (Nat.le_of_lt hR7.lt) (fun k hk => by omega))⟩
    | true =>
      cases r1 with
      | false =>
        obtain ⟨NL, hNL⟩ : ∃ NL, NL = ndC (.slice A1 tl c1) (.slice none 0 0) (.map (some m)) := ⟨_, rfl⟩
        rw [← hNL] at hN7
        have Hl := Lib.hid (show NL.length = 3 by rw [hNL]; rfl)
        have Hi := Lib.hid (show (Try.prog.info? 109).map (·.size) = some NL.length by rw [hNL]; exact ndSize)
        have HiA := Lib.hid (show (Try.prog.info? 109).map (·.size) = some NL.toArray.size by rw [hNL]; exact ndSize)
        have H1 := Lib.hid (show NL.toArray.all (·.oneCell') = true by rw [hNL]; simp [ndC, Value.oneCell'])
        have Hc0 : Hid (∀ w' : World, Arr w' g 109 NL → w'.cell? ⟨g, 0, none⟩ = some (.slice A1 tl c1)) := fun w' h => by rw [h.cell, hNL]; rfl
        have HNL := Lib.hid hNL
        clear hNL
        refine wp_region_held_drew (S := fun w' => Arr w' g 109 NL) (by kernel_rfl) (hN7.drewN 1) (fun hHeld => ?_)
        refine anyH_take (i := 0) (some 42) rfl rfl (by kernel_rfl) (by kernel_rfl) (by kernel_rfl) (fun _ _ _ h => h) (yieldsIf_load_mid (by rfl) 109 (.tmp 8) rfl g 0 rfl NL _ (fun w' h => h.range) Try.underlying109 rfl Hi.out) (by assumption) ?_
        simp only [Act.put, List.setIfInBounds_toArray, List.set_cons_zero, List.set_cons_succ]
        refine anyH_take (i := 1) (v := .bool true) (some 43) rfl rfl (by kernel_rfl) (by kernel_rfl) (by kernel_rfl) (fun _ _ _ h => h) (Or.inl ⟨by rfl, fun w' hw => by go_simp⟩) (by assumption) ?_
        simp only [Act.put, List.setIfInBounds_toArray, List.set_cons_zero, List.set_cons_succ]
        refine anyH_take (i := 2) (v := .bool true) (some 44) rfl rfl (by kernel_rfl) (by kernel_rfl) (by kernel_rfl) (fun _ _ _ h => h) (Or.inl ⟨by rfl, fun w' hw => by go_simp⟩) (by assumption) ?_
        simp only [Act.put, List.setIfInBounds_toArray, List.set_cons_zero, List.set_cons_succ]
        refine anyH_take (i := 3) (v := .pointer (some ⟨g, 0, none⟩)) (some 45) rfl rfl (by kernel_rfl) (by kernel_rfl) (by kernel_rfl) (fun _ _ _ h => h) (Or.inl ⟨by rfl, fun w' hw => by go_simp⟩) (by assumption) ?_
        simp only [Act.put, List.setIfInBounds_toArray, List.set_cons_zero, List.set_cons_succ]
        refine anyH_take (i := 4) (v := .slice A1 tl c1) (some 46) rfl rfl (by kernel_rfl) (by kernel_rfl) (by kernel_rfl) (fun _ _ _ h => h) (Or.inl ⟨by rfl, fun w' hw => by (have hc := Hc0.out w' hw; go_simp)⟩) (by assumption) ?_
        simp only [Act.put, List.setIfInBounds_toArray, List.set_cons_zero, List.set_cons_succ]
        refine wpAnyH_ready (rs := [5]) (by kernel_rfl) (by simp) ?_
        refine AllReadyH.cons rfl (fun K hK => ?_) AllReadyH.nil
        go_simp
        go_at_call 75
        refine Calls.mono (allNibbles_run p A1 c1 tl told Htl.out (w7.drewN 1) (hT7.drewN 1) (by omega) false Hr1.out) ?_
        rintro e wx ⟨rfl, rfl⟩
        dsimp only
        go_wp2_with fail
        refine hK.out _ _ (hN7.drewN 1) (fun hHeldx => ?_)
        clear hK K
        try simp only [Act.put, List.setIfInBounds_toArray, List.set_cons_zero, List.set_cons_succ]
        refine anyH_take (i := 6) (v := .bool false) (some 48) rfl rfl (by kernel_rfl) (by kernel_rfl) (by kernel_rfl) (fun _ _ _ h => h) (Or.inl ⟨by rfl, fun w' hw => by go_simp⟩) (by assumption) ?_
        simp only [Act.put, List.setIfInBounds_toArray, List.set_cons_zero, List.set_cons_succ]
        refine anyH_take (i := 7) (v := .bool false) (some 49) rfl rfl (by kernel_rfl) (by kernel_rfl) (by kernel_rfl) (fun _ _ _ h => h) (Or.inl ⟨by rfl, fun w' hw => by go_simp⟩) (by assumption) ?_
        simp only [Act.put, List.setIfInBounds_toArray, List.set_cons_zero, List.set_cons_succ]
        refine anyH_take (i := 8) (v := undef) (some 50) rfl rfl (by kernel_rfl) (by kernel_rfl) (by kernel_rfl) (fun _ _ _ h => h) (Or.inr ⟨by rfl, rfl⟩) (by assumption) ?_
        simp only [Act.put, List.setIfInBounds_toArray, List.set_cons_zero, List.set_cons_succ]
        refine anyH_take (i := 9) (v := undef) (some 51) rfl rfl (by kernel_rfl) (by kernel_rfl) (by kernel_rfl) (fun _ _ _ h => h) (Or.inr ⟨by rfl, rfl⟩) (by assumption) ?_
        simp only [Act.put, List.setIfInBounds_toArray, List.set_cons_zero, List.set_cons_succ]
        refine anyH_take (i := 10) (v := undef) (some 52) rfl rfl (by kernel_rfl) (by kernel_rfl) (by kernel_rfl) (fun _ _ _ h => h) (Or.inr ⟨by rfl, rfl⟩) (by assumption) ?_
        simp only [Act.put, List.setIfInBounds_toArray, List.set_cons_zero, List.set_cons_succ]
        refine anyH_take (i := 11) (v := .bool false) (some 53) rfl rfl (by kernel_rfl) (by kernel_rfl) (by kernel_rfl) (fun _ _ _ h => h) (Or.inl ⟨by rfl, fun w' hw => by go_simp⟩) (by assumption) ?_
        simp only [Act.put, List.setIfInBounds_toArray, List.set_cons_zero, List.set_cons_succ]
        have hth : (w7.drewN 1).there w.heap.size 0 NL.toArray.size := Arr.thereP (w := w7.drewN 1) (hR7.drewN 1) (by rw [List.size_toArray, Hl.out]; exact Nat.le_refl _)
        have hR8 := Arr.setCells NL 0 ndZ (w7.drewN 1) (hR7.drewN 1) (by rw [Hl.out]; rfl)
        rw [List.take_zero, List.nil_append] at hR8
        have hO8 : Only (fun k => k = w.heap.size) (w7.drewN 1) ((w7.drewN 1).setCells w.heap.size 0 NL) := Only.setCells (R := fun k => k = w.heap.size) rfl NL 0 (w7.drewN 1) (Only.refl _ _)
        refine wpAnyH_ready (rs := [12]) (by kernel_rfl) (by simp) ?_
        refine AllReadyH.cons rfl (fun K hK => ?_) AllReadyH.nil
        rw [if_pos (by rfl)]
        refine store_toP rfl 109 _ _ rfl w.heap.size 0 NL.toArray rfl rfl hth HiA.out H1.out ?_
        try rw [show NL.toArray.toList = NL from rfl]
        refine hK.out _ _ (Arr.only (w := w7.drewN 1) (hN7.drewN 1) hO8 (by omega)) (fun hHeldx => ?_)
        clear hK K
        try simp only [Act.put, List.setIfInBounds_toArray, List.set_cons_zero, List.set_cons_succ]
        refine anyH_take (i := 13) (v := .bool false) (some 5) rfl rfl (by kernel_rfl) (by kernel_rfl) (by kernel_rfl) (fun _ _ _ h => h) (Or.inl ⟨by rfl, fun w' hw => by go_simp⟩) (by assumption) ?_
        simp only [Act.put, List.setIfInBounds_toArray, List.set_cons_zero, List.set_cons_succ]
        refine wpAnyH_done (by kernel_rfl) ?_ _
        clear hHeld hHeldx
        go_wp2_with fail
        obtain ⟨V, hV⟩ : ∃ V, V = Value.tuple #[.agg NL.toArray, .bool false] := ⟨_, rfl⟩
        refine bodyPost_ret (v := V) ?hx1 ?h2 ?h3
        case hx1 => rw [hV]; exact results_cell2P (fn := Try.f58) (by rfl) _ _ w.heap.size 109 NL.toArray (0, 0) _ (by rfl) _ (by rfl) hR8 Try.underlying109 rfl HiA.out
        case h2 => rfl
        case h3 =>
          have hz8 := hO8.size
          have hT8 := (Bs.onlyP hT7 hR7 ndZ_no hO8).more (Nat.le_trans (Nat.le_of_lt hp7.lt) hz8)
          have hK8 := KidMap.kept (w := w7.drewN 1) hK7 hO8.grown (fun e => by injection e with e; omega)
          rw [Htl.out]
          exact ⟨A1, c1, m, by rw [hV, HNL.out]; rfl, h11, h12, hT8, hK8, (Below.dN hb7 1).trans (hO8.below (Nat.le_of_lt hR7.lt) (fun k hk => by omega))⟩
      | true =>
        obtain ⟨NL, hNL⟩ : ∃ NL, NL = ndC (.slice A1 tl c1) (.slice none 0 0) (.map (some m)) := ⟨_, rfl⟩
        rw [← hNL] at hN7
        have Hl := Lib.hid (show NL.length = 3 by rw [hNL]; rfl)
        have Hi := Lib.hid (show (Try.prog.info? 109).map (·.size) = some NL.length by rw [hNL]; exact ndSize)
        have HiA := Lib.hid (show (Try.prog.info? 109).map (·.size) = some NL.toArray.size by rw [hNL]; exact ndSize)
        have H1 := Lib.hid (show NL.toArray.all (·.oneCell') = true by rw [hNL]; simp [ndC, Value.oneCell'])
        have Hc0 : Hid (∀ w' : World, Arr w' g 109 NL → w'.cell? ⟨g, 0, none⟩ = some (.slice A1 tl c1)) := fun w' h => by rw [h.cell, hNL]; rfl
        have HNL := Lib.hid hNL
        clear hNL
        refine wp_region_held_drew (S := fun w' => Arr w' g 109 NL) (by kernel_rfl) (hN7.drewN 1) (fun hHeld => ?_)
        refine anyH_take (i := 0) (some 42) rfl rfl (by kernel_rfl) (by kernel_rfl) (by kernel_rfl) (fun _ _ _ h => h) (yieldsIf_load_mid (by rfl) 109 (.tmp 8) rfl g 0 rfl NL _ (fun w' h => h.range) Try.underlying109 rfl Hi.out) (by assumption) ?_
        simp only [Act.put, List.setIfInBounds_toArray, List.set_cons_zero, List.set_cons_succ]
        refine anyH_take (i := 1) (v := .bool true) (some 43) rfl rfl (by kernel_rfl) (by kernel_rfl) (by kernel_rfl) (fun _ _ _ h => h) (Or.inl ⟨by rfl, fun w' hw => by go_simp⟩) (by assumption) ?_
        simp only [Act.put, List.setIfInBounds_toArray, List.set_cons_zero, List.set_cons_succ]
        refine anyH_take (i := 2) (v := .bool true) (some 44) rfl rfl (by kernel_rfl) (by kernel_rfl) (by kernel_rfl) (fun _ _ _ h => h) (Or.inl ⟨by rfl, fun w' hw => by go_simp⟩) (by assumption) ?_
        simp only [Act.put, List.setIfInBounds_toArray, List.set_cons_zero, List.set_cons_succ]
        refine anyH_take (i := 3) (v := .pointer (some ⟨g, 0, none⟩)) (some 45) rfl rfl (by kernel_rfl) (by kernel_rfl) (by kernel_rfl) (fun _ _ _ h => h) (Or.inl ⟨by rfl, fun w' hw => by go_simp⟩) (by assumption) ?_
        simp only [Act.put, List.setIfInBounds_toArray, List.set_cons_zero, List.set_cons_succ]
        refine anyH_take (i := 4) (v := .slice A1 tl c1) (some 46) rfl rfl (by kernel_rfl) (by kernel_rfl) (by kernel_rfl) (fun _ _ _ h => h) (Or.inl ⟨by rfl, fun w' hw => by (have hc := Hc0.out w' hw; go_simp)⟩) (by assumption) ?_
        simp only [Act.put, List.setIfInBounds_toArray, List.set_cons_zero, List.set_cons_succ]
        refine wpAnyH_ready (rs := [5]) (by kernel_rfl) (by simp) ?_
        refine AllReadyH.cons rfl (fun K hK => ?_) AllReadyH.nil
        go_simp
        go_at_call 75
        refine Calls.mono (allNibbles_run p A1 c1 tl told Htl.out (w7.drewN 1) (hT7.drewN 1) (by omega) true Hr1.out) ?_
        rintro e wx ⟨rfl, rfl⟩
        dsimp only
        go_wp2_with fail
        refine hK.out _ _ (hN7.drewN 1) (fun hHeldx => ?_)
        clear hK K
        try simp only [Act.put, List.setIfInBounds_toArray, List.set_cons_zero, List.set_cons_succ]
        refine anyH_take (i := 6) (v := .bool true) (some 48) rfl rfl (by kernel_rfl) (by kernel_rfl) (by kernel_rfl) (fun _ _ _ h => h) (Or.inl ⟨by rfl, fun w' hw => by go_simp⟩) (by assumption) ?_
        simp only [Act.put, List.setIfInBounds_toArray, List.set_cons_zero, List.set_cons_succ]
        refine anyH_take (i := 7) (v := .bool true) (some 49) rfl rfl (by kernel_rfl) (by kernel_rfl) (by kernel_rfl) (fun _ _ _ h => h) (Or.inl ⟨by rfl, fun w' hw => by go_simp⟩) (by assumption) ?_
        simp only [Act.put, List.setIfInBounds_toArray, List.set_cons_zero, List.set_cons_succ]
        refine anyH_take (i := 8) (v := .pointer (some ⟨p, 0, none⟩)) (some 50) rfl rfl (by kernel_rfl) (by kernel_rfl) (by kernel_rfl) (fun _ _ _ h => h) (Or.inl ⟨by rfl, fun w' hw => by go_simp⟩) (by assumption) ?_
        simp only [Act.put, List.setIfInBounds_toArray, List.set_cons_zero, List.set_cons_succ]
        refine wpAnyH_ready (rs := [9]) (by kernel_rfl) (by simp) ?_
        refine AllReadyH.cons rfl (fun K hK => ?_) AllReadyH.nil
        go_simp
        go_at_call 51
        refine Calls.mono (done_in p l3 b3 (w7.drewN 1) (hp7.drewN 1)) ?_
        rintro e wx ⟨rfl, rfl⟩
        dsimp only
        go_wp2_with fail
        refine hK.out _ _ (hN7.drewN 1) (fun hHeldx => ?_)
        clear hK K
        try simp only [Act.put, List.setIfInBounds_toArray, List.set_cons_zero, List.set_cons_succ]
        refine anyH_take (i := 10) (v := .bool r2) (some 52) rfl rfl (by kernel_rfl) (by kernel_rfl) (by kernel_rfl) (fun _ _ _ h => h) (Or.inl ⟨by rfl, fun w' hw => by (have hr := Hr2.out; go_simp)⟩) (by assumption) ?_
        simp only [Act.put, List.setIfInBounds_toArray, List.set_cons_zero, List.set_cons_succ]
        refine anyH_take (i := 11) (v := .bool r2) (some 53) rfl rfl (by kernel_rfl) (by kernel_rfl) (by kernel_rfl) (fun _ _ _ h => h) (Or.inl ⟨by rfl, fun w' hw => by go_simp⟩) (by assumption) ?_
        simp only [Act.put, List.setIfInBounds_toArray, List.set_cons_zero, List.set_cons_succ]
        have hth : (w7.drewN 1).there w.heap.size 0 NL.toArray.size := Arr.thereP (w := w7.drewN 1) (hR7.drewN 1) (by rw [List.size_toArray, Hl.out]; exact Nat.le_refl _)
        have hR8 := Arr.setCells NL 0 ndZ (w7.drewN 1) (hR7.drewN 1) (by rw [Hl.out]; rfl)
        rw [List.take_zero, List.nil_append] at hR8
        have hO8 : Only (fun k => k = w.heap.size) (w7.drewN 1) ((w7.drewN 1).setCells w.heap.size 0 NL) := Only.setCells (R := fun k => k = w.heap.size) rfl NL 0 (w7.drewN 1) (Only.refl _ _)
        refine wpAnyH_ready (rs := [12]) (by kernel_rfl) (by simp) ?_
        refine AllReadyH.cons rfl (fun K hK => ?_) AllReadyH.nil
        rw [if_pos (by rfl)]
        refine store_toP rfl 109 _ _ rfl w.heap.size 0 NL.toArray rfl rfl hth HiA.out H1.out ?_
        try rw [show NL.toArray.toList = NL from rfl]
        refine hK.out _ _ (Arr.only (w := w7.drewN 1) (hN7.drewN 1) hO8 (by omega)) (fun hHeldx => ?_)
        clear hK K
        try simp only [Act.put, List.setIfInBounds_toArray, List.set_cons_zero, List.set_cons_succ]
        refine anyH_take (i := 13) (v := .bool r2) (some 5) rfl rfl (by kernel_rfl) (by kernel_rfl) (by kernel_rfl) (fun _ _ _ h => h) (Or.inl ⟨by rfl, fun w' hw => by go_simp⟩) (by assumption) ?_
        simp only [Act.put, List.setIfInBounds_toArray, List.set_cons_zero, List.set_cons_succ]
        refine wpAnyH_done (by kernel_rfl) ?_ _
        clear hHeld hHeldx
        go_wp2_with fail
        obtain ⟨V, hV⟩ : ∃ V, V = Value.tuple #[.agg NL.toArray, .bool r2] := ⟨_, rfl⟩
        refine bodyPost_ret (v := V) ?hx1 ?h2 ?h3
        case hx1 => rw [hV]; exact results_cell2P (fn := Try.f58) (by rfl) _ _ w.heap.size 109 NL.toArray (0, 0) _ (by rfl) _ (by rfl) hR8 Try.underlying109 rfl HiA.out
        case h2 => rfl
        case h3 =>
          have hz8 := hO8.size
          have hT8 := (Bs.onlyP hT7 hR7 ndZ_no hO8).more (Nat.le_trans (Nat.le_of_lt hp7.lt) hz8)
          have hK8 := KidMap.kept (w := w7.drewN 1) hK7 hO8.grown (fun e => by injection e with e; omega)
          rw [Htl.out]
          exact ⟨A1, c1, m, by rw [hV, HNL.out]; rfl, h11, h12, hT8, hK8, (Below.dN hb7 1).trans (hO8.below (Nat.le_of_lt hR7.lt) (fun k hk => by omega))⟩
end Go.Proofs.Ytlailhjpfadpcaa

namespace Go.Proofs.Ytlailhjpfadpcaa
open Go.RowKit
set_option linter.unusedVariables false
set_option linter.unusedSimpArgs false

theorem ba_eq (a b : List UInt8) : ((⟨a.toArray⟩ : ByteArray).toList == (⟨b.toArray⟩ : ByteArray).toList) = decide (a = b) := by
  rw [ByteArray.toList_mk, ByteArray.toList_mk, Bool.eq_iff_iff, beq_iff_eq, decide_eq_true_eq]

set_option maxHeartbeats 4000000 in
set_option maxRecDepth 100000 in
theorem bequal_run (B1 B2 : Nat) (A1 A2 : Option Addr) (c1 c2 n1 n2 : Nat) (l1 l2 : List UInt8) (w : World) (h1 : Bs w B1 A1 l1) (h2 : Bs w B2 A2 l2) (e1 : l1.length = n1) (e2 : l2.length = n2) (r : Bool) (hr : decide (l1 = l2) = r) :
    Calls Try.prog 77 #[.slice A1 n1 c1, .slice A2 n2 c2] w fun e w' => e = .returned (.bool r) ∧ w' = w := by
  have hs1 := str_of_bs c1 h1 e1 40 9 5 Try.underlying40 Try.underlying5 Try.underlying9
  have hs2 := str_of_bs c2 h2 e2 40 9 5 Try.underlying40 Try.underlying5 Try.underlying9
  have he := ba_eq l1 l2
  rw [hr] at he
  clear h1 h2 e1 e2 hr
  obtain ⟨s1, h1⟩ : ∃ s1 : ByteArray, s1 = ⟨l1.toArray⟩ := ⟨_, rfl⟩
  obtain ⟨s2, h2⟩ : ∃ s2 : ByteArray, s2 = ⟨l2.toArray⟩ := ⟨_, rfl⟩
  rw [← h1] at hs1 he
  rw [← h2] at hs2 he
  clear h1 h2
  go_enter Try.func77, Try.ntmps77
  go_wp2_with fail
  go_ret
  exact ⟨rfl, rfl⟩

set_option maxHeartbeats 4000000 in
set_option maxRecDepth 100000 in
theorem hasPrefix_run (B1 B2 : Nat) (A1 A2 : Option Addr) (c1 c2 n1 n2 : Nat) (l1 l2 : List UInt8) (w : World) (h1 : Bs w B1 A1 l1) (h2 : Bs w B2 A2 l2) (e1 : l1.length = n1) (e2 : l2.length = n2) (hn : n2 < n1) (hc : n1 ≤ c1) (hc2 : c1 ≤ maxLen) (r : Bool) (hr : decide (l1.take n2 = l2) = r) :
    Calls Try.prog 76 #[.slice A1 n1 c1, .slice A2 n2 c2] w fun e w' => e = .returned (.bool r) ∧ w' = w := by
  obtain ⟨b, off, rfl, _, _⟩ := h1 (by omega)
  have ht : Bs w B1 (some ⟨b, off, none⟩) (l1.take n2) := h1.take
  have htl : (l1.take n2).length = n2 := by rw [List.length_take]; omega
  have hd1 : decide (n2 ≤ n1) = true := by simp; omega
  have HT := Lib.hid ht
  have Htl := Lib.hid htl
  have H2 := Lib.hid h2
  have E2 := Lib.hid e2
  have Hr := Lib.hid hr
  unfold maxLen at hc2
  clear ht htl h1 h2 e1 e2 hr
  go_enter Try.func76, Try.ntmps76
  go_wp2_with fail
  refine Calls.mono (bequal_run B1 B2 _ A2 _ c2 n2 n2 (l1.take n2) l2 w HT.out H2.out Htl.out E2.out r Hr.out) ?_
  rintro e w2 ⟨rfl, rfl⟩
  dsimp only
  go_wp2_with fail
  go_ret
  exact ⟨rfl, rfl⟩

end Go.Proofs.Ytlailhjpfadpcaa

namespace Go.Proofs.Ytlailhjpfadpcaa
open Go.RowKit
open Go.Maps (Keyed)
set_option linter.unusedVariables false
set_option linter.unusedSimpArgs false

theorem KidMap.look {w : World} {m mask : Nat} {s : St} (h : KidMap w m mask s 16) (x : Nat) (hx : x < 16) (DL : List Value) (hDL : DL = Lib.byteCells (if bitM mask x then kidD mask s x else zeros)) :
    (Instr.lookup 107 (.map (some m)) (.int .u8 (x : Nat)) true).run Try.prog w = .ok (.tuple #[.agg DL.toArray, .bool (bitM mask x)]) w := by
  obtain ⟨D, c, h1, h2, h3, h4, h5, h6⟩ := h
  obtain ⟨v, ps, hrun, hv⟩ := h1.look_ok nibKeyed Try.underlying107 (zeroDig w) (digR_mk (d := zeros) (by simp [zeros])) (nibKey x (by omega))
  have hh := h4 x (by omega)
  rw [show decide (x < 16) = true by simpa using hx, Bool.true_and] at hh
  rw [hh] at hrun
  rw [hrun]
  have hv2 : v = .agg DL.toArray := by
    cases hb : bitM mask x with
    | true =>
      rw [h5 x hx (Nat.le_refl _) hb] at hv
      have := (digR_inv hv).2
      rw [this, hDL, hb]
      rfl
    | false =>
      rw [hb] at hh
      rw [Maps.atKey_of_not_has hh] at hv
      have := (digR_inv hv).2
      rw [this, hDL, hb]
      rfl
  rw [hv2]

theorem wpList_builtP {P : Program} {ops : Array Oper} {rest : List Oper} {o : Oper} {a : Act} {w : World} {Q : Exit → Act → World → Prop} (hg : o.guard = none) (t : TypeId) (parts : Array (Nat × Operand)) (ho : o.op = .build t parts)
    (ps : List (Nat × Value)) (hp : parts.toList.map (fun x => (x.1, a.eval x.2)) = ps) (cells : Array Value) (hf : P.built t ps = some cells)
    (h : wpList P ops Q rest (a.put o.dst (.agg cells)) w) : wpList P ops Q (o :: rest) a w :=
  wpList_buildTo hg t parts ho _ rfl cells (by rw [← hf, ← hp]; simp) h

theorem KidMap.drewN {w : World} {m mask : Nat} {s : St} {k : Nat} (h : KidMap w m mask s k) (n : Nat) : KidMap (w.drewN n) m mask s k := h
theorem zerosBuilt : Try.prog.built 24 [] = some (Lib.byteCells zeros).toArray := by kernel_rfl

set_option maxHeartbeats 8000000 in
set_option maxRecDepth 100000 in
theorem pnext_leaf (A1 A2 A3 : Option Addr) (n1 n2 n3 c1 c2 c3 : Nat) (w : World) (ZL : List Value) (hZL : ZL = Lib.byteCells zeros) :
    Calls Try.prog 59 #[.agg #[.slice A1 n1 c1, .slice A2 n2 c2, .map none], .slice A3 n3 c3] w fun e w' => e = .returned (.tuple #[.agg ZL.toArray, .bool false]) ∧ Below w.heap.size w w' := by
  obtain ⟨NL, hNL⟩ : ∃ NL, NL = ndC (.slice A1 n1 c1) (.slice A2 n2 c2) (.map none) := ⟨_, rfl⟩
  obtain ⟨W1, hW1⟩ : ∃ x, x = w.alloc (.cells NL.toArray 109) := ⟨_, rfl⟩
  have hN1 : Arr W1 w.heap.size 109 NL := by rw [hW1]; exact Arr.new w _ _
  have hbw1 : Below w.heap.size w W1 := by rw [hW1]; exact (Below.refl _ w).alloc (Nat.le_refl _) _
  have hz1 : W1.heap.size = w.heap.size + 1 := by rw [hW1]; simp
  obtain ⟨W2, hW2⟩ : ∃ x, x = W1.alloc (.cells ZL.toArray 24) := ⟨_, rfl⟩
  obtain ⟨g2, hg2⟩ : ∃ x, x = w.heap.size + 1 := ⟨_, rfl⟩
  have hN2 : Arr W2 w.heap.size 109 NL := by rw [hW2]; exact hN1.alloc _
  have hR2 : Arr W2 g2 24 ZL := by rw [hW2, hg2, ← hz1]; exact Arr.new W1 _ _
  have hbw2 : Below w.heap.size w W2 := by rw [hW2]; exact hbw1.alloc hbw1.size _
  have hgw : w.heap.size < g2 := by omega
  have hz2 : g2 < W2.heap.size := hR2.lt
  have hc2 : W2.cell? ⟨w.heap.size, 2, none⟩ = some (.map none) := by rw [hN2.cell, hNL]; rfl
  have hc0 : W2.cell? ⟨w.heap.size, 0, none⟩ = some (.slice A1 n1 c1) := by rw [hN2.cell, hNL]; rfl
  have Hi := Lib.hid (show (Try.prog.info? 24).map (·.size) = some ZL.toArray.size by rw [hZL]; kernel_rfl)
  have H1 := Lib.hid (show ZL.toArray.all (·.oneCell') = true by rw [hZL]; simpa using byteCells_one zeros)
  have Hb := Lib.hid (show Try.prog.built 24 [] = some ZL.toArray by rw [hZL]; exact zerosBuilt)
  have hq : ∀ w, (binOp .eql 107 (.map none) (.map none)).run Try.prog w = .ok (.bool true) w := fun w => run_eql_map_nil w _ _ _ _ Try.underlying107
  have HW1 := Lib.hid hW1
  have HW2 := Lib.hid hW2
  have Hg2 := Lib.hid hg2
  have HNL := Lib.hid hNL
  have HZL := Lib.hid hZL
  clear hW1 hW2 hg2 hNL hN1 hbw1 hN2 hZL hz1
  go_enter Try.func59, Try.ntmps59
  go_upto_region 1 with fail
  rw [show (w.alloc (.cells #[.slice A1 n1 c1, .slice A2 n2 c2, .map none] 109)) = W1 by rw [HW1.out, HNL.out]; rfl]
  rw [← Hg2.out]
  change Code.wp _ _ _ _ (W1.alloc (.cells (Lib.byteCells zeros).toArray 24))
  rw [← HZL.out, ← HW2.out]
  clear HW1 HW2 Hg2
  go_wp2_with (first
    | (refine wpList_builtP rfl _ _ rfl [] rfl ZL.toArray Hb.out ?_)
    | (refine wpList_store_row rfl _ _ _ rfl g2 ZL.toArray rfl rfl 24 ZL.toArray hR2 Hi.out rfl H1.out ?_))
  have hRF : Arr (W2.setRow g2 ZL.toArray) g2 24 ZL := hR2.setRow ZL
  have hbF : Below w.heap.size w (W2.setRow g2 ZL.toArray) := hbw2.trans (((Only.refl (fun k => k = g2) W2).setRow (.inl rfl) ZL.toArray).below hbw2.size (fun k hk => by omega))
  obtain ⟨V, hV⟩ : ∃ V, V = Value.tuple #[.agg ZL.toArray, .bool false] := ⟨_, rfl⟩
  refine bodyPost_ret (v := V) ?hx1 ?h2 ?h3
  case hx1 => rw [hV]; exact results_cell2P (fn := Try.f59) (by rfl) _ _ g2 24 ZL.toArray (0, 0) _ (by rfl) _ (by rfl) hRF Try.underlying24 rfl Hi.out
  case h2 => rfl
  case h3 => exact ⟨by rw [hV], hbF⟩

set_option maxHeartbeats 8000000 in
set_option maxRecDepth 100000 in
theorem pnext_off (told left : List UInt8) (A1 A2 A3 : Option Addr) (n1 n2 n3 c1 c2 c3 : Nat) (h1 : told.length = n1) (h3 : left.length = n3) (h31 : n1 < n3) (h3c : n3 ≤ c3) (h3m : c3 ≤ maxLen) (m mask : Nat) (s : St) (w : World) (hb1 : Bs w w.heap.size A1 told) (hb3 : Bs w w.heap.size A3 left) (hK : KidMap w m mask s 16) (hpre : left.take n1 ≠ told) (ZL : List Value) (hZL : ZL = Lib.byteCells zeros) :
    Calls Try.prog 59 #[.agg #[.slice A1 n1 c1, .slice A2 n2 c2, .map (some m)], .slice A3 n3 c3] w fun e w' => e = .returned (.tuple #[.agg ZL.toArray, .bool false]) ∧ Below w.heap.size w w' := by
  obtain ⟨NL, hNL⟩ : ∃ NL, NL = ndC (.slice A1 n1 c1) (.slice A2 n2 c2) (.map (some m)) := ⟨_, rfl⟩
  obtain ⟨W1, hW1⟩ : ∃ x, x = w.alloc (.cells NL.toArray 109) := ⟨_, rfl⟩
  have hN1 : Arr W1 w.heap.size 109 NL := by rw [hW1]; exact Arr.new w _ _
  have hbw1 : Below w.heap.size w W1 := by rw [hW1]; exact (Below.refl _ w).alloc (Nat.le_refl _) _
  have hz1 : W1.heap.size = w.heap.size + 1 := by rw [hW1]; simp
  obtain ⟨W2, hW2⟩ : ∃ x, x = W1.alloc (.cells ZL.toArray 24) := ⟨_, rfl⟩
  obtain ⟨g2, hg2⟩ : ∃ x, x = w.heap.size + 1 := ⟨_, rfl⟩
  have hN2 : Arr W2 w.heap.size 109 NL := by rw [hW2]; exact hN1.alloc _
  have hR2 : Arr W2 g2 24 ZL := by rw [hW2, hg2, ← hz1]; exact Arr.new W1 _ _
  have hbw2 : Below w.heap.size w W2 := by rw [hW2]; exact hbw1.alloc hbw1.size _
  have hgw : w.heap.size < g2 := by omega
  have hz2 : g2 < W2.heap.size := hR2.lt
  have hc2 : W2.cell? ⟨w.heap.size, 2, none⟩ = some (.map (some m)) := by rw [hN2.cell, hNL]; rfl
  have hc0 : W2.cell? ⟨w.heap.size, 0, none⟩ = some (.slice A1 n1 c1) := by rw [hN2.cell, hNL]; rfl
  have Hi := Lib.hid (show (Try.prog.info? 24).map (·.size) = some ZL.toArray.size by rw [hZL]; kernel_rfl)
  have H1 := Lib.hid (show ZL.toArray.all (·.oneCell') = true by rw [hZL]; simpa using byteCells_one zeros)
  have Hb := Lib.hid (show Try.prog.built 24 [] = some ZL.toArray by rw [hZL]; exact zerosBuilt)
  have hq : ∀ w, (binOp .eql 107 (.map (some m)) (.map none)).run Try.prog w = .ok (.bool false) w := fun w => run_eql_map_nil w _ _ _ _ Try.underlying107
  have HW1 := Lib.hid hW1
  have HW2 := Lib.hid hW2
  have Hg2 := Lib.hid hg2
  have HNL := Lib.hid hNL
  have HZL := Lib.hid hZL
  have hbt2 : Bs W2 w.heap.size A1 told := hb1.below hbw2 (Nat.le_refl _)
  have hbl2 : Bs W2 w.heap.size A3 left := hb3.below hbw2 (Nat.le_refl _)
  have hK2 : KidMap W2 m mask s 16 := hK.kept (row := some w.heap.size) ⟨hbw2.os, hbw2.tape, hbw2.output, hbw2.size, fun k hk _ => hbw2.block k hk⟩ (fun e => by have := hK.lt; injection e with e; omega)
  have Hh1 := Lib.hid h1
  have Hh3 := Lib.hid h3
  have Hpre := Lib.hid (show decide (left.take n1 = told) = false by simp [hpre])
  clear h1 h3 hb1 hb3 hK hpre
  clear hW1 hW2 hg2 hNL hN1 hbw1 hN2 hZL hz1
  go_enter Try.func59, Try.ntmps59
  go_upto_region 1 with fail
  rw [show (w.alloc (.cells #[.slice A1 n1 c1, .slice A2 n2 c2, .map (some m)] 109)) = W1 by rw [HW1.out, HNL.out]; rfl]
  rw [← Hg2.out]
  change Code.wp _ _ _ _ (W1.alloc (.cells (Lib.byteCells zeros).toArray 24))
  rw [← HZL.out, ← HW2.out]
  clear HW1 HW2 Hg2
  go_wp2_with fail
  go_at_call 76
  refine Calls.mono (hasPrefix_run w.heap.size w.heap.size A3 A1 c3 c1 n3 n1 left told W2 hbl2 hbt2 Hh3.out Hh1.out h31 h3c h3m false Hpre.out) ?_
  rintro e wx ⟨rfl, rfl⟩
  dsimp only
  go_wp2_with (first
    | (refine wpList_builtP rfl _ _ rfl [] rfl ZL.toArray Hb.out ?_)
    | (refine wpList_store_row rfl _ _ _ rfl g2 ZL.toArray rfl rfl 24 ZL.toArray hR2 Hi.out rfl H1.out ?_))
  have hRF : Arr (wx.setRow g2 ZL.toArray) g2 24 ZL := hR2.setRow ZL
  have hbF : Below w.heap.size w (wx.setRow g2 ZL.toArray) := hbw2.trans (((Only.refl (fun k => k = g2) wx).setRow (.inl rfl) ZL.toArray).below hbw2.size (fun k hk => by omega))
  obtain ⟨V, hV⟩ : ∃ V, V = Value.tuple #[.agg ZL.toArray, .bool false] := ⟨_, rfl⟩
  refine bodyPost_ret (v := V) ?hx1 ?h2 ?h3
  case hx1 => rw [hV]; exact results_cell2P (fn := Try.f59) (by rfl) _ _ g2 24 ZL.toArray (0, 0) _ (by rfl) _ (by rfl) hRF Try.underlying24 rfl Hi.out
  case h2 => rfl
  case h3 => exact ⟨by rw [hV], hbF⟩

set_option maxHeartbeats 8000000 in
set_option maxRecDepth 100000 in
theorem pnext_on (told left : List UInt8) (A1 A2 A3 : Option Addr) (n1 n2 n3 c1 c2 c3 : Nat) (h1 : told.length = n1) (h3 : left.length = n3) (h31 : n1 < n3) (h3c : n3 ≤ c3) (h3m : c3 ≤ maxLen) (m mask : Nat) (s : St) (w : World) (hb1 : Bs w w.heap.size A1 told) (hb3 : Bs w w.heap.size A3 left) (hK : KidMap w m mask s 16) (hpre : left.take n1 = told) (x : Nat) (hx : (left.getD n1 0).toNat = x) (hx16 : x < 16) (bt : Bool) (hbt : bitM mask x = bt) (DL : List Value) (hDL : DL = Lib.byteCells (if bt then kidD mask s x else zeros)) (ZL : List Value) (hZL : ZL = Lib.byteCells zeros) :
    Calls Try.prog 59 #[.agg #[.slice A1 n1 c1, .slice A2 n2 c2, .map (some m)], .slice A3 n3 c3] w fun e w' => e = .returned (.tuple #[.agg DL.toArray, .bool bt]) ∧ Below w.heap.size w w' := by
  obtain ⟨NL, hNL⟩ : ∃ NL, NL = ndC (.slice A1 n1 c1) (.slice A2 n2 c2) (.map (some m)) := ⟨_, rfl⟩
  obtain ⟨W1, hW1⟩ : ∃ x, x = w.alloc (.cells NL.toArray 109) := ⟨_, rfl⟩
  have hN1 : Arr W1 w.heap.size 109 NL := by rw [hW1]; exact Arr.new w _ _
  have hbw1 : Below w.heap.size w W1 := by rw [hW1]; exact (Below.refl _ w).alloc (Nat.le_refl _) _
  have hz1 : W1.heap.size = w.heap.size + 1 := by rw [hW1]; simp
  obtain ⟨W2, hW2⟩ : ∃ x, x = W1.alloc (.cells ZL.toArray 24) := ⟨_, rfl⟩
  obtain ⟨g2, hg2⟩ : ∃ x, x = w.heap.size + 1 := ⟨_, rfl⟩
  have hN2 : Arr W2 w.heap.size 109 NL := by rw [hW2]; exact hN1.alloc _
  have hR2 : Arr W2 g2 24 ZL := by rw [hW2, hg2, ← hz1]; exact Arr.new W1 _ _
  have hbw2 : Below w.heap.size w W2 := by rw [hW2]; exact hbw1.alloc hbw1.size _
  have hgw : w.heap.size < g2 := by omega
  have hz2 : g2 < W2.heap.size := hR2.lt
  have hc2 : W2.cell? ⟨w.heap.size, 2, none⟩ = some (.map (some m)) := by rw [hN2.cell, hNL]; rfl
  have hc0 : W2.cell? ⟨w.heap.size, 0, none⟩ = some (.slice A1 n1 c1) := by rw [hN2.cell, hNL]; rfl
  have Hi := Lib.hid (show (Try.prog.info? 24).map (·.size) = some ZL.toArray.size by rw [hZL]; kernel_rfl)
  have H1 := Lib.hid (show ZL.toArray.all (·.oneCell') = true by rw [hZL]; simpa using byteCells_one zeros)
  have Hb := Lib.hid (show Try.prog.built 24 [] = some ZL.toArray by rw [hZL]; exact zerosBuilt)
  have hq : ∀ w, (binOp .eql 107 (.map (some m)) (.map none)).run Try.prog w = .ok (.bool false) w := fun w => run_eql_map_nil w _ _ _ _ Try.underlying107
  have HW1 := Lib.hid hW1
  have HW2 := Lib.hid hW2
  have Hg2 := Lib.hid hg2
  have HNL := Lib.hid hNL
  have HZL := Lib.hid hZL
  have hbt2 : Bs W2 w.heap.size A1 told := hb1.below hbw2 (Nat.le_refl _)
  have hbl2 : Bs W2 w.heap.size A3 left := hb3.below hbw2 (Nat.le_refl _)
  have hK2 : KidMap W2 m mask s 16 := hK.kept (row := some w.heap.size) ⟨hbw2.os, hbw2.tape, hbw2.output, hbw2.size, fun k hk _ => hbw2.block k hk⟩ (fun e => by have := hK.lt; injection e with e; omega)
  have Hh1 := Lib.hid h1
  have Hh3 := Lib.hid h3
  have Hpre := Lib.hid (show decide (left.take n1 = told) = true by simp [hpre])
  clear h1 h3 hb1 hb3 hK hpre
  have Hx := Lib.hid hx
  have Hbt := Lib.hid hbt
  have HDL := Lib.hid hDL
  clear hx hbt hDL
  clear hW1 hW2 hg2 hNL hN1 hbw1  hZL hz1
  go_enter Try.func59, Try.ntmps59
  go_upto_region 1 with fail
  rw [show (w.alloc (.cells #[.slice A1 n1 c1, .slice A2 n2 c2, .map (some m)] 109)) = W1 by rw [HW1.out, HNL.out]; rfl]
  rw [← Hg2.out]
  change Code.wp _ _ _ _ (W1.alloc (.cells (Lib.byteCells zeros).toArray 24))
  rw [← HZL.out, ← HW2.out]
  clear HW1 HW2 Hg2
  go_wp2_with fail
  go_at_call 76
  refine Calls.mono (hasPrefix_run w.heap.size w.heap.size A3 A1 c3 c1 n3 n1 left told W2 hbl2 hbt2 Hh3.out Hh1.out h31 h3c h3m true Hpre.out) ?_
  rintro e wx ⟨rfl, rfl⟩
  dsimp only
  obtain ⟨b3, off3, hA3, hb3l, hcs⟩ := hbl2 (by rw [Hh3.out]; omega)
  have Hb3 := Lib.hid hb3l
  have hcx : wx.cell? ⟨b3, off3 + n1, none⟩ = some (.int .u8 (x : Nat)) := by rw [hcs n1 (by rw [Hh3.out]; exact h31), Hx.out]
  subst hA3
  have Hlk : Hid (∀ w' : World, KidMap w' m mask s 16 → (Instr.lookup 107 (.map (some m)) (.int .u8 (x : Nat)) true).run Try.prog w' = .ok (.tuple #[.agg DL.toArray, .bool bt]) w') := fun w' h => by
    have := h.look x hx16 DL (by rw [Hbt.out]; exact HDL.out)
    rw [this, Hbt.out]
  have hdl : DL.length = 32 := by
    rw [HDL.out, Lib.byteCells_length]
    split
    · exact kidD_length _ _ _
    · simp [zeros]
  have Hdi := Lib.hid (show (Try.prog.info? 24).map (·.size) = some DL.toArray.size by rw [List.size_toArray, hdl]; kernel_rfl)
  have Hd1 := Lib.hid (show DL.toArray.all (·.oneCell') = true by rw [HDL.out]; simpa using byteCells_one _)
  have Hdz := Lib.hid (show ZL.toArray.size = DL.toArray.size by rw [List.size_toArray, List.size_toArray, hdl, HZL.out, Lib.byteCells_length]; simp [zeros])
  have Hc2 : Hid (∀ w' : World, Arr w' w.heap.size 109 NL → w'.cell? ⟨w.heap.size, 2, none⟩ = some (.map (some m)) ∧ w'.cell? ⟨w.heap.size, 0, none⟩ = some (.slice A1 n1 c1)) := fun w' h => by rw [h.cell, h.cell, HNL.out]; exact ⟨rfl, rfl⟩
  unfold maxLen at h3m
  have HKm : Hid (m < wx.heap.size) := hK2.lt
  clear hdl hcs hbl2 hbt2 hc2 hc0 hb3l
  go_upto_region 3 with fail
  refine wp_region_held_drew (S := fun w' => Arr w' w.heap.size 109 NL ∧ KidMap w' m mask s 16 ∧ w'.cell? ⟨b3, off3 + n1, none⟩ = some (.int .u8 (x : Nat))) (by kernel_rfl) ⟨hN2.drewN 1, hK2.drewN 1, hcx⟩ (fun hHeld => ?_)
  refine anyH_take (i := 0) (v := .pointer (some ⟨w.heap.size, 2, none⟩)) (some 20) rfl rfl (by kernel_rfl) (by kernel_rfl) (by kernel_rfl) (fun _ _ _ h => h) (Or.inl ⟨by rfl, fun w' hw => by go_simp⟩) (by assumption) ?_
  simp only [Act.put, List.setIfInBounds_toArray, List.set_cons_zero, List.set_cons_succ]
  refine anyH_take (i := 1) (v := .map (some m)) (some 21) rfl rfl (by kernel_rfl) (by kernel_rfl) (by kernel_rfl) (fun _ _ _ h => h) (Or.inl ⟨by rfl, fun w' hw => by (have hc := Hc2.out w' hw.1; have hc2 := hc.1; have hc0 := hc.2; go_simp)⟩) (by assumption) ?_
  simp only [Act.put, List.setIfInBounds_toArray, List.set_cons_zero, List.set_cons_succ]
  refine anyH_take (i := 2) (v := .slice (some ⟨b3, off3, none⟩) n3 c3) (some 22) rfl rfl (by kernel_rfl) (by kernel_rfl) (by kernel_rfl) (fun _ _ _ h => h) (Or.inl ⟨by rfl, fun w' hw => by go_simp⟩) (by assumption) ?_
  simp only [Act.put, List.setIfInBounds_toArray, List.set_cons_zero, List.set_cons_succ]
  refine anyH_take (i := 3) (v := .pointer (some ⟨w.heap.size, 0, none⟩)) (some 23) rfl rfl (by kernel_rfl) (by kernel_rfl) (by kernel_rfl) (fun _ _ _ h => h) (Or.inl ⟨by rfl, fun w' hw => by go_simp⟩) (by assumption) ?_
  simp only [Act.put, List.setIfInBounds_toArray, List.set_cons_zero, List.set_cons_succ]
  refine anyH_take (i := 4) (v := .slice A1 n1 c1) (some 24) rfl rfl (by kernel_rfl) (by kernel_rfl) (by kernel_rfl) (fun _ _ _ h => h) (Or.inl ⟨by rfl, fun w' hw => by (have hc := Hc2.out w' hw.1; have hc2 := hc.1; have hc0 := hc.2; go_simp)⟩) (by assumption) ?_
  simp only [Act.put, List.setIfInBounds_toArray, List.set_cons_zero, List.set_cons_succ]
  refine anyH_take (i := 5) (v := .int .i64 (n1 : Nat)) (some 25) rfl rfl (by kernel_rfl) (by kernel_rfl) (by kernel_rfl) (fun _ _ _ h => h) (Or.inl ⟨by rfl, fun w' hw => by go_simp⟩) (by assumption) ?_
  simp only [Act.put, List.setIfInBounds_toArray, List.set_cons_zero, List.set_cons_succ]
  refine anyH_take (i := 6) (v := .pointer (some ⟨b3, off3 + n1, none⟩)) (some 26) rfl rfl (by kernel_rfl) (by kernel_rfl) (by kernel_rfl) (fun _ _ _ h => h) (Or.inl ⟨by rfl, fun w' hw => by go_simp⟩) (by assumption) ?_
  simp only [Act.put, List.setIfInBounds_toArray, List.set_cons_zero, List.set_cons_succ]
  refine anyH_take (i := 7) (v := .int .u8 (x : Nat)) (some 27) rfl rfl (by kernel_rfl) (by kernel_rfl) (by kernel_rfl) (fun _ _ _ h => h) (Or.inl ⟨by rfl, fun w' hw => by (have hc := hw.2.2; go_simp)⟩) (by assumption) ?_
  simp only [Act.put, List.setIfInBounds_toArray, List.set_cons_zero, List.set_cons_succ]
  refine anyH_take (i := 8) (v := .tuple #[.agg DL.toArray, .bool bt]) (some 28) rfl rfl (by kernel_rfl) (by kernel_rfl) (by kernel_rfl) (fun _ _ _ h => h) (Or.inl ⟨by rfl, fun w' hw => by (have hl := Hlk.out w' hw.2.1; go_simp)⟩) (by assumption) ?_
  simp only [Act.put, List.setIfInBounds_toArray, List.set_cons_zero, List.set_cons_succ]
  refine anyH_take (i := 9) (v := .tuple #[.agg DL.toArray, .bool bt]) (some 19) rfl rfl (by kernel_rfl) (by kernel_rfl) (by kernel_rfl) (fun _ _ _ h => h) (Or.inl ⟨by rfl, fun w' hw => by go_simp⟩) (by assumption) ?_
  simp only [Act.put, List.setIfInBounds_toArray, List.set_cons_zero, List.set_cons_succ]
  refine anyH_take (i := 10) (v := .agg DL.toArray) (some 29) rfl rfl (by kernel_rfl) (by kernel_rfl) (by kernel_rfl) (fun _ _ _ h => h) (Or.inl ⟨by rfl, fun w' hw => by go_simp⟩) (by assumption) ?_
  simp only [Act.put, List.setIfInBounds_toArray, List.set_cons_zero, List.set_cons_succ]
  refine anyH_take (i := 11) (v := .bool bt) (some 30) rfl rfl (by kernel_rfl) (by kernel_rfl) (by kernel_rfl) (fun _ _ _ h => h) (Or.inl ⟨by rfl, fun w' hw => by go_simp⟩) (by assumption) ?_
  simp only [Act.put, List.setIfInBounds_toArray, List.set_cons_zero, List.set_cons_succ]
  obtain ⟨g6, hg6⟩ : ∃ g, g = wx.heap.size := ⟨_, rfl⟩
  obtain ⟨W3, hW3⟩ : ∃ W, W = (wx.drewN 1).alloc (.cells ZL.toArray 24) := ⟨_, rfl⟩
  have hD3 : Arr W3 g6 24 ZL := by rw [hW3, hg6]; exact Arr.new (wx.drewN 1) _ _
  have hg26 : g2 < g6 := by rw [hg6]; exact hz2
  have hb3 : Below wx.heap.size wx W3 := by rw [hW3]; exact (Below.dN (Below.refl wx.heap.size wx) 1).alloc (Nat.le_refl _) _
  have hN3 : Arr W3 w.heap.size 109 NL := hN2.below hb3 (by omega)
  have hR3 : Arr W3 g2 24 ZL := hR2.below hb3 hz2
  have hK3 : KidMap W3 m mask s 16 := hK2.kept (row := some wx.heap.size) ⟨hb3.os, hb3.tape, hb3.output, hb3.size, fun k hk _ => hb3.block k hk⟩ (fun e => by have := hK2.lt; injection e with e; omega)
  have hc3 : W3.cell? ⟨b3, off3 + n1, none⟩ = some (.int .u8 (x : Nat)) := by
    rw [← hcx]
    exact World.cell?_of_block (hb3.block b3 (World.block_lt_of_cell? wx _ hcx))
  have hbw3 : Below w.heap.size w W3 := hbw2.trans (hb3.mono hbw2.size)
  have Hmg : Hid (m < g6) := by show _ < _; rw [hg6]; exact HKm.out
  have HW3 := Lib.hid hW3
  have Hg6 := Lib.hid hg6
  clear hW3 hg6 hb3 hN2 hR2 hK2 hcx hbw2
  refine wpAnyH_ready (rs := [12]) (by kernel_rfl) (by simp) ?_
  refine AllReadyH.cons rfl (fun K hK => ?_) AllReadyH.nil
  go_simp
  rw [← Hg6.out]
  change K _ ((wx.drewN 1).alloc (.cells (Lib.byteCells zeros).toArray 24))
  rw [← HZL.out, ← HW3.out]
  refine hK.out _ _ ⟨hN3, hK3, hc3⟩ (fun hHeldx => ?_)
  clear hK K
  try simp only [Act.put, List.setIfInBounds_toArray, List.set_cons_zero, List.set_cons_succ]
  have hth : W3.there g6 0 DL.toArray.size := Arr.thereP hD3 (by rw [← Hdz.out, List.size_toArray]; exact Nat.le_refl _)
  have hD4 := Arr.setCells DL 0 ZL W3 hD3 (by have := Hdz.out; simp only [List.size_toArray] at this; omega)
  rw [List.take_zero, List.nil_append] at hD4
  have hO4 : Only (fun k => k = g6) W3 (W3.setCells g6 0 DL) := Only.setCells (R := fun k => k = g6) rfl DL 0 W3 (Only.refl _ _)
  obtain ⟨W4, hW4⟩ : ∃ W, W = W3.setCells g6 0 DL := ⟨_, rfl⟩
  rw [← hW4] at hD4 hO4
  have hN4 : Arr W4 w.heap.size 109 NL := hN3.only hO4 (by omega)
  have hR4 : Arr W4 g2 24 ZL := hR3.only hO4 (by omega)
  have hK4 : KidMap W4 m mask s 16 := hK3.kept hO4.grown (fun e => by have := Hmg.out; injection e with e; omega)
  have hc4 : W4.cell? ⟨b3, off3 + n1, none⟩ = some (.int .u8 (x : Nat)) := by
    rw [← hc3]
    exact World.cell?_of_block (hO4.block b3 (World.block_lt_of_cell? W3 _ hc3) (by have := Hb3.out; omega))
  have hbw4 : Below w.heap.size w W4 := hbw3.trans (hO4.below hbw3.size (fun k hk => by omega))
  have HW4 := Lib.hid hW4
  clear hW4 hN3 hR3 hK3 hc3 hbw3 hD3 hO4
  refine wpAnyH_ready (rs := [13]) (by kernel_rfl) (by simp) ?_
  refine AllReadyH.cons rfl (fun K hK => ?_) AllReadyH.nil
  rw [if_pos (by rfl)]
  refine store_toP rfl 24 _ _ rfl g6 0 DL.toArray rfl rfl hth Hdi.out Hd1.out ?_
  try rw [show DL.toArray.toList = DL from rfl]
  rw [← HW4.out]
  refine hK.out _ _ ⟨hN4, hK4, hc4⟩ (fun hHeldx => ?_)
  clear hK K
  try simp only [Act.put, List.setIfInBounds_toArray, List.set_cons_zero, List.set_cons_succ]
  refine anyH_take (i := 14) (v := .bool bt) (some 7) rfl rfl (by kernel_rfl) (by kernel_rfl) (by kernel_rfl) (fun _ _ _ h => h) (Or.inl ⟨by rfl, fun w' hw => by go_simp⟩) (by assumption) ?_
  simp only [Act.put, List.setIfInBounds_toArray, List.set_cons_zero, List.set_cons_succ]
  refine wpAnyH_done (by kernel_rfl) ?_ _
  clear hHeld hHeldx
  go_wp2_with (first
    | (refine wpList_load_row rfl _ _ rfl g6 rfl 24 DL.toArray (0, 0) _ hD4 Try.underlying24 rfl Hdi.out ?_)
    | (refine wpList_store_row rfl _ _ _ rfl g2 DL.toArray rfl rfl 24 ZL.toArray hR4 Hdi.out Hdz.out Hd1.out ?_))
  have hRF : Arr (W4.setRow g2 DL.toArray) g2 24 DL := hR4.setRow DL
  have hbF : Below w.heap.size w (W4.setRow g2 DL.toArray) := hbw4.trans (((Only.refl (fun k => k = g2) W4).setRow (.inl rfl) DL.toArray).below hbw4.size (fun k hk => by omega))
  obtain ⟨V, hV⟩ : ∃ V, V = Value.tuple #[.agg DL.toArray, .bool bt] := ⟨_, rfl⟩
  refine bodyPost_ret (v := V) ?hx1 ?h2 ?h3
  case hx1 => rw [hV]; exact results_cell2P (fn := Try.f59) (by rfl) _ _ g2 24 DL.toArray (0, 0) _ (by rfl) _ (by rfl) hRF Try.underlying24 rfl Hdi.out
  case h2 => rfl
  case h3 => exact ⟨by rw [hV], hbF⟩

set_option maxHeartbeats 8000000 in
set_option maxRecDepth 100000 in
theorem shown_leaf (told left : List UInt8) (A1 A2 A3 : Option Addr) (n1 n2 n3 c1 c2 c3 : Nat) (h1 : told.length = n1) (h3 : left.length = n3) (w : World) (hb1 : Bs w w.heap.size A1 told) (hb3 : Bs w w.heap.size A3 left) (r : Bool) (hr : decide (told = left) = r) :
    Calls Try.prog 60 #[.agg #[.slice A1 n1 c1, .slice A2 n2 c2, .map none], .slice A3 n3 c3] w fun e w' => e = .returned (.tuple #[(if r then .slice A2 n2 c2 else .slice none 0 0), .bool r]) ∧ Below w.heap.size w w' := by
  obtain ⟨NL, hNL⟩ : ∃ NL, NL = ndC (.slice A1 n1 c1) (.slice A2 n2 c2) (.map none) := ⟨_, rfl⟩
  obtain ⟨W1, hW1⟩ : ∃ x, x = w.alloc (.cells NL.toArray 109) := ⟨_, rfl⟩
  have hN1 : Arr W1 w.heap.size 109 NL := by rw [hW1]; exact Arr.new w _ _
  have hbw1 : Below w.heap.size w W1 := by rw [hW1]; exact (Below.refl _ w).alloc (Nat.le_refl _) _
  have hc2 : W1.cell? ⟨w.heap.size, 2, none⟩ = some (.map none) := by rw [hN1.cell, hNL]; rfl
  have hc1 : W1.cell? ⟨w.heap.size, 1, none⟩ = some (.slice A2 n2 c2) := by rw [hN1.cell, hNL]; rfl
  have hc0 : W1.cell? ⟨w.heap.size, 0, none⟩ = some (.slice A1 n1 c1) := by rw [hN1.cell, hNL]; rfl
  have hq : ∀ w, (binOp .neq 107 (.map none) (.map none)).run Try.prog w = .ok (.bool false) w := fun w => run_neq_map_nil w _ _ _ _ Try.underlying107
  have HW1 := Lib.hid hW1
  have HNL := Lib.hid hNL
  have hbt : Bs W1 w.heap.size A1 told := hb1.below hbw1 (Nat.le_refl _)
  have hbl : Bs W1 w.heap.size A3 left := hb3.below hbw1 (Nat.le_refl _)
  have Hh1 := Lib.hid h1
  have Hh3 := Lib.hid h3
  have Hr := Lib.hid hr
  clear h1 h3 hr hb1 hb3
  clear hW1 hNL hN1
  go_enter Try.func60, Try.ntmps60
  go_upto_region 1 with fail
  rw [show (w.alloc (.cells #[.slice A1 n1 c1, .slice A2 n2 c2, .map none] 109)) = W1 by rw [HW1.out, HNL.out]; rfl]
  clear HW1 HNL
  go_wp2_with fail
  go_at_call 77
  refine Calls.mono (bequal_run w.heap.size w.heap.size A1 A3 c1 c3 n1 n3 told left W1 hbt hbl Hh1.out Hh3.out r Hr.out) ?_
  rintro e wx ⟨rfl, rfl⟩
  dsimp only
  cases r with
  | true =>
    go_wp2_with fail
    go_ret2
    exact ⟨rfl, hbw1⟩
  | false =>
    go_wp2_with fail
    go_ret2
    exact ⟨rfl, hbw1⟩

set_option maxHeartbeats 8000000 in
set_option maxRecDepth 100000 in
theorem shown_branch (A1 A2 A3 : Option Addr) (n1 n2 n3 c1 c2 c3 m : Nat) (w : World) :
    Calls Try.prog 60 #[.agg #[.slice A1 n1 c1, .slice A2 n2 c2, .map (some m)], .slice A3 n3 c3] w fun e w' => e = .returned (.tuple #[.slice none 0 0, .bool false]) ∧ Below w.heap.size w w' := by
  obtain ⟨NL, hNL⟩ : ∃ NL, NL = ndC (.slice A1 n1 c1) (.slice A2 n2 c2) (.map (some m)) := ⟨_, rfl⟩
  obtain ⟨W1, hW1⟩ : ∃ x, x = w.alloc (.cells NL.toArray 109) := ⟨_, rfl⟩
  have hN1 : Arr W1 w.heap.size 109 NL := by rw [hW1]; exact Arr.new w _ _
  have hbw1 : Below w.heap.size w W1 := by rw [hW1]; exact (Below.refl _ w).alloc (Nat.le_refl _) _
  have hc2 : W1.cell? ⟨w.heap.size, 2, none⟩ = some (.map (some m)) := by rw [hN1.cell, hNL]; rfl
  have hc1 : W1.cell? ⟨w.heap.size, 1, none⟩ = some (.slice A2 n2 c2) := by rw [hN1.cell, hNL]; rfl
  have hc0 : W1.cell? ⟨w.heap.size, 0, none⟩ = some (.slice A1 n1 c1) := by rw [hN1.cell, hNL]; rfl
  have hq : ∀ w, (binOp .neq 107 (.map (some m)) (.map none)).run Try.prog w = .ok (.bool true) w := fun w => run_neq_map_nil w _ _ _ _ Try.underlying107
  have HW1 := Lib.hid hW1
  have HNL := Lib.hid hNL
  clear hW1 hNL hN1
  go_enter Try.func60, Try.ntmps60
  go_upto_region 1 with fail
  rw [show (w.alloc (.cells #[.slice A1 n1 c1, .slice A2 n2 c2, .map (some m)] 109)) = W1 by rw [HW1.out, HNL.out]; rfl]
  clear HW1 HNL
  go_wp2_with fail
  go_ret2
  exact ⟨rfl, hbw1⟩

end Go.Proofs.Ytlailhjpfadpcaa

namespace Go.Proofs.Ytlailhjpfadpcaa
open Go.RowKit
set_option linter.unusedVariables false
set_option linter.unusedSimpArgs false

/-- What take gives of a node. -/
def TookP (w' : World) (d : NdR) (V : Value) : Prop :=
  ∃ A1 c1 A2 c2 M, V = .agg #[.slice A1 d.told.length c1, .slice A2 d.value.length c2, .map M] ∧ d.told.length ≤ c1 ∧ c1 ≤ maxLen ∧ d.value.length ≤ c2 ∧ c2 ≤ maxLen ∧ Bs w' w'.heap.size A1 d.told ∧ Bs w' w'.heap.size A2 d.value ∧
    (d.leaf = true → M = none) ∧ (d.leaf = false → ∃ m, M = some m ∧ KidMap w' m d.mask d.st 16)

theorem take_run (b : List UInt8) (A : Option Addr) (n c left : Nat) (hn : b.length = n) (hn2 : n ≤ 1000000) (hl : left ≤ 64) (w : World) (hA : Bs w w.heap.size A b) (d : NdR) (hd : ndR left 9223372036854775807 b = d) (r : Bool) (hr : d.ok left = r) :
    Calls Try.prog 58 #[.slice A n c, .int .i64 (left : Nat)] w fun e w' => ∃ V, e = .returned (.tuple #[V, .bool r]) ∧ TookP w' d V ∧ Below w.heap.size w w' := by
  obtain ⟨kd, l1, b1, hk⟩ : ∃ kd l1 b1, numS 1 (b, false) = (kd, l1, b1) := ⟨_, _, _, rfl⟩
  obtain ⟨told, l2, b2, ht⟩ : ∃ told l2 b2, bytS left (l1, b1) = (told, l2, b2) := ⟨_, _, _, rfl⟩
  have hd0 := hd
  unfold ndR at hd0
  rw [hk] at hd0
  simp only [ht] at hd0
  by_cases h0 : kd = 0
  · subst h0
    rw [if_pos rfl] at hd0
    obtain ⟨val, l3, b3, hv⟩ : ∃ val l3 b3, bytS 9223372036854775807 (l2, b2) = (val, l3, b3) := ⟨_, _, _, rfl⟩
    rw [hv] at hd0
    simp only at hd0
    subst hd0
    refine (take_leaf b A n c left hn hn2 hl w hA l1 l2 l3 told val b1 b2 b3 hk ht hv _ _ _ rfl rfl rfl).mono ?_
    rintro e w' ⟨A1, c1, A2, c2, rfl, h1, h2, h3, h4, h5, h6, h7⟩
    refine ⟨_, ?_, ⟨A1, c1, A2, c2, none, rfl, h1, h2, h3, h4, h5, h6, fun _ => rfl, fun h => by cases h⟩, h7⟩
    rw [← hr]
    unfold NdR.ok NdR.fits
    simp only [if_true]
    rfl
  · rw [if_neg h0] at hd0
    obtain ⟨mask, s2, hm⟩ : ∃ mask s2, numS 65535 (l2, b2) = (mask, s2) := ⟨_, _, rfl⟩
    rw [hm] at hd0
    simp only at hd0
    obtain ⟨l3, b3, hf⟩ : ∃ l3 b3, kidS mask s2 16 = (l3, b3) := ⟨_, _, rfl⟩
    rw [hf] at hd0
    subst hd0
    refine (take_branch b A n c left hn hn2 hl w hA l1 l2 l3 told b1 b2 b3 kd mask s2 (by omega) hk ht hm hf _ _ _ rfl rfl rfl).mono ?_
    rintro e w' ⟨A1, c1, m, rfl, h1, h2, h5, h6, h7⟩
    refine ⟨_, ?_, ⟨A1, c1, none, 0, some m, rfl, h1, h2, Nat.le_refl _, by unfold maxLen; omega, h5, Bs.nil _ _ _, (fun h => by cases h), fun _ => ⟨m, rfl, h6⟩⟩, h7⟩
    rw [← hr]
    unfold NdR.ok NdR.fits
    simp

/-- A node that is taken has less told than is left, or all of it. -/
theorem ok_told {d : NdR} {left : Nat} (h : d.ok left = true) : (d.leaf = true → d.told.length = left) ∧ (d.leaf = false → d.told.length < left) := by
  unfold NdR.ok NdR.fits at h
  simp only [Bool.and_eq_true] at h
  have hf := h.1.1
  constructor
  · intro hl
    rw [if_pos hl] at hf
    simpa using hf
  · intro hl
    rw [if_neg (by rw [hl]; simp)] at hf
    simp at hf
    exact hf.1

theorem restF_take (k : List UInt8) {t u v : Nat} (h1 : t ≤ u) (h2 : u ≤ v) : (restF k t v).take (u - t) = restF k t u := by
  unfold restF
  rw [← List.map_take, List.take_range]
  congr 2
  omega
theorem restF_drop (k : List UInt8) {t u v : Nat} (h1 : t ≤ u) (h2 : u ≤ v) : (restF k t v).drop (u - t) = restF k u v := by
  refine List.ext_getElem ?_ fun j h3 h4 => ?_
  · rw [List.length_drop, restF_length, restF_length]; omega
  · simp only [restF, List.getElem_drop, List.getElem_map, List.getElem_range]
    rw [show t + (u - t + j) = u + j by omega]
theorem restF_get (k : List UInt8) {t u v : Nat} (h1 : t ≤ u) (h2 : u < v) : ((restF k t v).getD (u - t) 0).toNat = nibF k u := by
  have hl : u - t < (restF k t v).length := by rw [restF_length]; omega
  rw [← List.getElem_eq_getD (h := hl) 0]
  simp only [restF, List.getElem_map, List.getElem_range]
  rw [show t + (u - t) = u by omega]
  have := nibF_lt k u
  simp [Nat.toUInt8, UInt8.toNat_ofNat']
  omega

theorem RowsAt.cutA1 {w : World} {B : Nat} {A : Option Addr} {rs : List (List UInt8)} {b : List UInt8} {c : Nat} (h : RowsAt w B A (b :: rs)) (hc : rs.length + 1 ≤ c) : RowsAt w B (cutA A c 1) rs := fun hn => by
  obtain ⟨blk, off, rfl, hb, hr⟩ := h (by simp)
  refine ⟨blk, off + 1, ?_, hb, fun i hi => ?_⟩
  · unfold cutA
    rw [if_neg (by omega)]
    simp [Addr.add]
  · obtain ⟨A', c', h1, h2, h3, h4⟩ := hr (i + 1) (by simp; omega)
    refine ⟨A', c', ?_, h2, h3, h4⟩
    rw [show off + 1 + i = off + (i + 1) by omega]
    exact h1

/-- What nodes show, as values: none: nothing; some none: it isn't there. -/
def ShownP (w' : World) (r : Option (Option (List UInt8))) (V : Value) : Prop :=
  match r with
  | none => V = .tuple #[.slice none 0 0, .bool false, .int .i64 3]
  | some none => V = .tuple #[.slice none 0 0, .bool false, .int .i64 0]
  | some (some v) => ∃ A c, V = .tuple #[.slice A v.length c, .bool true, .int .i64 0] ∧ v.length ≤ c ∧ c ≤ maxLen ∧ Bs w' w'.heap.size A v
theorem ShownP.tuple {w' : World} {r : Option (Option (List UInt8))} {V : Value} (h : ShownP w' r V) : ∃ a b c, V = .tuple #[a, b, c] := by
  unfold ShownP at h
  split at h
  · exact ⟨_, _, _, h⟩
  · exact ⟨_, _, _, h⟩
  · obtain ⟨A, c, h1, _⟩ := h
    exact ⟨_, _, _, h1⟩
theorem ShownP.below {w w' : World} {r : Option (Option (List UInt8))} {V : Value} (h : ShownP w r V) (hb : Below w.heap.size w w') : ShownP w' r V := by
  unfold ShownP at *
  split
  · exact h
  · exact h
  · obtain ⟨A, c, h1, h2, h3, h4⟩ := h
    exact ⟨A, c, h1, h2, h3, (h4.below hb (Nat.le_refl _)).more hb.size⟩

end Go.Proofs.Ytlailhjpfadpcaa

/-
  blob's Read.
-/
import Derived.Test.YtongmiebojilfaaBlobEq
import Derived.Test.YtongmiebojilfaaGen
namespace Go.Proofs.Ytongmiebojilfaa
open Go.RowKit
set_option linter.unusedVariables false
set_option linter.unusedSimpArgs false

/-- What Read has got after i sectors. -/
def gotF (S : List (List UInt8)) (a n : Nat) : Nat → List UInt8
  | 0 => List.replicate n 0
  | i + 1 => (gotF S a n i).take (64 * i) ++ (S.getD (a + i) []).take (n - 64 * i) ++ (gotF S a n i).drop (64 * i + ((S.getD (a + i) []).take (n - 64 * i)).length)
theorem gotF_length (S : List (List UInt8)) (a n : Nat) (h64 : ∀ s ∈ S, s.length = 64) (i : Nat) (hi : i ≤ secsF n) : (gotF S a n i).length = n := by
  induction i with
  | zero => simp [gotF]
  | succ i ih =>
    have h1 := ih (by omega)
    rw [gotF]
    simp only [List.length_append, List.length_take, List.length_drop, h1]
    have : 64 * i ≤ n := by unfold secsF at hi; omega
    omega

theorem Arr.bsB {w : World} {g : Nat} {T : TypeId} {l : List UInt8} (h : Arr w g T (Lib.byteCells l)) : Bs w w.heap.size (some ⟨g, 0, none⟩) l := fun _ => ⟨g, 0, rfl, h.lt, fun j hj => by rw [Nat.zero_add, h.cell]; exact byteCells_get hj⟩

theorem rep_take {n k : Nat} : (List.replicate n (0 : UInt8)).take k = List.replicate (min k n) 0 := by rw [List.take_replicate]
/-- The bytes of the first i sectors from a on. -/
def firstF (S : List (List UInt8)) (a i : Nat) : List UInt8 := (List.range i).flatMap fun j => S.getD (a + j) []
theorem firstF_succ (S : List (List UInt8)) (a i : Nat) : firstF S a (i + 1) = firstF S a i ++ S.getD (a + i) [] := by
  unfold firstF
  rw [List.range_succ, List.flatMap_append]
  simp
theorem firstF_length {S : List (List UInt8)} {a i : Nat} (h64 : ∀ s ∈ S, s.length = 64) (h : a + i ≤ S.length) : (firstF S a i).length = 64 * i := by
  induction i with
  | zero => rfl
  | succ i ih =>
    rw [firstF_succ, List.length_append, ih (by omega)]
    have : (S.getD (a + i) []).length = 64 := h64 _ (by simp [List.getD, show a + i < S.length by omega])
    omega
theorem gotF_eq {S : List (List UInt8)} {a n : Nat} (h64 : ∀ s ∈ S, s.length = 64) {i : Nat} (hi : i ≤ secsF n) (h : a + i ≤ S.length) : gotF S a n i = (firstF S a i).take n ++ List.replicate (n - 64 * i) 0 := by
  induction i with
  | zero => simp [gotF, firstF]
  | succ i ih =>
    have hl := firstF_length (a := a) (i := i) h64 (by omega)
    have hs : (S.getD (a + i) []).length = 64 := h64 _ (by simp [List.getD, show a + i < S.length by omega])
    have hin : 64 * i ≤ n := by unfold secsF at hi; omega
    have e0 : (firstF S a i).take n = firstF S a i := List.take_of_length_le (by omega)
    have l1 : (firstF S a i ++ List.replicate (n - 64 * i) (0 : UInt8)).take (64 * i) = firstF S a i := by rw [← hl, List.take_left]
    have l2 : ∀ k, (firstF S a i ++ List.replicate (n - 64 * i) (0 : UInt8)).drop (64 * i + k) = (List.replicate (n - 64 * i) (0 : UInt8)).drop k := fun k => by rw [← hl, List.drop_length_add_append]
    have r1 : (firstF S a i ++ S.getD (a + i) []).take n = firstF S a i ++ (S.getD (a + i) []).take (n - 64 * i) := by rw [List.take_append, e0, hl]
    rw [gotF, ih (by omega) (by omega), e0, l1, l2, firstF_succ, r1, List.length_take, hs, List.drop_replicate]
    congr 2
    omega
theorem gotF_all {S : List (List UInt8)} {a n : Nat} (h64 : ∀ s ∈ S, s.length = 64) (h : a + secsF n ≤ S.length) : gotF S a n (secsF n) = getF S a n := by
  rw [gotF_eq h64 (Nat.le_refl _) h, show n - 64 * secsF n = 0 by have := secsF_last (n := n); omega, List.replicate_zero, List.append_nil]
  rfl
theorem getF_length {S : List (List UInt8)} {a n : Nat} (h64 : ∀ s ∈ S, s.length = 64) (h : a + secsF n ≤ S.length) : (getF S a n).length = n := by
  rw [← gotF_all h64 h, gotF_length S a n h64 _ (Nat.le_refl _)]

theorem putF_at {S : List (List UInt8)} {a : Nat} (b : List UInt8) {i j : Nat} (h : a + i ≤ S.length) (hj : j < i) : (putF S a b i).getD (a + j) [] = secAtF b j := by
  induction i with
  | zero => omega
  | succ i ih =>
    rw [putF]
    by_cases e : j = i
    · subst e
      simp [List.getD, putF_length, show a + j < S.length by omega]
    · have := ih (by omega) (by omega)
      rw [← this]
      simp only [List.getD]
      rw [List.getElem?_set_ne (by omega)]
theorem putF_off {S : List (List UInt8)} {a : Nat} (b : List UInt8) {i k : Nat} (hk : k < a ∨ a + i ≤ k) : (putF S a b i)[k]? = S[k]? := by
  induction i with
  | zero => rfl
  | succ i ih => rw [putF, List.getElem?_set_ne (by omega), ih (by omega)]
theorem putF_64 {S : List (List UInt8)} {a : Nat} (b : List UInt8) {i : Nat} (h64 : ∀ s ∈ S, s.length = 64) : ∀ s ∈ putF S a b i, s.length = 64 := by
  induction i with
  | zero => exact h64
  | succ i ih =>
    intro s hs
    rcases List.mem_or_eq_of_mem_set hs with h | h
    · exact ih s h
    · rw [h]; exact secAtF_length _ _
theorem laid_first (b : List UInt8) (i : Nat) : ((List.range i).flatMap fun j => secAtF b j) = b.take (64 * i) ++ List.replicate (64 * i - b.length) 0 := by
  induction i with
  | zero => simp
  | succ i ih =>
    rw [List.range_succ, List.flatMap_append, ih]
    simp only [List.flatMap_cons, List.flatMap_nil, List.append_nil]
    unfold secAtF
    have e : b.take (64 * (i + 1)) = b.take (64 * i) ++ (b.drop (64 * i)).take 64 := by rw [show 64 * (i + 1) = 64 * i + 64 by omega, List.take_add]
    rw [e]
    by_cases h : 64 * i ≤ b.length
    · rw [show 64 * i - b.length = 0 by omega, List.replicate_zero, List.append_nil, List.append_assoc]
      congr 3
      rw [List.length_take, List.length_drop]
      omega
    · have h0 : b.drop (64 * i) = [] := List.drop_eq_nil_of_le (by omega)
      rw [h0]
      simp only [List.take_nil, List.length_nil, Nat.sub_zero, List.append_nil, List.nil_append, List.append_assoc, List.replicate_append_replicate]
      congr 2
      omega
/-- What was written is there. -/
theorem put_get {S : List (List UInt8)} {a : Nat} (b : List UInt8) (h : a + secsF b.length ≤ S.length) : getF (putF S a b (secsF b.length)) a b.length = b := by
  have e : ((List.range (secsF b.length)).flatMap fun j => (putF S a b (secsF b.length)).getD (a + j) []) = (List.range (secsF b.length)).flatMap fun j => secAtF b j := by
    rw [List.flatMap_def, List.flatMap_def]
    congr 1
    refine List.map_congr_left fun j hj => ?_
    exact putF_at b h (List.mem_range.1 hj)
  unfold getF
  rw [e, laid_first]
  have := secsF_last (n := b.length)
  rw [List.take_of_length_le (by omega : b.length ≤ 64 * secsF b.length), List.take_left]

/-- What is seen of a disk. -/
structure SeenW (w : World) (k gs n : Nat) (S : List (List UInt8)) : Prop where
  c0 : w.cell? ⟨k, 0, none⟩ = some (.slice (some ⟨gs, 0, none⟩) n n)
  hs : Arr w gs 30 (secC S)
  n2 : n ≤ 65536
  lS : S.length = n
  s64 : ∀ s ∈ S, s.length = 64
  klt : k < w.heap.size
theorem SeenW.kept {w w' : World} {k gs n : Nat} {S : List (List UInt8)} (h : SeenW w k gs n S) (hs : w.heap.size ≤ w'.heap.size) (hb : ∀ b, (b = k ∨ b = gs) → w'.heap[b]? = w.heap[b]?) : SeenW w' k gs n S :=
  ⟨(World.cell?_of_block (hb k (.inl rfl))).trans h.c0, (hb gs (.inr rfl)).trans h.hs, h.n2, h.lS, h.s64, Nat.lt_of_lt_of_le h.klt hs⟩
theorem SeenW.lt {w : World} {k gs n : Nat} {S : List (List UInt8)} (h : SeenW w k gs n S) : ∀ b, (b = k ∨ b = gs) → b < w.heap.size := fun b hb => hb.elim (fun e => e ▸ h.klt) (fun e => e ▸ h.hs.lt)
theorem Disk.seen {w : World} {F : Nat → Prop} {k n : Nat} {S L : List (List UInt8)} {W : List WrF} {fu : Bool} {left : Int} (h : Disk w F k n S L W fu left) : ∃ gs, SeenW w k gs n S := by
  obtain ⟨gs, gl, bm, vw, base, nm, D, hD, hr⟩ := h
  exact ⟨gs, hD.c0, hD.hs, hD.n2, hD.lS, hD.s64, hD.Flt k hD.Fk⟩

set_option maxHeartbeats 8000000 in
set_option maxRecDepth 100000 in
theorem bread_seen (k gs n a : Nat) (S : List (List UInt8)) (d : List UInt8) (DL : List Value) (m : Nat) (w : World) (hD : SeenW w k gs n S) (ok : Bool) (hd : d.length = 32) (hm2 : m ≤ 65536) (ha : a + secsF m ≤ n) (hDL : DL = refC d a m)
    (hok : decide (blobDig (gotF S a m (secsF m)) = d) = ok) :
    Calls Try.prog 14 #[.pointer (some ⟨k, 0, none⟩), .agg DL.toArray] w fun e w' => (ok = true → ∃ g, e = .returned (.tuple #[.slice (some ⟨g, 0, none⟩) m m, .int .i64 0]) ∧ Arr w' g 5 (Lib.byteCells (gotF S a m (secsF m))) ∧ w.heap.size ≤ g) ∧ (ok = false → e = .returned (.tuple #[.slice none 0 0, .int .i64 7])) ∧ Below w.heap.size w w' := by
  obtain ⟨W1, hW1⟩ : ∃ x, x = w.alloc (.cells DL.toArray 36) := ⟨_, rfl⟩
  have hR1 : Arr W1 w.heap.size 36 DL := by rw [hW1]; exact Arr.new w _ _
  have hW1s : W1.heap.size = w.heap.size + 1 := by rw [hW1]; simp
  have hb1 : Below w.heap.size w W1 := by rw [hW1]; exact (Below.refl _ w).alloc (Nat.le_refl _) _
  have HW1 := Lib.hid hW1
  clear hW1
  have hn2 := hD.n2
  have hD1 := hD.kept hb1.size (fun b hF => hb1.block b (hD.lt b hF))
  have h32 : W1.cell? ⟨w.heap.size, 32, none⟩ = some (.int .i64 a) := by rw [hR1.cell, hDL]; exact (refC_at hd a m).1
  have h33 : W1.cell? ⟨w.heap.size, 33, none⟩ = some (.int .i64 m) := by rw [hR1.cell, hDL]; exact (refC_at hd a m).2
  obtain ⟨s, hs⟩ : ∃ s, secsF m = s := ⟨_, rfl⟩
  have hsB : s ≤ n := by omega
  have Hs := Lib.hid hs
  rw [hs] at ha hok ⊢
  clear hs
  have hd1 : decide ((m : Int) < (0 : Int)) = false := by simp
  have hd2 : decide ((65536 : Int) < (m : Int)) = false := by simp; omega
  obtain ⟨i0, hi, hz0, hz1, hz2⟩ := info_parts byteInfo
  have hmk : ∀ w', (Instr.makeSlice 22 (.int .i64 (m : Nat)) (.int .i64 (m : Nat))).run Try.prog w' = .ok (.slice (some ⟨w'.heap.size, 0, none⟩) m m) (w'.alloc (.cells (Lib.byteCells (List.replicate m 0)).toArray 5)) := fun w' => by
    have h := run_make (P := Try.prog) (w := w') 22 5 i0 (.int .u8 0) Try.underlying22 hi hz0 .i64 .i64 (m : Nat) (m : Nat) (by omega) (by omega) (by rw [hz2]; omega) (by omega)
    rw [hz1, Nat.mul_one] at h
    simpa [made_zeros, Value.cells] using h
  obtain ⟨W2, hW2⟩ : ∃ W2, W2 = W1.alloc (.cells (Lib.byteCells (List.replicate m 0)).toArray 5) := ⟨_, rfl⟩
  have hG2 : Arr W2 W1.heap.size 5 (Lib.byteCells (List.replicate m 0)) := by rw [hW2]; exact Arr.new W1 _ _
  have hb2 : Below W1.heap.size W1 W2 := by rw [hW2]; exact (Below.refl _ W1).alloc (Nat.le_refl _) _
  have h32' : W2.cell? ⟨w.heap.size, 32, none⟩ = some (.int .i64 a) := (hb2.cell (p := ⟨w.heap.size, 32, none⟩) hR1.lt).trans h32
  have h33' : W2.cell? ⟨w.heap.size, 33, none⟩ = some (.int .i64 m) := (hb2.cell (p := ⟨w.heap.size, 33, none⟩) hR1.lt).trans h33
  have HW2 := Lib.hid hW2
  have HDL := Lib.hid hDL
  have Hok := Lib.hid hok
  clear hW2 hDL hok
  go_enter Try.func14, Try.ntmps14
  go_upto_region 1 with fail
  change Code.wp _ _ _ _ (w.alloc (.cells DL.toArray 36))
  rw [← HW1.out]
  clear HW1
  go_wp2_with fail
  refine Calls.mono (there_yes k gs n a m W1 hD1.c0 hn2 (by omega) (by omega) (by rw [Hs.out]; exact ha)) ?_
  rintro e wx ⟨rfl, rfl⟩
  go_wp2_with fail
  go_at_call 18
  rw [← HW2.out]
  refine Calls.mono (sectors_any m (by omega) W2) ?_
  rintro e wy ⟨rfl, hwy⟩
  subst hwy
  rw [Hs.out]
  dsimp only
  rw [hW1s] at hG2
  have hgbx : w.heap.size + 1 = wx.heap.size := by omega
  clear HW2
  go_wp2_with fail
  go_loopw [33] (fun v wr => ∃ i : Nat, i ≤ s ∧ v = .int .i64 i ∧ Arr wr (w.heap.size + 1) 5 (Lib.byteCells (gotF S a m i)) ∧ Only (fun j => j = w.heap.size + 1) wy wr) (fun v _ => s - (intOf v).toNat)
  case atStart => exact ⟨0, by omega, rfl, hG2, Only.refl _ _⟩
  case round =>
    clear hG2
    obtain ⟨i, hi, rfl, hA, hO⟩ := by assumption
    obtain ⟨w1, rfl⟩ : ∃ wo : World, wo = wr := ⟨_, rfl⟩
    have hFgb := hD.lt
    have hDk : SeenW w1 k gs n S := hD1.kept (Nat.le_trans hb2.size hO.size) (fun b hF => by
      have h1 := hFgb b hF
      rw [hO.block b (by have := hb2.size; omega) (by omega)]
      exact hb2.block b (by omega))
    have h32w : w1.cell? ⟨w.heap.size, 32, none⟩ = some (.int .i64 a) := by
      rw [← h32']; simp [World.cell?, hO.block w.heap.size (by have := hb2.size; omega) (by omega)]
    by_cases hlt : i < s
    · have hd2 : decide ((i : Int) < (s : Int)) = true := by simp; exact hlt
      have hd3 : decide (i < s) = true := by simp; exact hlt
      obtain ⟨q, hqq⟩ : ∃ q, a + i = q := ⟨_, rfl⟩
      have hqI : (a : Int) + (i : Int) = (q : Int) := by omega
      have hqB : q ≤ 65536 := by omega
      have hqn : q < n := by omega
      have hlS := hDk.lS
      obtain ⟨SL, hSL⟩ : ∃ SL, SL = Lib.byteCells (S.getD q []) := ⟨_, rfl⟩
      have hq64 : (S.getD q []).length = 64 := hDk.s64 _ (by simp [List.getD, show q < S.length by omega])
      have Hq := Lib.hid hqq
      have HSL := Lib.hid hSL
      clear hqq hSL
      go_wp2_with fail
      refine Calls.mono (read_yes k gs n q S SL w1 hDk.c0 hDk.hs hDk.s64 hDk.lS hqn hn2 hDk.klt HSL.out) ?_
      rintro e w5 ⟨rfl, hb5⟩
      have HSi := Lib.hid (show (Try.prog.info? 30).map (·.size) = some SL.toArray.size by rw [List.size_toArray, HSL.out, Lib.byteCells_length, hq64]; exact secInfo)
      have HSs := Lib.hid (show (Lib.byteCells zero64).toArray.size = SL.toArray.size by rw [List.size_toArray, List.size_toArray, HSL.out, Lib.byteCells_length, Lib.byteCells_length, hq64]; rfl)
      have HS1 := Lib.hid (show SL.toArray.all (·.oneCell') = true by rw [HSL.out]; exact sec_one _)
      obtain ⟨x, hx⟩ : ∃ x, 64 * i = x := ⟨_, rfl⟩
      have hix : 64 * i ≤ m := by
        by_cases h0 : 0 < m
        · exact Nat.le_of_lt (secsF_fits (by rw [Hs.out]; exact hlt) h0)
        · have := Hs.out; unfold secsF at this; omega
      have hxI : (i : Int) * 64 = (x : Int) := by omega
      have hxm : x ≤ m := by omega
      have hxw : IntKind.i64.wrap (x : Int) = (x : Int) := IntWalk.i64_in _ (by omega)
      have hx0 : (0 : Int) ≤ (x : Int) := by omega
      have hx1 : (x : Int) ≤ (m : Int) := by omega
      have hq : ∀ w', (Instr.sliceAt 22 (.slice (some ⟨w.heap.size + 1, 0, none⟩) m m) (some (.int .i64 (x : Nat))) none none).run Try.prog w' = .ok (.slice (cutA (some ⟨w.heap.size + 1, 0, none⟩) m x) (m - x) (m - x)) w' := fun w' => run_from 22 underB sizeB _ m m x .i64 _ rfl hxm w'
      have hal := alloc_rowD w5 30 (Lib.byteCells zero64).toArray SL
      obtain ⟨W6, hW6⟩ : ∃ W6, W6 = (w5.alloc (.cells (Lib.byteCells zero64).toArray 30)).setRow w5.heap.size SL.toArray := ⟨_, rfl⟩
      rw [← hW6] at hal
      obtain ⟨hS6, hb6⟩ := hal
      have hA5 := (hA.below hb5 hA.lt).below hb6 (by have := hA.lt; have := hb5.size; omega)
      have hbsS : Bs W6 W6.heap.size (some ⟨w5.heap.size, 0, none⟩) (S.getD q []) := Arr.bsB (by rw [← HSL.out]; exact hS6)
      have hcs := Lib.hid ((hbsS.upto (m - x)).drewN 1).cells
      have hgl := gotF_length S a m hDk.s64 i (by rw [Hs.out]; exact hi)
      have HN := Lib.hid (show (Lib.byteCells ((S.getD q []).take (m - x))).length = Nat.min 64 (m - x) by rw [Lib.byteCells_length, List.length_take, hq64]; exact Nat.min_comm _ _)
      have HF := Lib.hid (show x + (Lib.byteCells ((S.getD q []).take (m - x))).length ≤ (Lib.byteCells (gotF S a m i)).length by rw [Lib.byteCells_length, Lib.byteCells_length, List.length_take, hgl]; omega)
      have H1 := Lib.hid (byteCells_one ((S.getD q []).take (m - x)))
      have hG6 : Hid (W6.drew.heap[w.heap.size + 1]? = some (.cells (Lib.byteCells (gotF S a m i)).toArray 5 (0, 0))) := Lib.hid hA5
      have hcut : 0 < (Lib.byteCells ((S.getD q []).take (m - x))).length → cutA (some ⟨w.heap.size + 1, 0, none⟩) m x = some ⟨w.heap.size + 1, x, none⟩ := fun hp => by
        rw [HN.out] at hp
        unfold cutA
        rw [if_neg (by have : 0 < min 64 (m - x) := hp; omega)]
        simp [Addr.add]
        exact fun h => h.symm
      have Hcut := Lib.hid hcut
      have Hx := Lib.hid hx
      have HW6 := Lib.hid hW6
      clear hx hW6 hcut hgl hS6 hA5 hb6 hbsS hgbx
      have hb6 : Below w5.heap.size w5 W6 := by rw [HW6.out]; exact (alloc_rowD w5 30 (Lib.byteCells zero64).toArray SL).2
      go_wp2_with (first
        | (change wpList _ _ _ _ _ (w5.alloc (.cells (Lib.byteCells zero64).toArray 30)); refine wpList_store_row rfl _ _ _ rfl w5.heap.size SL.toArray rfl rfl 30 (Lib.byteCells zero64).toArray (heap_alloc_new w5 _) HSi.out HSs.out HS1.out ?_))
      rw [← HW6.out]
      go_region_held3 (fun w' => True) (trivial)
        (first
          | (refine step_copy_any (by rfl) _ _ _ _ (by rfl) 5 Try.underlying22 byteSizeB _ _ _ _ _ _ (by rfl) (by rfl) (w.heap.size + 1) x (Lib.byteCells (gotF S a m i)) 5 hG6.out (Lib.byteCells ((S.getD q []).take (m - x))) HN.out (fun hp => ⟨Hcut.out hp, hcs.out hp⟩) HF.out H1.out ?_
             intro w7 hw7D hw7))
      have hD7 : Arr w7 (w.heap.size + 1) 5 (Lib.byteCells (gotF S a m (i + 1))) := by
        have e : splice (Lib.byteCells (gotF S a m i)) x (Lib.byteCells ((S.getD q []).take (m - x))) = Lib.byteCells (gotF S a m (i + 1)) := by
          rw [gotF, ← Hx.out, ← Hq.out]
          unfold splice Lib.byteCells
          simp only [List.map_append, List.map_take, List.map_drop, List.length_map, List.append_assoc, List.length_take]
        rw [← e]
        exact hw7D.out
      go_wp2_with fail
      case roundEnd =>
        refine ⟨⟨i + 1, by omega, by simp, hD7, ?_⟩, by simp [intOf]; omega⟩
        have hO6 : Only (fun j => j = w.heap.size + 1) wy W6 := (hO.step hb5).step hb6
        exact hO6.trans ⟨hw7.1.os, hw7.1.tape, hw7.1.output, hw7.1.size, fun j hj hne => hw7.1.block j hj (fun e => hne (by injection e with e))⟩
    · obtain rfl : i = s := by omega
      have hd2 : decide ((i : Int) < (i : Int)) = false := by simp
      have hgl := gotF_length S a m hDk.s64 i (by rw [Hs.out]; exact hi)
      have hbsG : Bs w1.drew w1.drew.heap.size (some ⟨w.heap.size + 1, 0, none⟩) (gotF S a m i) := (Arr.bsB hA).drewN 1
      have hB1 : Below w.heap.size w w1 := (hb1.trans (hb2.mono hb1.size)).trans (hO.below (Nat.le_trans hb1.size hb2.size) (by rintro j rfl; omega))
      have hR8 : Arr w1.drew w.heap.size 36 DL := ((hR1.below hb2 hR1.lt).only hO (by omega)).drewN 1
      obtain ⟨D2, hD2⟩ : ∃ D2, D2 = refC (blobDig (gotF S a m i)) a m := ⟨_, rfl⟩
      have HD := Lib.hid hD2
      have hcmp : ∀ w, (Op.equalIn 10000 36 (.agg D2.toArray) (.agg DL.toArray)).run Try.prog w = .ok ok w := fun w => by
        rw [ref_eqv _ d (blobDig_length _) hd a m a m D2 DL hD2 HDL.out w, Hok.out]
        simp
      clear hD2
      have hDLat : DL[32]? = some (.int .i64 (a : Nat)) := by rw [HDL.out]; exact (refC_at hd a m).1
      have hi34 : (Try.prog.info? 36).map (·.size) = some DL.length := by rw [HDL.out, refC_length hd]; exact refSize
      have hk1 := Lib.hid (show w.heap.size + 1 = w.heap.size + 1 from rfl)
      clear hgbx
      go_wp2_with fail
      refine wp_region_held_drew (S := fun w' => w'.rangeAt w.heap.size 0 DL) (by kernel_rfl) hR8.range (fun hHeld => ?_)
      refine anyH_take (i := 0) (v := .pointer (some ⟨w.heap.size, 32, none⟩)) (some 52) rfl rfl (by kernel_rfl) (by kernel_rfl) (by kernel_rfl) (fun _ _ _ h => h) (Or.inl ⟨by rfl, fun _ _ => by go_simp⟩) (by assumption) ?_
      simp only [Act.put, List.setIfInBounds_toArray, List.set_cons_zero, List.set_cons_succ]
      refine anyH_take (i := 1) (v := .int .i64 (a : Nat)) (some 53) rfl rfl (by kernel_rfl) (by kernel_rfl) (by kernel_rfl) (fun _ _ _ h => h) (Or.inl ⟨by rfl, fun w' h' => by
        have h2 : w'.cell? ⟨w.heap.size, 32, none⟩ = some (.int .i64 (a : Nat)) := h' 32 _ hDLat
        go_simp⟩) (by assumption) ?_
      simp only [Act.put, List.setIfInBounds_toArray, List.set_cons_zero, List.set_cons_succ]
      refine anyH_take (i := 2) (v := .slice (some ⟨w.heap.size + 1, 0, none⟩) m m) (some 54) rfl rfl (by kernel_rfl) (by kernel_rfl) (by kernel_rfl) (fun _ _ _ h => h) (Or.inl ⟨by rfl, fun _ _ => by go_simp⟩) (by assumption) ?_
      simp only [Act.put, List.setIfInBounds_toArray, List.set_cons_zero, List.set_cons_succ]
      refine anyH_take (i := 4) (some 56) rfl rfl (by kernel_rfl) (by kernel_rfl) (by kernel_rfl) (fun _ _ _ h => h) (yieldsIf_load_mid (by rfl) 36 (.tmp 3) rfl w.heap.size 0 rfl DL _ (fun _ h => h) Try.underlying36 rfl hi34) (by assumption) ?_
      simp only [Act.put, List.setIfInBounds_toArray, List.set_cons_zero, List.set_cons_succ]
      refine wpAnyH_ready (rs := [3]) (by kernel_rfl) (by simp) ?_
      refine AllReadyH.cons rfl (fun K hK => ?_) AllReadyH.nil
      go_simp
      go_at_call 16
      refine Calls.mono (of_any a (gotF S a m i) D2 _ m m _ hgl (by omega) (Nat.le_refl _) (by unfold maxLen; omega) hbsG (by omega) (by omega) HD.out) ?_
      rintro e w9 ⟨rfl, hb9⟩
      have hR9 := hR8.below hb9 hR8.lt
      dsimp only
      go_wp2_with fail
      refine hK.out _ _ hR9.range (fun hHeld => ?_)
      clear hK K
      try simp only [Act.put, List.setIfInBounds_toArray, List.set_cons_zero, List.set_cons_succ]
      refine wpAnyH_ready (rs := [5]) (by kernel_rfl) (by simp) ?_
      refine AllReadyH.cons rfl (fun K hK => ?_) AllReadyH.nil
      have hgt : Try.prog.eqGuardType Try.prog.depth 36 = false := by kernel_rfl
      go_simp
      refine hK.out _ _ hR9.range (fun hHeld => ?_)
      clear hK K
      have hbd : Below w1.drew.heap.size w1.drew w9 := hb9
      have hBd : Below w.heap.size w w1.drew := ⟨hB1.os, hB1.tape, hB1.output, hB1.size, hB1.block⟩
      have hA9 : Arr w9 (w.heap.size + 1) 5 (Lib.byteCells (gotF S a m i)) := (hA.drewN 1).below hbd hA.lt
      have hle : w.heap.size ≤ w.heap.size + 1 := Nat.le_succ _
      have hbz := hBd.trans (hbd.mono hB1.size)
      clear hbd hBd hA
      cases ok
      · refine wpAnyH_done (by kernel_rfl) ?_ _
        go_wp2_with fail
        exact bodyPost_ret (results_tmp2 (t := 4) (u := 5) (by rfl) _ _ _) rfl ⟨rfl, hbz⟩
      · refine wpAnyH_done (by kernel_rfl) ?_ _
        go_wp2_with fail
        exact bodyPost_ret (results_tmp2 (t := 4) (u := 5) (by rfl) _ _ _) rfl ⟨⟨w.heap.size + 1, rfl, hA9, hle⟩, hbz⟩

theorem bread_got (F : Nat → Prop) (k n a : Nat) (S L : List (List UInt8)) (W : List WrF) (d : List UInt8) (DL : List Value) (m : Nat) (w : World) (h : Disk w F k n S L W false 0) (ok : Bool) (hd : d.length = 32) (hm2 : m ≤ 65536) (ha : a + secsF m ≤ n) (hDL : DL = refC d a m)
    (hok : decide (blobDig (gotF S a m (secsF m)) = d) = ok) :
    Calls Try.prog 14 #[.pointer (some ⟨k, 0, none⟩), .agg DL.toArray] w fun e w' => (ok = true → ∃ g, e = .returned (.tuple #[.slice (some ⟨g, 0, none⟩) m m, .int .i64 0]) ∧ Arr w' g 5 (Lib.byteCells (gotF S a m (secsF m))) ∧ w.heap.size ≤ g) ∧ (ok = false → e = .returned (.tuple #[.slice none 0 0, .int .i64 7])) ∧ Below w.heap.size w w' := by
  obtain ⟨gs, hg⟩ := h.seen
  exact bread_seen k gs n a S d DL m w hg ok hd hm2 ha hDL hok

end Go.Proofs.Ytongmiebojilfaa

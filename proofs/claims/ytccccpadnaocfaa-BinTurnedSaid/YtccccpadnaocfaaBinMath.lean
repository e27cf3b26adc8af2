/-
  A bin and its blocks, as cells.
-/
import Derived.Test.YtccccpadnaocfaaDiskClone
import Derived.Test.YtccccpadnaocfaaJoined
namespace Go.Proofs.Ytccccpadnaocfaa
open Go.RowKit
set_option linter.unusedVariables false
set_option linter.unusedSimpArgs false

def z48 : List UInt8 := List.replicate 48 0
theorem z48_length : z48.length = 48 := rfl
theorem blkInfo : (Try.prog.info? 40).map (·.size) = some 48 := by kernel_rfl
theorem blk_built0 : Try.prog.built 40 [] = some (Lib.byteCells z48).toArray := by kernel_rfl
theorem sec_built0 : Try.prog.built 37 [] = some (Lib.byteCells zero64).toArray := by kernel_rfl
/-- A bin's cells. -/
def binC (n a c : Int) (d : List UInt8) : List Value := .int .i64 n :: .int .i64 a :: .int .i64 c :: Lib.byteCells d
theorem binC_length (n a c : Int) {d : List UInt8} (h : d.length = 32) : (binC n a c d).length = 35 := by simp [binC, Lib.byteCells_length, h]
theorem binC_cell (n a c : Int) (d : List UInt8) : ∀ v ∈ binC n a c d, v.oneCell' = true := by
  intro v hv
  simp only [binC, List.mem_cons] at hv
  rcases hv with rfl | rfl | rfl | hv
  · rfl
  · rfl
  · rfl
  · exact byteCells_one _ v hv
theorem binSize : (Try.prog.info? 31).map (·.size) = some 35 := by kernel_rfl
def binZ : List Value := binC 0 0 0 (List.replicate 32 0)
theorem bin_built0 : Try.prog.built 31 [] = some binZ.toArray := by kernel_rfl
theorem bin_fill (parts : List (Nat × Value)) : Try.prog.built 31 parts = Instr.fill (#[(0, 1), (1, 1), (2, 1), (3, 32)][·]?) binZ.toArray parts := by kernel_rfl
theorem fill_consN (place : Nat → Option (Nat × Nat)) (cells : Array Value) (x : Nat × Value) (rest : List (Nat × Value)) (c : Array Value) (h : Instr.fill place cells [x] = some c) : Instr.fill place cells (x :: rest) = Instr.fill place c rest := by
  obtain ⟨i, v⟩ := x
  unfold Instr.fill at h ⊢
  cases hp : place i with
  | none => simp [hp] at h
  | some p =>
    obtain ⟨off, n⟩ := p
    simp only [hp] at h ⊢
    split at h
    · cases h
    · rename_i hc
      rw [if_neg hc]
      simp only [Instr.fill] at h
      injection h with h
      rw [h]
      conv => lhs; unfold Instr.fill
theorem bin_built (n a c : Int) (d : List UInt8) (VL : List Value) (hV : VL = Lib.byteCells d) (hd : d.length = 32) : Try.prog.built 31 [(0, .int .i64 n), (1, .int .i64 a), (2, .int .i64 c), (3, .agg VL.toArray)] = some (binC n a c d).toArray := by
  have hl : VL.length = 32 := by rw [hV, Lib.byteCells_length, hd]
  rw [bin_fill]
  have h0 : Instr.fill (#[(0, 1), (1, 1), (2, 1), (3, 32)][·]?) binZ.toArray [(0, .int .i64 n)] = some (binC n 0 0 (List.replicate 32 0)).toArray := rfl
  have h1 : Instr.fill (#[(0, 1), (1, 1), (2, 1), (3, 32)][·]?) (binC n 0 0 (List.replicate 32 0)).toArray [(1, .int .i64 a)] = some (binC n a 0 (List.replicate 32 0)).toArray := rfl
  have h2 : Instr.fill (#[(0, 1), (1, 1), (2, 1), (3, 32)][·]?) (binC n a 0 (List.replicate 32 0)).toArray [(2, .int .i64 c)] = some (binC n a c (List.replicate 32 0)).toArray := rfl
  rw [fill_consN _ _ _ _ _ h0, fill_consN _ _ _ _ _ h1, fill_consN _ _ _ _ _ h2]
  have h3 := fill_mid (#[(0, 1), (1, 1), (2, 1), (3, 32)][·]?) (binC n a c (List.replicate 32 0)).toArray 3 3 VL (by rw [hl]; rfl) (by rw [hl, List.size_toArray, binC_length _ _ _ (by simp)]; omega)
  rw [h3, hl, hV]
  simp [binC, Lib.byteCells]
theorem bin_built1 (n : Int) : Try.prog.built 31 [(0, .int .i64 n)] = some (binC n 0 0 (List.replicate 32 0)).toArray := by rw [bin_fill]; rfl
theorem binC_at (n a c : Int) (d : List UInt8) : (binC n a c d)[0]? = some (.int .i64 n) ∧ (binC n a c d)[1]? = some (.int .i64 a) ∧ (binC n a c d)[2]? = some (.int .i64 c) := ⟨rfl, rfl, rfl⟩
theorem binC_dig (n a c : Int) (d : List UInt8) (j : Nat) (v : Value) (h : (Lib.byteCells d)[j]? = some v) : (binC n a c d)[3 + j]? = some v := by
  rw [show 3 + j = j + 1 + 1 + 1 by omega]
  exact h
theorem binC_set1 (n a c x : Int) (d : List UInt8) : (binC n a c d).set 1 (.int .i64 x) = binC n x c d := rfl
theorem binC_set2 (n a c x : Int) (d : List UInt8) : (binC n a c d).set 2 (.int .i64 x) = binC n a x d := rfl

/-- Blocks, as cells. -/
def blkC (bs : List (List UInt8)) : List Value := bs.flatMap Lib.byteCells
theorem blkC_cons (s : List UInt8) (ss : List (List UInt8)) : blkC (s :: ss) = Lib.byteCells s ++ blkC ss := by unfold blkC; rw [List.flatMap_cons]
theorem blkC_append (a b : List (List UInt8)) : blkC (a ++ b) = blkC a ++ blkC b := by unfold blkC; rw [List.flatMap_append]
theorem blkC_length {ss : List (List UInt8)} (h : ∀ s ∈ ss, s.length = 48) : (blkC ss).length = ss.length * 48 := by
  induction ss with
  | nil => rfl
  | cons s ss ih =>
    rw [blkC_cons, List.length_append, Lib.byteCells_length, h s List.mem_cons_self, ih (fun x hx => h x (List.mem_cons_of_mem _ hx)), List.length_cons]
    omega
theorem blkC_at : ∀ {ss : List (List UInt8)} (h : ∀ s ∈ ss, s.length = 48) {i : Nat} (hi : i < ss.length) (j : Nat) (v : Value) (hj : (Lib.byteCells (ss.getD i []))[j]? = some v), (blkC ss)[i * 48 + j]? = some v
  | [], _, i, hi, _, _, _ => by simp at hi
  | s :: ss, h, 0, hi, j, v, hj => by
    have hj' : (Lib.byteCells s)[j]? = some v := hj
    rw [blkC_cons, Nat.zero_mul, Nat.zero_add, List.getElem?_append_left (List.getElem?_eq_some_iff.1 hj').1]
    exact hj'
  | s :: ss, h, i + 1, hi, j, v, hj => by
    have := blkC_at (fun x hx => h x (List.mem_cons_of_mem _ hx)) (i := i) (by simpa using hi) j v hj
    rw [blkC_cons, List.getElem?_append_right (by rw [Lib.byteCells_length, h s List.mem_cons_self]; omega), Lib.byteCells_length, h s List.mem_cons_self, show (i + 1) * 48 + j - 48 = i * 48 + j by omega]
    exact this
theorem blkC_set : ∀ {ss : List (List UInt8)} (h : ∀ s ∈ ss, s.length = 48) {i : Nat} (hi : i < ss.length) (x : List UInt8) (hx : x.length = 48),
    (blkC ss).take (i * 48) ++ (Lib.byteCells x ++ (blkC ss).drop (i * 48 + (Lib.byteCells x).length)) = blkC (ss.set i x)
  | [], _, i, hi, _, _ => by simp at hi
  | s :: ss, h, 0, hi, x, hx => by
    have hs := h s List.mem_cons_self
    rw [List.set_cons_zero, blkC_cons, blkC_cons, Nat.zero_mul, Nat.zero_add, List.take_zero, List.nil_append, show (Lib.byteCells x).length = (Lib.byteCells s).length by rw [Lib.byteCells_length, Lib.byteCells_length, hx, hs], List.drop_left]
  | s :: ss, h, i + 1, hi, x, hx => by
    have hs := h s List.mem_cons_self
    have hsl : (Lib.byteCells s).length = 48 := by rw [Lib.byteCells_length, hs]
    have ih := blkC_set (fun y hy => h y (List.mem_cons_of_mem _ hy)) (i := i) (by simpa using hi) x hx
    rw [List.set_cons_succ, blkC_cons, blkC_cons, ← ih, show (i + 1) * 48 = (Lib.byteCells s).length + i * 48 by rw [hsl]; omega, List.take_length_add_append, Nat.add_assoc, List.drop_length_add_append, List.append_assoc]
theorem blkC_cells {S : List (List UInt8)} : ∀ v ∈ blkC S, v.oneCell' = true := by
  intro v hv
  simp only [blkC, List.mem_flatMap] at hv
  obtain ⟨s, _, hv⟩ := hv
  exact byteCells_one _ v hv
/-- Blocks at an address. -/
def BlksAt (w : World) (A : Option Addr) (bs : List (List UInt8)) : Prop :=
  0 < bs.length → ∃ b off, A = some ⟨b, off, none⟩ ∧ b < w.heap.size ∧ ∀ i, i < bs.length → w.rangeAt b (off + i * 48) (Lib.byteCells (bs.getD i []))
theorem BlksAt.below {w w' : World} {A : Option Addr} {bs : List (List UInt8)} (h : BlksAt w A bs) (hB : Below w.heap.size w w') : BlksAt w' A bs := fun hn => by
  obtain ⟨b, off, e, hb, hr⟩ := h hn
  exact ⟨b, off, e, Nat.lt_of_lt_of_le hb hB.size, fun i hi j v hj => (hB.cell (p := ⟨b, _, none⟩) hb).trans (hr i hi j v hj)⟩
theorem BlksAt.nil (w : World) (A : Option Addr) : BlksAt w A [] := fun h => absurd h (by simp)
theorem Arr.blks {w : World} {g : Nat} {T : TypeId} {bs : List (List UInt8)} (h : Arr w g T (blkC bs)) (h48 : ∀ s ∈ bs, s.length = 48) : BlksAt w (some ⟨g, 0, none⟩) bs := fun _ =>
  ⟨g, 0, rfl, h.lt, fun i hi j v hj => by rw [Nat.zero_add, h.cell]; exact blkC_at h48 hi j v hj⟩
/-- A block among them, as bytes. -/
theorem rangeAt_bs {w : World} {b off : Nat} {l : List UInt8} (hb : b < w.heap.size) (h : w.rangeAt b off (Lib.byteCells l)) : Bs w w.heap.size (some ⟨b, off, none⟩) l := fun _ => ⟨b, off, rfl, hb, fun j hj => h j _ (byteCells_get hj)⟩

/-- A block's sector. -/
def laidB (b : List UInt8) : List UInt8 := b ++ List.replicate 16 0
theorem laidB_length {b : List UInt8} (h : b.length = 48) : (laidB b).length = 64 := by simp [laidB, h]
/-- The sectors with blocks written from one on. -/
def putB (S : List (List UInt8)) (a : Nat) (bs : List (List UInt8)) : Nat → List (List UInt8)
  | 0 => S
  | i + 1 => (putB S a bs i).set (a + i) (laidB (bs.getD i []))
theorem putB_length (S : List (List UInt8)) (a : Nat) (bs : List (List UInt8)) (i : Nat) : (putB S a bs i).length = S.length := by
  induction i with
  | zero => rfl
  | succ i ih => rw [putB, List.length_set, ih]
theorem putB_off {S : List (List UInt8)} {a : Nat} (bs : List (List UInt8)) {i j : Nat} (h : j < a ∨ a + i ≤ j) : (putB S a bs i)[j]? = S[j]? := by
  induction i with
  | zero => rfl
  | succ i ih =>
    rw [putB, List.getElem?_set_ne (by omega)]
    exact ih (by omega)
theorem putB_at {S : List (List UInt8)} {a : Nat} (bs : List (List UInt8)) : ∀ {i j : Nat}, a + i ≤ S.length → j < i → (putB S a bs i).getD (a + j) [] = laidB (bs.getD j [])
  | 0, _, _, h => by omega
  | i + 1, j, hS, h => by
    simp only [putB, List.getD]
    by_cases e : j = i
    · subst e
      rw [List.getElem?_set_self (by rw [putB_length]; omega)]
      rfl
    · rw [List.getElem?_set_ne (by omega)]
      exact putB_at bs (by omega) (by omega)
theorem putB_64 {S : List (List UInt8)} {a : Nat} {bs : List (List UInt8)} (h : ∀ s ∈ S, s.length = 64) (h48 : ∀ s ∈ bs, s.length = 48) : ∀ {i : Nat}, i ≤ bs.length → ∀ s ∈ putB S a bs i, s.length = 64
  | 0, _, s, hs => h s hs
  | i + 1, hi, s, hs => by
    rcases List.mem_or_eq_of_mem_set hs with hs | hs
    · exact putB_64 h h48 (by omega) s hs
    · rw [hs]
      exact laidB_length (h48 _ (by simp [List.getD, show i < bs.length by omega]))
/-- The writes of blocks from a sector on. -/
def putBW (a : Nat) (bs : List (List UInt8)) (i : Nat) : List WrF := (List.range i).map fun j => (a + j, laidB (bs.getD j []), false)
theorem putBW_length (a : Nat) (bs : List (List UInt8)) (i : Nat) : (putBW a bs i).length = i := by simp [putBW]
theorem putBW_succ (a : Nat) (bs : List (List UInt8)) (i : Nat) : putBW a bs (i + 1) = putBW a bs i ++ [(a + i, laidB (bs.getD i []), false)] := by simp [putBW, List.range_succ]
/-- The blocks that stand in sectors. -/
def standF (S : List (List UInt8)) (i : Nat) : List UInt8 := (S.getD i []).take 48
theorem standF_length {S : List (List UInt8)} (h : ∀ s ∈ S, s.length = 64) {i : Nat} (hi : i < S.length) : (standF S i).length = 48 := by
  have : (S.getD i []).length = 64 := h _ (by simp [List.getD, hi])
  unfold standF
  rw [List.length_take]
  omega
def standsF (S : List (List UInt8)) (a n : Nat) : List (List UInt8) := (List.range n).map fun i => standF S (a + i)
theorem standsF_length (S : List (List UInt8)) (a n : Nat) : (standsF S a n).length = n := by simp [standsF]
theorem standsF_getD {S : List (List UInt8)} {a n i : Nat} (h : i < n) : (standsF S a n).getD i [] = standF S (a + i) := by simp [standsF, List.getD, h]
theorem standsF_48 {S : List (List UInt8)} (h : ∀ s ∈ S, s.length = 64) {a n : Nat} (hn : a + n ≤ S.length) : ∀ s ∈ standsF S a n, s.length = 48 := fun s hs => by
  obtain ⟨i, hi, rfl⟩ := List.mem_map.1 hs
  rw [List.mem_range] at hi
  exact standF_length h (by omega)
theorem stand_laid {b : List UInt8} (h : b.length = 48) : (laidB b).take 48 = b := by unfold laidB; rw [← h, List.take_left]
theorem stand_put {S : List (List UInt8)} {a : Nat} {bs : List (List UInt8)} (h48 : ∀ s ∈ bs, s.length = 48) {j : Nat} (hS : a + bs.length ≤ S.length) (hj : j < bs.length) : standF (putB S a bs bs.length) (a + j) = bs.getD j [] := by
  unfold standF
  rw [putB_at bs hS hj]
  exact stand_laid (h48 _ (by simp [List.getD, hj]))
theorem list_ext_getD {a b : List (List UInt8)} (hl : a.length = b.length) (h : ∀ i, i < a.length → a.getD i [] = b.getD i []) : a = b := by
  apply List.ext_getElem hl
  intro i h1 h2
  have := h i h1
  simpa [List.getD, h1, h2] using this
theorem stands_put {S : List (List UInt8)} {a : Nat} {bs : List (List UInt8)} (h48 : ∀ s ∈ bs, s.length = 48) (hS : a + bs.length ≤ S.length) : standsF (putB S a bs bs.length) a bs.length = bs :=
  list_ext_getD (standsF_length _ _ _) fun i hi => by
    rw [standsF_length] at hi
    rw [standsF_getD hi]
    exact stand_put h48 hS hi
/-- A block's fingerprint. -/
def fingF (b : List UInt8) : List UInt8 := shaF (tagF 6 [b])
theorem fingF_length (b : List UInt8) : (fingF b).length = 32 := shaF_length _
theorem fing_lim {b : List UInt8} (h : b.length = 48) : (tagF 6 [b]).length ≤ 1000000 := by
  unfold tagF
  have e1 := Lib.uvarint_length64 (x := b.length) (by omega)
  simp only [List.length_cons, List.flatMap_cons, List.flatMap_nil, List.length_append, List.length_nil]
  omega

end Go.Proofs.Ytccccpadnaocfaa

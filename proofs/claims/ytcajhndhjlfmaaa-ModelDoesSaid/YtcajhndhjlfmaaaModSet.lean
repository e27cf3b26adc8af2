/-
  A model as it stands in memory.
-/
import Derived.Test.YtcajhndhjlfmaaaModMath
import Derived.Test.YtcajhndhjlfmaaaVolPureA
namespace Go.Proofs.Ytcajhndhjlfmaaa
open Go.RowKit
open Go.Maps (Keyed)
set_option linter.unusedVariables false
set_option linter.unusedSimpArgs false

theorem zeroImg (w : World) : (zeroValue 114).run Try.prog w = .ok (imgV ⟨0, false, none⟩) w := by kernel_rfl
theorem zeroBlk (w : World) : (zeroValue 42).run Try.prog w = .ok (blkV zB) w := by kernel_rfl

structure ImgOk (v : Vol) : Prop where
  q : v.quota ≤ 1048576
  le : v.cells.length ≤ v.quota
  rs : Rise v.cells
  c : ∀ c ∈ v.cells, c.1 < 1048576 ∧ c.2.length = 48
  nm : namedB v.name.data.toList = true
/-- An image's blocks' map. -/
structure ImOk (w : World) (m : Vm) : Prop where
  hc : w.ownsMap Try.prog 3 blkR m.bb m.v.cells.length (cellsD m.v.cells)
  ok : ImgOk m.v
/-- A model at block s, its images' map at block mb. F: its blocks. -/
structure MdQ (w : World) (F : Nat → Prop) (s mb : Nat) (M : List Vm) : Prop where
  hs : Arr w s 100 [.map (some mb)]
  hm : w.ownsMap Try.prog 9 imgR mb M.length (imgD M)
  vm : ∀ m ∈ M, ImOk w m
  rs : RiseM M
  dj : M.Pairwise fun a b => a.bb ≠ b.bb
  mne : ∀ m ∈ M, m.bb ≠ mb
  Fs : F s
  Fm : F mb
  Fv : ∀ m ∈ M, F m.bb
  Flt : ∀ b, F b → b < w.heap.size
theorem ImOk.kept {w w' : World} {m : Vm} (h : ImOk w m) (h2 : w'.heap[m.bb]? = w.heap[m.bb]?) : ImOk w' m := ⟨World.ownsMap.at_ h.hc h2, h.ok⟩
theorem MdQ.kept {w w' : World} {F F' : Nat → Prop} {s mb : Nat} {M : List Vm} (h : MdQ w F s mb M) (hb : ∀ b, F b → w'.heap[b]? = w.heap[b]?) (hF : ∀ b, F b → F' b) (hlt : ∀ b, F' b → b < w'.heap.size) : MdQ w' F' s mb M where
  hs := (hb s h.Fs).trans h.hs
  hm := World.ownsMap.at_ h.hm (hb mb h.Fm)
  vm := fun m hm => (h.vm m hm).kept (hb _ (h.Fv m hm))
  rs := h.rs
  dj := h.dj
  mne := h.mne
  Fs := hF _ h.Fs
  Fm := hF _ h.Fm
  Fv := fun m hm => hF _ (h.Fv m hm)
  Flt := hlt
theorem MdQ.below {w w' : World} {F : Nat → Prop} {s mb : Nat} {M : List Vm} (h : MdQ w F s mb M) (hb : Below w.heap.size w w') : MdQ w' F s mb M :=
  h.kept (fun b hF => hb.block b (h.Flt b hF)) (fun _ h => h) fun b hF => Nat.lt_of_lt_of_le (h.Flt b hF) hb.size

theorem ownsMap_ne {H : Type} {R : Value → Option (DataW H × List MemPlace)} {k : TypeId} {w : World} {b mb n : Nat} {D : DataW H} {T : TypeId} {c : List Value} (hm : w.ownsMap Try.prog k R mb n D) (ha : Arr w b T c) : b ≠ mb := by
  intro e
  obtain ⟨es, clock, hb, _⟩ := hm
  rw [e] at ha
  have := ha.symm.trans hb
  cases this

/-- An image's blocks turn. -/
theorem MdQ.turn {w w' : World} {F : Nat → Prop} {s mb : Nat} {M : List Vm} (h : MdQ w F s mb M) {m : Vm} (hm : m ∈ M) {cs : List Cl} {n : Nat} (h2 : w'.ownsMap Try.prog 3 blkR m.bb n (cellsD cs)) (hg : w.grownBy w' (some m.bb)) (hok : ImgOk { m.v with cells := cs }) :
    MdQ w' (newF F w w') s mb (setM M m.v.name cs) := by
  have hkeep : ∀ b, F b → b ≠ m.bb → w'.heap[b]? = w.heap[b]? := fun b hF hne => hg.block b (h.Flt b hF) fun e => hne (by injection e)
  have hsz := hg.size
  have h2' := World.ownsMap.tight h2
  rw [cellsD_size] at h2'
  have hD := imgD_set M m.v.name cs
  have hl : (setM M m.v.name cs).length = M.length := by simp [setM]
  refine { hs := (hkeep s h.Fs (ownsMap_ne (h.vm m hm).hc h.hs)).trans h.hs, hm := ?_, vm := ?_, rs := setM_rise h.rs _ _, dj := ?_, mne := ?_, Fs := .inl h.Fs, Fm := .inl h.Fm, Fv := ?_, Flt := newF_lt h.Flt hsz }
  · rw [hD, hl]
    exact World.ownsMap.at_ h.hm (hkeep mb h.Fm fun e => h.mne m hm e.symm)
  · intro c hc
    obtain ⟨x, hx, e1, e2, hcase⟩ := setM_mem hc
    rcases hcase with ⟨rfl, hne⟩ | ⟨he, rfl⟩
    · have hxm : c ≠ m := fun e => hne (by rw [e])
      have hbb : c.bb ≠ m.bb := pair_ne (fun a b h => h.symm) h.dj hx hm hxm
      exact (h.vm c hx).kept (hkeep _ (h.Fv c hx) hbb)
    · obtain rfl : x = m := key_apart h.rs hx hm (by rw [key, key, he])
      exact ⟨h2', hok⟩
  · unfold setM
    rw [List.pairwise_map]
    refine h.dj.imp fun {a b} hab => ?_
    have e : ∀ x : Vm, (if key x = m.v.name.data.toList then { x with v := { x.v with cells := cs } } else x).bb = x.bb := fun x => by split <;> rfl
    rw [e a, e b]
    exact hab
  · intro c hc
    obtain ⟨x, hx, e1, e2, _⟩ := setM_mem hc
    rw [e2]
    exact h.mne x hx
  · intro c hc
    obtain ⟨x, hx, e1, e2, _⟩ := setM_mem hc
    rw [e2]
    exact .inl (h.Fv x hx)

/-- An image more: its blocks' map is new, the model's map turns. -/
theorem MdQ.add {w w1 w2 : World} {F : Nat → Prop} {s mb : Nat} {M : List Vm} (h : MdQ w F s mb M) {x : Vm} (hx : ImOk w1 x) (hb : Below w.heap.size w w1) (h2 : w.heap.size ≤ x.bb) (hn : hasM M x.v.name = false)
    {n : Nat} (hm : w2.ownsMap Try.prog 9 imgR mb n ((imgD M).put (.string x.v.name.data.toList) (imgDx x.v.quota x.v.frozen (some x.bb)))) (hg : w1.grownBy w2 (some mb)) : MdQ w2 (newF F w w2) s mb (insM x M) := by
  have hmlt := h.Flt mb h.Fm
  have hkeep : ∀ b, F b → b ≠ mb → w2.heap[b]? = w.heap[b]? := fun b hF hne => by
    have := h.Flt b hF
    rw [hg.block b (by have := hb.size; omega) fun e => hne (by injection e with e), hb.block b this]
  have hsz : w.heap.size ≤ w2.heap.size := Nat.le_trans hb.size hg.size
  have hxb : x.bb < w1.heap.size := World.ownsMap.lt hx.hc
  rw [imgD_put hn] at hm
  have hm' := World.ownsMap.tight hm
  rw [imgD_size] at hm'
  have hlt : ∀ m ∈ M, m.bb < w.heap.size := fun m hm => h.Flt _ (h.Fv m hm)
  have hno : ∀ c ∈ M, key c ≠ key x := fun c hc e => by
    unfold hasM at hn
    have := List.any_eq_false.1 hn c hc
    simp only [decide_eq_true_eq] at this
    exact this e
  refine { hs := (hkeep s h.Fs (ownsMap_ne h.hm h.hs)).trans h.hs, hm := hm', vm := ?_, rs := insM_rise h.rs hno, dj := ?_, mne := ?_, Fs := .inl h.Fs, Fm := .inl h.Fm, Fv := ?_, Flt := newF_lt h.Flt hsz }
  · intro c hc
    rcases insM_mem.1 hc with rfl | hc
    · exact hx.kept (hg.block _ hxb fun e => by injection e with e; omega)
    · exact (h.vm c hc).kept (hkeep _ (h.Fv c hc) (h.mne c hc))
  · refine insM_pair (fun a b h => h.symm) h.dj fun c hc => ?_
    have := hlt c hc; omega
  · intro c hc
    rcases insM_mem.1 hc with rfl | hc
    · omega
    · exact h.mne c hc
  · intro c hc
    rcases insM_mem.1 hc with rfl | hc
    · exact .inr ⟨h2, by have := hg.size; omega⟩
    · exact .inl (h.Fv c hc)

/-- An image less. -/
theorem MdQ.del {w w2 : World} {F : Nat → Prop} {s mb : Nat} {M : List Vm} (h : MdQ w F s mb M) {nm : ByteArray} {n : Nat} (hm : w2.ownsMap Try.prog 9 imgR mb n ((imgD M).del (.string nm.data.toList))) (hg : w.grownBy w2 (some mb)) : MdQ w2 (newF F w w2) s mb (delM M nm) := by
  have hkeep : ∀ b, F b → b ≠ mb → w2.heap[b]? = w.heap[b]? := fun b hF hne => hg.block b (h.Flt b hF) fun e => hne (by injection e with e)
  rw [imgD_del] at hm
  have hm' := World.ownsMap.tight hm
  rw [imgD_size] at hm'
  refine { hs := (hkeep s h.Fs (ownsMap_ne h.hm h.hs)).trans h.hs, hm := hm', vm := ?_, rs := h.rs.filter _, dj := h.dj.filter _, mne := ?_, Fs := .inl h.Fs, Fm := .inl h.Fm, Fv := ?_, Flt := newF_lt h.Flt hg.size }
  · intro c hc
    have hc := (delM_mem.1 hc).1
    exact (h.vm c hc).kept (hkeep _ (h.Fv c hc) (h.mne c hc))
  · exact fun c hc => h.mne c (delM_mem.1 hc).1
  · exact fun c hc => .inl (h.Fv c (delM_mem.1 hc).1)

/-! ### what the maps' operations do -/
def ixOf : Option Vm → Ix
  | none => ⟨0, false, none⟩
  | some m => ⟨m.v.quota, m.v.frozen, some m.bb⟩
theorem MdQ.look {w : World} {F : Nat → Prop} {s mb : Nat} {M : List Vm} (h : MdQ w F s mb M) {nm : ByteArray} (hs : nm.size ≤ maxLen) :
    (Instr.lookup 98 (.map (some mb)) (.string nm) false).run Try.prog w = .ok (imgV (ixOf (findM M nm))) w := by
  obtain ⟨v, ps, hr, hv⟩ := World.ownsMap.lookup h.hm strKeyed Try.underlying98 (zeroImg w) (imgR_mk _) (keyOf_name hs)
  rw [imgD_at] at hv
  rw [hr]
  cases hn : findM M nm with
  | none => rw [hn] at hv; rw [imgR_inv hv]; rfl
  | some m => rw [hn] at hv; rw [imgR_inv hv]; rfl
theorem MdQ.look_ok {w : World} {F : Nat → Prop} {s mb : Nat} {M : List Vm} (h : MdQ w F s mb M) {nm : ByteArray} (hs : nm.size ≤ maxLen) :
    (Instr.lookup 98 (.map (some mb)) (.string nm) true).run Try.prog w = .ok (.tuple #[imgV (ixOf (findM M nm)), .bool (hasM M nm)]) w := by
  obtain ⟨v, ps, hr, hv⟩ := World.ownsMap.look_ok h.hm strKeyed Try.underlying98 (zeroImg w) (imgR_mk _) (keyOf_name hs)
  rw [imgD_has] at hr
  rw [imgD_at] at hv
  rw [hr]
  cases hn : findM M nm with
  | none => rw [hn] at hv; rw [imgR_inv hv]; rfl
  | some m => rw [hn] at hv; rw [imgR_inv hv]; rfl
/-- A block, or the zero one. -/
def atB (cs : List Cl) (n : Int) : List UInt8 := (getC cs n).getD zB
theorem ImOk.look {w : World} {m : Vm} (h : ImOk w m) {n : Int} (h1 : -9223372036854775808 ≤ n) (h2 : n ≤ 9223372036854775807) :
    (Instr.lookup 112 (.map (some m.bb)) (.int .i64 n) true).run Try.prog w = .ok (.tuple #[blkV (atB m.v.cells n), .bool (hasC m.v.cells n)]) w := by
  obtain ⟨v, ps, hr, hv⟩ := World.ownsMap.look_ok h.hc intKeyed Try.underlying112 (zeroBlk w) (blkR_mk zB) (keyOf_num h1 h2)
  rw [cellsD_has] at hr
  rw [cellsD_at] at hv
  rw [hr]
  unfold atB
  cases hg : getC m.v.cells n with
  | none => rw [hg] at hv; rw [blkR_inv hv]; rfl
  | some f => rw [hg] at hv; rw [blkR_inv hv]; rfl
theorem ImOk.look1 {w : World} {m : Vm} (h : ImOk w m) {n : Int} (h1 : -9223372036854775808 ≤ n) (h2 : n ≤ 9223372036854775807) :
    (Instr.lookup 112 (.map (some m.bb)) (.int .i64 n) false).run Try.prog w = .ok (blkV (atB m.v.cells n)) w := by
  obtain ⟨v, ps, hr, hv⟩ := World.ownsMap.lookup h.hc intKeyed Try.underlying112 (zeroBlk w) (blkR_mk zB) (keyOf_num h1 h2)
  rw [cellsD_at] at hv
  rw [hr]
  unfold atB
  cases hg : getC m.v.cells n with
  | none => rw [hg] at hv; rw [blkR_inv hv]; rfl
  | some f => rw [hg] at hv; rw [blkR_inv hv]; rfl
theorem nil_look {w : World} {n : Int} (h1 : -9223372036854775808 ≤ n) (h2 : n ≤ 9223372036854775807) :
    (Instr.lookup 112 (.map none) (.int .i64 n) true).run Try.prog w = .ok (.tuple #[blkV zB, .bool false]) w := by
  have := Maps.look_nil true intKeyed Try.underlying112 (zeroBlk w) (keyOf_num h1 h2)
  exact this
theorem atB_length {v : Vol} (h : ImgOk v) (n : Int) : (atB v.cells n).length = 48 := by
  unfold atB
  cases hg : getC v.cells n with
  | none => rfl
  | some f => obtain ⟨k, hm, _⟩ := getC_mem hg; exact (h.c _ hm).2
theorem ImOk.len {w : World} {m : Vm} (h : ImOk w m) (ty : TypeId) : (Builtin.len_ #[112] ty #[.map (some m.bb)]).run Try.prog w = .ok (.int .i64 (m.v.cells.length : Nat)) w := by
  have := World.ownsMap.len h.hc Try.underlying112 ty
  rw [cellsD_size] at this
  exact this
theorem MdQ.len {w : World} {F : Nat → Prop} {s mb : Nat} {M : List Vm} (h : MdQ w F s mb M) (ty : TypeId) : (Builtin.len_ #[98] ty #[.map (some mb)]).run Try.prog w = .ok (.int .i64 (M.length : Nat)) w := by
  have := World.ownsMap.len h.hm Try.underlying98 ty
  rw [imgD_size] at this
  exact this

/-- A model at block s holds these images. -/
def MdL (w : World) (F : Nat → Prop) (s : Nat) (L : List Vol) : Prop := ∃ M mb, MdQ w F s mb M ∧ vs M = L
theorem MdL.only {R : Nat → Prop} {w w' : World} {F : Nat → Prop} {s : Nat} {L : List Vol} (h : MdL w F s L) (hO : Only R w w') (hR : ∀ b, F b → ¬ R b) : MdL w' F s L := by
  obtain ⟨M, mb, h, e⟩ := h
  exact ⟨M, mb, h.kept (fun b hF => hO.block b (h.Flt b hF) (hR b hF)) (fun _ h => h) (fun b hF => Nat.lt_of_lt_of_le (h.Flt b hF) hO.size), e⟩
theorem MdL.below {w w' : World} {F : Nat → Prop} {s : Nat} {L : List Vol} (h : MdL w F s L) (hb : Below w.heap.size w w') : MdL w' F s L :=
  h.only (Only.of_below (R := fun _ => False) hb) fun _ _ h => h
theorem MdL.more {w : World} {F F' : Nat → Prop} {s : Nat} {L : List Vol} (h : MdL w F s L) (hF : ∀ b, F b → F' b) (hlt : ∀ b, F' b → b < w.heap.size) : MdL w F' s L := by
  obtain ⟨M, mb, h, e⟩ := h
  exact ⟨M, mb, h.kept (fun _ _ => rfl) hF hlt, e⟩
theorem MdL.lt {w : World} {F : Nat → Prop} {s : Nat} {L : List Vol} (h : MdL w F s L) : ∀ b, F b → b < w.heap.size := by
  obtain ⟨M, mb, h, e⟩ := h
  exact h.Flt
theorem MdL.same {w w' : World} {F : Nat → Prop} {s : Nat} {L : List Vol} (h : MdL w F s L) (hb : Below w.heap.size w w') : MdL w' (newF F w w') s L :=
  (h.below hb).more (fun _ h => .inl h) (newF_lt h.lt hb.size)
theorem MdL.rise {w : World} {F : Nat → Prop} {s : Nat} {L : List Vol} (h : MdL w F s L) : RiseV L := by
  obtain ⟨M, mb, h, rfl⟩ := h
  have := h.rs
  unfold RiseM at this
  unfold RiseV vs
  rw [List.pairwise_map]
  exact this
theorem MdL.ok {w : World} {F : Nat → Prop} {s : Nat} {L : List Vol} (h : MdL w F s L) : ∀ v ∈ L, ImgOk v := by
  obtain ⟨M, mb, h, rfl⟩ := h
  intro v hv
  obtain ⟨m, hm, rfl⟩ := List.mem_map.1 hv
  exact (h.vm m hm).ok

end Go.Proofs.Ytcajhndhjlfmaaa

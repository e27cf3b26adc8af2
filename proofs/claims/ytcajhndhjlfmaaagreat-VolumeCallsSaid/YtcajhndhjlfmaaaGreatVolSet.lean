/-
  A set of volumes as it stands in memory.
-/
import Derived.Test.YtcajhndhjlfmaaaGreatVolMath
import Derived.Test.YtcajhndhjlfmaaaGreatDigR
namespace Go.Proofs.YtcajhndhjlfmaaaGreat
open Go.RowKit
open Go.Maps (Keyed)
set_option linter.unusedVariables false
set_option linter.unusedSimpArgs false

theorem World.ownsMap.tight {H : Type} {P : Program} {k : TypeId} {R : Value → Option (DataW H × List MemPlace)} {w : World} {b n : Nat} {D : DataW H} (h : w.ownsMap P k R b n D) : w.ownsMap P k R b (Maps.size D) D := by
  obtain ⟨es, clock, hb, F, hs, rfl⟩ := h
  exact ⟨es, clock, hb, F, by simp [Maps.size, length_sorted], rfl⟩
theorem World.ownsMap.at_ {H : Type} {P : Program} {k : TypeId} {R : Value → Option (DataW H × List MemPlace)} {w w' : World} {b n : Nat} {D : DataW H} (h : w.ownsMap P k R b n D) (he : w'.heap[b]? = w.heap[b]?) : w'.ownsMap P k R b n D := by
  obtain ⟨es, clock, hb, F, hs, hD⟩ := h
  exact ⟨es, clock, he.trans hb, F, hs, hD⟩

theorem strKeyed : Keyed Tryz.prog 9 := Go.Maps.string_keyed Tryz.underlying9
theorem intKeyed : Keyed Tryz.prog 3 := Go.Maps.int_keyed Tryz.underlying3
theorem keyOf_name {nm : ByteArray} (h : nm.size ≤ maxLen) : keyOf Tryz.prog 9 (.string nm) = some (.string nm.data.toList) := by
  simp [keyOf, mapKey, Tryz.underlying9, h]
theorem keyOf_num {n : Int} (h1 : -9223372036854775808 ≤ n) (h2 : n ≤ 9223372036854775807) : keyOf Tryz.prog 3 (.int .i64 n) = some (.int .i64 n) :=
  Go.Maps.keyOf_int_mk Tryz.underlying3 (by simp [Lit.wf, IntKind.min, IntKind.max, IntKind.signed, IntKind.bits]; omega)
theorem zeroPtr (w : World) : (zeroValue 62).run Tryz.prog w = .ok (.pointer none) w := by kernel_rfl

theorem pair_ne {α : Type} {R : α → α → Prop} (sym : ∀ a b, R a b → R b a) {l : List α} (h : l.Pairwise R) {a b : α} (ha : a ∈ l) (hb : b ∈ l) (hne : a ≠ b) : R a b := by
  induction l with
  | nil => simp at ha
  | cons y r ih =>
    rw [List.pairwise_cons] at h
    rcases List.mem_cons.1 ha with ha | ha <;> rcases List.mem_cons.1 hb with hb | hb
    · exact absurd (ha.trans hb.symm) hne
    · rw [ha]; exact h.1 b hb
    · rw [hb]; exact sym _ _ (h.1 a ha)
    · exact ih h.2 ha hb
/-- May a name be? -/
def namedB (l : List UInt8) : Bool := decide (1 ≤ l.length) && decide (l.length ≤ 20) && l.all fun b => decide (33 ≤ b.toNat) && decide (b.toNat ≤ 126)
structure VolOk (v : Vol) : Prop where
  q : v.quota ≤ 1048576
  le : v.cells.length ≤ v.quota
  rs : Rise v.cells
  c : ∀ c ∈ v.cells, c.1 < 1048576 ∧ c.2.length = 32
  nm : namedB v.name.data.toList = true
theorem namedB_size {v : ByteArray} (h : namedB v.data.toList = true) : v.size ≤ 20 := by
  unfold namedB at h
  simp only [Bool.and_eq_true, decide_eq_true_eq, Array.length_toList] at h
  exact h.1.2
/-- A volume's block, its blocks' map. -/
structure VmOk (w : World) (m : Vm) : Prop where
  hv : Arr w m.vb 68 [.int .i64 (m.v.quota : Nat), .bool m.v.frozen, .map (some m.bb)]
  hc : w.ownsMap Tryz.prog 3 digR m.bb m.v.cells.length (cellsD m.v.cells)
  ok : VolOk m.v

/-- A set at block s, its volumes' map at block mb. F: its blocks. -/
structure SetQ (w : World) (F : Nat → Prop) (s mb : Nat) (M : List Vm) : Prop where
  hs : Arr w s 52 [.map (some mb)]
  hm : w.ownsMap Tryz.prog 9 ptrR mb M.length (ptrD M)
  vm : ∀ m ∈ M, VmOk w m
  rs : RiseM M
  dj : M.Pairwise fun a b => a.vb ≠ b.vb ∧ a.bb ≠ b.bb
  mne : ∀ m ∈ M, m.bb ≠ mb
  Fs : F s
  Fm : F mb
  Fv : ∀ m ∈ M, F m.vb ∧ F m.bb
  Flt : ∀ b, F b → b < w.heap.size
def SetW (w : World) (F : Nat → Prop) (s : Nat) (M : List Vm) : Prop := ∃ mb, SetQ w F s mb M
def newF (F : Nat → Prop) (w w' : World) : Nat → Prop := fun b => F b ∨ (w.heap.size ≤ b ∧ b < w'.heap.size)
theorem newF_lt {F : Nat → Prop} {w w' : World} (hF : ∀ b, F b → b < w.heap.size) (hs : w.heap.size ≤ w'.heap.size) : ∀ b, newF F w w' b → b < w'.heap.size := by
  rintro b (h | h)
  · exact Nat.lt_of_lt_of_le (hF b h) hs
  · exact h.2
theorem newF_trans {F : Nat → Prop} {a b c : World} (h1 : a.heap.size ≤ b.heap.size) (h2 : b.heap.size ≤ c.heap.size) : ∀ k, newF (newF F a b) b c k → newF F a c k := by
  rintro k ((h | h) | h)
  · exact .inl h
  · exact .inr ⟨h.1, by omega⟩
  · exact .inr ⟨by omega, h.2⟩

theorem VmOk.kept {w w' : World} {m : Vm} (h : VmOk w m) (h1 : w'.heap[m.vb]? = w.heap[m.vb]?) (h2 : w'.heap[m.bb]? = w.heap[m.bb]?) : VmOk w' m :=
  ⟨h1.trans h.hv, World.ownsMap.at_ h.hc h2, h.ok⟩
theorem SetQ.kept {w w' : World} {F F' : Nat → Prop} {s mb : Nat} {M : List Vm} (h : SetQ w F s mb M) (hb : ∀ b, F b → w'.heap[b]? = w.heap[b]?) (hF : ∀ b, F b → F' b) (hlt : ∀ b, F' b → b < w'.heap.size) : SetQ w' F' s mb M where
  hs := (hb s h.Fs).trans h.hs
  hm := World.ownsMap.at_ h.hm (hb mb h.Fm)
  vm := fun m hm => (h.vm m hm).kept (hb _ (h.Fv m hm).1) (hb _ (h.Fv m hm).2)
  rs := h.rs
  dj := h.dj
  mne := h.mne
  Fs := hF _ h.Fs
  Fm := hF _ h.Fm
  Fv := fun m hm => ⟨hF _ (h.Fv m hm).1, hF _ (h.Fv m hm).2⟩
  Flt := hlt
theorem SetW.lt {w : World} {F : Nat → Prop} {s : Nat} {M : List Vm} (h : SetW w F s M) : ∀ b, F b → b < w.heap.size := by
  obtain ⟨mb, h⟩ := h
  exact h.Flt
/-- What turns no block of the set leaves it. -/
theorem SetW.only {R : Nat → Prop} {w w' : World} {F : Nat → Prop} {s : Nat} {M : List Vm} (h : SetW w F s M) (hO : Only R w w') (hR : ∀ b, F b → ¬ R b) : SetW w' F s M := by
  obtain ⟨mb, h⟩ := h
  exact ⟨mb, h.kept (fun b hF => hO.block b (h.Flt b hF) (hR b hF)) (fun _ h => h) fun b hF => Nat.lt_of_lt_of_le (h.Flt b hF) hO.size⟩
theorem SetW.below {w w' : World} {F : Nat → Prop} {s : Nat} {M : List Vm} (h : SetW w F s M) (hb : Below w.heap.size w w') : SetW w' F s M :=
  h.only (Only.of_below (R := fun _ => False) hb) fun _ _ h => h
theorem SetW.more {w : World} {F F' : Nat → Prop} {s : Nat} {M : List Vm} (h : SetW w F s M) (hF : ∀ b, F b → F' b) (hlt : ∀ b, F' b → b < w.heap.size) : SetW w F' s M := by
  obtain ⟨mb, h⟩ := h
  exact ⟨mb, h.kept (fun _ _ => rfl) hF hlt⟩

/-- A volume's blocks turn: its map. -/
theorem SetQ.turn {w w' : World} {F : Nat → Prop} {s mb : Nat} {M : List Vm} (h : SetQ w F s mb M) {m : Vm} (hm : m ∈ M) {cs : List Cl} {n : Nat} (h2 : w'.ownsMap Tryz.prog 3 digR m.bb n (cellsD cs)) (hg : w.grownBy w' (some m.bb)) (hok : VolOk { m.v with cells := cs }) :
    SetQ w' (newF F w w') s mb (setM M m.v.name cs) := by
  have hkeep : ∀ b, F b → b ≠ m.bb → w'.heap[b]? = w.heap[b]? := fun b hF hne => hg.block b (h.Flt b hF) fun e => hne (by injection e)
  have hsz := hg.size
  have hmap : ∀ {b : Nat} {T : TypeId} {c : List Value}, Arr w b T c → b ≠ m.bb := fun {b T c} ha e => by
    obtain ⟨es, clock, hb, _⟩ := (h.vm m hm).hc
    rw [e] at ha
    have := ha.symm.trans hb
    cases this
  have h2' := World.ownsMap.tight h2
  rw [cellsD_size] at h2'
  have hD := ptrD_set M m.v.name cs
  have hl : (setM M m.v.name cs).length = M.length := by simp [setM]
  refine { hs := (hkeep s h.Fs (hmap h.hs)).trans h.hs, hm := ?_, vm := ?_, rs := setM_rise h.rs _ _, dj := ?_, mne := ?_, Fs := .inl h.Fs, Fm := .inl h.Fm, Fv := ?_, Flt := newF_lt h.Flt hsz }
  · rw [hD, hl]
    exact World.ownsMap.at_ h.hm (hkeep mb h.Fm fun e => h.mne m hm e.symm)
  · intro c hc
    obtain ⟨x, hx, e1, e2, hcase⟩ := setM_mem hc
    rcases hcase with ⟨rfl, hne⟩ | ⟨he, rfl⟩
    · have hxm : c ≠ m := fun e => hne (by rw [e])
      have hbb : c.bb ≠ m.bb := by
        have hsym : M.Pairwise fun a b => a.bb ≠ b.bb := h.dj.imp fun h => h.2
        exact pair_ne (fun a b h => h.symm) hsym hx hm hxm
      exact (h.vm c hx).kept (hkeep _ (h.Fv c hx).1 (hmap (h.vm c hx).hv)) (hkeep _ (h.Fv c hx).2 hbb)
    · obtain rfl : x = m := key_apart h.rs hx hm (by rw [key, key, he])
      exact ⟨(hkeep _ (h.Fv x hx).1 (hmap (h.vm x hx).hv)).trans (h.vm x hx).hv, h2', hok⟩
  · unfold setM
    rw [List.pairwise_map]
    refine h.dj.imp fun {a b} hab => ?_
    have e : ∀ x : Vm, (if key x = m.v.name.data.toList then { x with v := { x.v with cells := cs } } else x).vb = x.vb ∧ (if key x = m.v.name.data.toList then { x with v := { x.v with cells := cs } } else x).bb = x.bb := fun x => by split <;> exact ⟨rfl, rfl⟩
    rw [(e a).1, (e b).1, (e a).2, (e b).2]
    exact hab
  · intro c hc
    obtain ⟨x, hx, e1, e2, _⟩ := setM_mem hc
    rw [e2]
    exact h.mne x hx
  · intro c hc
    obtain ⟨x, hx, e1, e2, _⟩ := setM_mem hc
    rw [e1, e2]
    exact ⟨.inl (h.Fv x hx).1, .inl (h.Fv x hx).2⟩

/-- A volume more: its blocks are new, the set's map turns. -/
theorem SetQ.add {w w1 w2 : World} {F : Nat → Prop} {s mb : Nat} {M : List Vm} (h : SetQ w F s mb M) {x : Vm} (hx : VmOk w1 x) (hb : Below w.heap.size w w1) (h1 : w.heap.size ≤ x.vb) (h2 : w.heap.size ≤ x.bb) (hn : hasM M x.v.name = false)
    {n : Nat} (hm : w2.ownsMap Tryz.prog 9 ptrR mb n ((ptrD M).put (.string x.v.name.data.toList) (.lit (.int .i64 (x.vb : Nat))))) (hg : w1.grownBy w2 (some mb)) : SetQ w2 (newF F w w2) s mb (insM x M) := by
  have hmlt := h.Flt mb h.Fm
  have hkeep : ∀ b, F b → b ≠ mb → w2.heap[b]? = w.heap[b]? := fun b hF hne => by
    have := h.Flt b hF
    rw [hg.block b (by have := hb.size; omega) fun e => hne (by injection e with e), hb.block b this]
  have hsz : w.heap.size ≤ w2.heap.size := Nat.le_trans hb.size hg.size
  have hxv : x.vb < w1.heap.size := hx.hv.lt
  have hxb : x.bb < w1.heap.size := World.ownsMap.lt hx.hc
  have hmap : ∀ {b : Nat} {T : TypeId} {c : List Value}, Arr w b T c → b ≠ mb := fun {b T c} ha e => by
    obtain ⟨es, clock, hb, _⟩ := h.hm
    rw [e] at ha
    have := ha.symm.trans hb
    cases this
  rw [ptrD_put hn] at hm
  have hm' := World.ownsMap.tight hm
  rw [ptrD_size] at hm'
  have hlt : ∀ m ∈ M, m.vb < w.heap.size ∧ m.bb < w.heap.size := fun m hm => ⟨h.Flt _ (h.Fv m hm).1, h.Flt _ (h.Fv m hm).2⟩
  have hno : ∀ c ∈ M, key c ≠ key x := fun c hc e => by
    unfold hasM at hn
    have := List.any_eq_false.1 hn c hc
    simp only [decide_eq_true_eq] at this
    exact this e
  refine { hs := (hkeep s h.Fs (hmap h.hs)).trans h.hs, hm := hm', vm := ?_, rs := insM_rise h.rs hno, dj := ?_, mne := ?_, Fs := .inl h.Fs, Fm := .inl h.Fm, Fv := ?_, Flt := newF_lt h.Flt hsz }
  · intro c hc
    rcases insM_mem.1 hc with rfl | hc
    · exact hx.kept (hg.block _ hxv fun e => by injection e with e; omega) (hg.block _ hxb fun e => by injection e with e; omega)
    · exact (h.vm c hc).kept (hkeep _ (h.Fv c hc).1 (hmap (h.vm c hc).hv)) (hkeep _ (h.Fv c hc).2 (h.mne c hc))
  · refine insM_pair (fun a b h => ⟨h.1.symm, h.2.symm⟩) h.dj fun c hc => ⟨?_, ?_⟩
    · have := (hlt c hc).1; omega
    · have := (hlt c hc).2; omega
  · intro c hc
    rcases insM_mem.1 hc with rfl | hc
    · omega
    · exact h.mne c hc
  · intro c hc
    rcases insM_mem.1 hc with rfl | hc
    · exact ⟨.inr ⟨h1, by have := hg.size; omega⟩, .inr ⟨h2, by have := hg.size; omega⟩⟩
    · exact ⟨.inl (h.Fv c hc).1, .inl (h.Fv c hc).2⟩

/-- A volume less. -/
theorem SetQ.del {w w2 : World} {F : Nat → Prop} {s mb : Nat} {M : List Vm} (h : SetQ w F s mb M) {nm : ByteArray} {n : Nat} (hm : w2.ownsMap Tryz.prog 9 ptrR mb n ((ptrD M).del (.string nm.data.toList))) (hg : w.grownBy w2 (some mb)) : SetQ w2 (newF F w w2) s mb (delM M nm) := by
  have hkeep : ∀ b, F b → b ≠ mb → w2.heap[b]? = w.heap[b]? := fun b hF hne => hg.block b (h.Flt b hF) fun e => hne (by injection e with e)
  have hmap : ∀ {b : Nat} {T : TypeId} {c : List Value}, Arr w b T c → b ≠ mb := fun {b T c} ha e => by
    obtain ⟨es, clock, hb, _⟩ := h.hm
    rw [e] at ha
    have := ha.symm.trans hb
    cases this
  rw [ptrD_del] at hm
  have hm' := World.ownsMap.tight hm
  rw [ptrD_size] at hm'
  refine { hs := (hkeep s h.Fs (hmap h.hs)).trans h.hs, hm := hm', vm := ?_, rs := h.rs.filter _, dj := h.dj.filter _, mne := ?_, Fs := .inl h.Fs, Fm := .inl h.Fm, Fv := ?_, Flt := newF_lt h.Flt hg.size }
  · intro c hc
    have hc := (delM_mem.1 hc).1
    exact (h.vm c hc).kept (hkeep _ (h.Fv c hc).1 (hmap (h.vm c hc).hv)) (hkeep _ (h.Fv c hc).2 (h.mne c hc))
  · exact fun c hc => h.mne c (delM_mem.1 hc).1
  · exact fun c hc => ⟨.inl (h.Fv c (delM_mem.1 hc).1).1, .inl (h.Fv c (delM_mem.1 hc).1).2⟩

/-! ### what the maps' operations do -/
theorem SetQ.look_no {w : World} {F : Nat → Prop} {s mb : Nat} {M : List Vm} (h : SetQ w F s mb M) {nm : ByteArray} (hs : nm.size ≤ maxLen) (hn : findM M nm = none) :
    (Instr.lookup 50 (.map (some mb)) (.string nm) false).run Tryz.prog w = .ok (.pointer none) w := by
  obtain ⟨v, ps, hr, hv⟩ := World.ownsMap.lookup h.hm strKeyed Tryz.underlying50 (zeroPtr w) ptrR_nil (keyOf_name hs)
  rw [ptrD_at, hn] at hv
  rw [hr, ptrR_invNil hv]
theorem SetQ.look_yes {w : World} {F : Nat → Prop} {s mb : Nat} {M : List Vm} (h : SetQ w F s mb M) {nm : ByteArray} (hs : nm.size ≤ maxLen) {m : Vm} (hn : findM M nm = some m) :
    (Instr.lookup 50 (.map (some mb)) (.string nm) false).run Tryz.prog w = .ok (.pointer (some ⟨m.vb, 0, none⟩)) w := by
  obtain ⟨v, ps, hr, hv⟩ := World.ownsMap.lookup h.hm strKeyed Tryz.underlying50 (zeroPtr w) ptrR_nil (keyOf_name hs)
  rw [ptrD_at, hn] at hv
  rw [hr, ptrR_inv hv]
/-- A block's fingerprint, or the zero one; whether there is one. -/
def atC (cs : List Cl) (n : Int) : List UInt8 := (getC cs n).getD zeros
theorem VmOk.look {w : World} {m : Vm} (h : VmOk w m) {n : Int} (h1 : -9223372036854775808 ≤ n) (h2 : n ≤ 9223372036854775807) :
    (Instr.lookup 66 (.map (some m.bb)) (.int .i64 n) true).run Tryz.prog w = .ok (.tuple #[.agg (Lib.byteCells (atC m.v.cells n)).toArray, .bool (hasC m.v.cells n)]) w := by
  obtain ⟨v, ps, hr, hv⟩ := World.ownsMap.look_ok h.hc intKeyed Tryz.underlying66 (zeroDig w) (digR_mk (d := zeros) rfl) (keyOf_num h1 h2)
  rw [cellsD_has] at hr
  rw [cellsD_at] at hv
  rw [hr]
  have : v = .agg (Lib.byteCells (atC m.v.cells n)).toArray := by
    unfold atC
    cases hg : getC m.v.cells n with
    | none => rw [hg] at hv; exact (digR_inv hv).2
    | some f => rw [hg] at hv; exact (digR_inv hv).2
  rw [this]
theorem VmOk.look1 {w : World} {m : Vm} (h : VmOk w m) {n : Int} (h1 : -9223372036854775808 ≤ n) (h2 : n ≤ 9223372036854775807) :
    (Instr.lookup 66 (.map (some m.bb)) (.int .i64 n) false).run Tryz.prog w = .ok (.agg (Lib.byteCells (atC m.v.cells n)).toArray) w := by
  obtain ⟨v, ps, hr, hv⟩ := World.ownsMap.lookup h.hc intKeyed Tryz.underlying66 (zeroDig w) (digR_mk (d := zeros) rfl) (keyOf_num h1 h2)
  rw [cellsD_at] at hv
  rw [hr]
  have : v = .agg (Lib.byteCells (atC m.v.cells n)).toArray := by
    unfold atC
    cases hg : getC m.v.cells n with
    | none => rw [hg] at hv; exact (digR_inv hv).2
    | some f => rw [hg] at hv; exact (digR_inv hv).2
  rw [this]
theorem atC_length {v : Vol} (h : VolOk v) (n : Int) : (atC v.cells n).length = 32 := by
  unfold atC
  cases hg : getC v.cells n with
  | none => rfl
  | some f => obtain ⟨k, hm, _⟩ := getC_mem hg; exact (h.c _ hm).2
theorem VmOk.len {w : World} {m : Vm} (h : VmOk w m) (ty : TypeId) : (Builtin.len_ #[66] ty #[.map (some m.bb)]).run Tryz.prog w = .ok (.int .i64 (m.v.cells.length : Nat)) w := by
  have := World.ownsMap.len h.hc Tryz.underlying66 ty
  rw [cellsD_size] at this
  exact this
theorem SetQ.len {w : World} {F : Nat → Prop} {s mb : Nat} {M : List Vm} (h : SetQ w F s mb M) (ty : TypeId) : (Builtin.len_ #[50] ty #[.map (some mb)]).run Tryz.prog w = .ok (.int .i64 (M.length : Nat)) w := by
  have := World.ownsMap.len h.hm Tryz.underlying50 ty
  rw [ptrD_size] at this
  exact this

end Go.Proofs.YtcajhndhjlfmaaaGreat

/-
  Distinct.
-/
import Derived.Test.YtcajhndhjlfmaaaModKey
import Derived.Test.YtcajhndhjlfmaaaModAns
import Derived.Maps.RangeWalk
import Derived.WideKeyEntry
namespace Go.Proofs.Ytcajhndhjlfmaaa
open Go.RowKit Go.WideElems Go.ChangeMaps Go.MapKept
set_option linter.unusedVariables false
set_option linter.unusedSimpArgs false

theorem mkR_shape {α : Type} {V : α → Value} {D : α → DataW Unit} {v : Value} {y : DataW Unit × List MemPlace} (h : mkR V D v = some y) : ∃ a, v = V a := by
  unfold mkR at h
  split at h
  · rename_i hx
    exact hx
  · cases h
/-- A number in a map. -/
noncomputable def numR := mkR (fun n : Int => Value.int .i64 n) fun n => .lit (.int .i64 n)
theorem numR_mk (n : Int) : numR (.int .i64 n) = some (.lit (.int .i64 n), []) := mkR_mk (V := fun n : Int => Value.int .i64 n) (fun a b h => by injection h) n
theorem numR_shape {v : Value} {y : DataW Unit × List MemPlace} (h : numR v = some y) : ∃ n : Int, v = .int .i64 n := mkR_shape (V := fun n : Int => Value.int .i64 n) h
set_option maxRecDepth 100000 in
theorem blkLaw : WideMaps.KeyLaw Try.prog 42 := by
  exact (deep_law (m := 2) (by omega) (by kernel_rfl) (by kernel_rfl) blkWide)
theorem zeroNum (u : World) : (zeroValue 3).run Try.prog u = .ok (.int .i64 0) u := by kernel_rfl

/-- 'm[k]++', its two halves. -/
theorem entry_run {w : World} {b n : Nat} {D : DataW Unit} (h : w.ownsMap Try.prog 42 numR b n D) (hn : n < maxLen) {key : Value} {kl : Lit} (hkey : keyOf Try.prog 42 key = some kl) :
    ∃ (v0 : Value) (st : Nat) (w1 : World), (Instr.mapEntry 117 (.map (some b)) key).run Try.prog w = .ok (.tuple #[v0, goInt st]) w1 ∧ w.grownBy w1 (some b) ∧ w1.heap.size = w.heap.size ∧
      ∀ (w2 : World), w2.heap[b]? = w1.heap[b]? → ∀ c : Int, ∃ w3, (Instr.entryStore 117 (.map (some b)) (goInt st) (.int .i64 c)).run Try.prog w2 = .ok () w3 ∧ w3.ownsMap Try.prog 42 numR b (n + 1) (D.put kl (.lit (.int .i64 c))) ∧ w2.grownBy w3 (some b) ∧ w3.heap.size = w2.heap.size := by
  have h0 := h
  have hbl := World.ownsMap.lt h
  obtain ⟨es, clock, hb, F, hs, rfl⟩ := h
  obtain ⟨v0, st, es1, clock1, h1, _, h3⟩ := entry_then_store blkLaw Try.underlying117 zeroNum hb F hkey
  refine ⟨v0, st, _, h1, ⟨rfl, rfl, rfl, by simp [setBlock], fun i _ hi => heap_setBlock_other hb _ (fun e => hi (by rw [e]))⟩, by simp [setBlock], fun w2 hw2 c => ?_⟩
  rw [heap_setBlock_same hb] at hw2
  obtain ⟨es', clock', hr1, hr2⟩ := h3 w2 (.int .i64 c) hw2
  obtain ⟨w', hr3, how, _⟩ := World.ownsMap.update h0 blkKeyed Try.underlying117 hn hkey (numR_mk c)
  rw [hr2] at hr3
  injection hr3 with _ hr3
  subst hr3
  refine ⟨_, hr1, World.ownsMap.at_ how ?_, ⟨rfl, rfl, rfl, by simp [setBlock], fun i _ hi => heap_setBlock_other hw2 _ (fun e => hi (by rw [e]))⟩, by simp [setBlock]⟩
  rw [heap_setBlock_same hw2, heap_setBlock_same hb]

theorem modify_id {α : Type} {l : List α} {j : Nat} {a : α} {f : α → α} (h : l[j]? = some a) (hf : f a = a) : l.modify j f = l := by
  apply List.ext_getElem?
  intro i
  rw [List.getElem?_modify]
  by_cases e : j = i
  · subst e
    simp [h, hf]
  · simp [e]
/-- Behind the first half the key has the value that it had, or zero. -/
theorem entry_lookup {w w1 : World} {b n : Nat} {D : DataW Unit} (h : w.ownsMap Try.prog 42 numR b n D) (hn : n < maxLen) {key out : Value} {kl : Lit} (hkey : keyOf Try.prog 42 key = some kl)
    (he : (Instr.mapEntry 117 (.map (some b)) key).run Try.prog w = .ok out w1) {c : Int} (hl : (Instr.lookup 117 (.map (some b)) key false).run Try.prog w = .ok (.int .i64 c) w) (w2 : World) (hw2 : w2.heap[b]? = w1.heap[b]?) :
    (Instr.lookup 117 (.map (some b)) key false).run Try.prog w2 = .ok (.int .i64 c) w2 := by
  have h0 := h
  obtain ⟨es, clock, hb, F, hs, rfl⟩ := h
  have ht := Try.underlying117
  rcases blkLaw.find w hkey es.toList F.keys with ⟨h1, h2⟩ | ⟨j, e0, h1, h2, h3⟩
  · have e1 : (Instr.mapEntry 117 (.map (some b)) key).run Try.prog w = .ok (.tuple #[.int .i64 0, goInt clock]) (setBlock w b (.map (es.push ⟨key, .int .i64 0, clock⟩) (clock + 1))) := by
      simp [Instr.mapEntry, run_underlying ht, MapKept.run_getObj_map hb, blkLaw.check w false hkey, h1, zeroNum, MapKept.run_setObj_map _ hb, Result.andThen, setBlock]
    have e2 : (Instr.mapUpdate 117 (.map (some b)) key (.int .i64 0)).run Try.prog w = .ok () (setBlock w b (.map (es.push ⟨key, .int .i64 0, clock⟩) (clock + 1))) := by
      simp [Instr.mapUpdate, run_underlying ht, MapKept.run_getObj_map hb, blkLaw.check w false hkey, h1, MapKept.run_setObj_map _ hb, Result.andThen, setBlock]
    have he := (Result.ok.inj (e1.symm.trans he)).2
    subst he
    obtain ⟨w', hr3, how, _⟩ := World.ownsMap.update h0 blkKeyed ht hn hkey (numR_mk 0)
    have hr3 := (Result.ok.inj (e2.symm.trans hr3)).2
    subst hr3
    obtain ⟨v2, ps2, hr2, hv2⟩ := World.ownsMap.lookup (World.ownsMap.at_ how hw2) blkKeyed ht (zeroNum w2) (numR_mk 0) hkey
    obtain ⟨c2, rfl⟩ := numR_shape hv2
    rw [numR_mk, Go.Maps.atKey_put_same (World.ownsMap.isMap h0) (blkKeyed.key hkey)] at hv2
    simp only [Option.some.injEq, Prod.mk.injEq, DataW.lit.injEq, Lit.int.injEq, true_and] at hv2
    rw [hr2, hv2.1]
    rcases Go.Maps.fit_look false blkKeyed ht (zeroNum w) hb F hkey with ⟨hrun, _, _⟩ | ⟨e0, y, hmem, hk0, _⟩
    · rw [hl] at hrun
      simp only [Bool.false_eq_true, if_false, Result.ok.injEq, Value.int.injEq, true_and, and_true] at hrun
      rw [hrun]
    · exact absurd hk0 (h2 e0 hmem)
  · have hj : es[j]? = some e0 := by simpa using h2
    have hsame : es.modify j (fun e => { e with key := key }) = es := by
      apply Array.ext'
      rw [Array.toList_modify]
      exact modify_id h2 (by rw [← h3])
    have e1 : (Instr.mapEntry 117 (.map (some b)) key).run Try.prog w = .ok (.tuple #[e0.val, goInt e0.born]) (setBlock w b (.map es clock)) := by
      simp [Instr.mapEntry, run_underlying ht, MapKept.run_getObj_map hb, blkLaw.check w false hkey, h1, hj, h3, blkLaw.stays w hkey, hsame, MapKept.run_setObj_map _ hb, Result.andThen, setBlock]
    have he := (Result.ok.inj (e1.symm.trans he)).2
    subst he
    rw [heap_setBlock_same hb, ← hb] at hw2
    obtain ⟨v1, ps1, hr1, hv1⟩ := World.ownsMap.lookup h0 blkKeyed ht (zeroNum w) (numR_mk 0) hkey
    obtain ⟨v2, ps2, hr2, hv2⟩ := World.ownsMap.lookup (World.ownsMap.at_ h0 hw2) blkKeyed ht (zeroNum w2) (numR_mk 0) hkey
    have hr1 := (Result.ok.inj (hl.symm.trans hr1)).1
    subst hr1
    obtain ⟨c2, rfl⟩ := numR_shape hv2
    rw [numR_mk] at hv1 hv2
    simp only [Option.some.injEq, Prod.mk.injEq] at hv1 hv2
    have := hv1.1.trans hv2.1.symm
    simp only [DataW.lit.injEq, Lit.int.injEq, true_and] at this
    rw [hr2, this]
theorem wp_entryStore_to {P : Program} {o : Oper} {a : Act} {w w' : World} {K : Act → World → Prop} {Q : Exit → Act → World → Prop} (hd : o.dst = none) (t : TypeId) (m s x : Operand) (ho : o.op = Op.entryStore t m s x)
    (hrun : (Instr.entryStore t (a.eval m) (a.eval s) (a.eval x)).run P w = .ok () w') (hK : K a w') : o.wp P a w K Q := by
  have he : a.put o.dst undef = a := by rw [hd]; rfl
  have hk : K (a.put o.dst undef) w' := by rw [he]; exact hK
  unfold Oper.wp
  simp [execOp, ho, hrun, Result.andThen]
  exact hk
/-- How often blocks are there: the map's keys are ks. -/
structure Tks (T : DataW Unit) (ks : List (List UInt8)) : Prop where
  tidy : Go.Maps.Tidy T
  nd : ks.Nodup
  sz : Maps.size T = ks.length
  has : ∀ k, Maps.has T (.string k) = decide (k ∈ ks)
theorem Tks.nil : Tks (.map []) [] := ⟨Go.Maps.tidy_empty, List.nodup_nil, rfl, fun k => by simp [Go.Maps.has_eq]⟩
theorem Tks.put {T : DataW Unit} {ks : List (List UInt8)} (h : Tks T ks) (b : List UInt8) (d : DataW Unit) : ∃ ks', Tks (T.put (.string b) d) ks' ∧ (∀ x, x ∈ ks' ↔ x ∈ ks ∨ x = b) ∧ ks'.length ≤ ks.length + 1 := by
  have hk : WideAt.IsKeyLit (.string b) := trivial
  have hsz := Go.Maps.size_put (k := .string b) h.tidy d
  have hhas : ∀ k, Maps.has (T.put (.string b) d) (.string k) = (decide (k ∈ ks) || decide (k = b)) := fun k => by
    by_cases e : k = b
    · subst e
      rw [Go.Maps.has_put_same h.tidy.isMap hk]
      simp
    · rw [Go.Maps.has_put_other (fun e' => e (by injection e')), h.has]
      simp [e]
  by_cases hm : b ∈ ks
  · refine ⟨ks, ⟨h.tidy.put hk d, h.nd, ?_, fun k => ?_⟩, fun x => ?_, by omega⟩
    · rw [hsz, h.has, decide_eq_true hm]
      exact h.sz
    · rw [hhas]
      by_cases e : k = b
      · subst e; simp [hm]
      · simp [e]
    · constructor
      · exact .inl
      · rintro (hx | rfl)
        · exact hx
        · exact hm
  · refine ⟨ks ++ [b], ⟨h.tidy.put hk d, ?_, ?_, fun k => ?_⟩, fun x => by simp, by simp⟩
    · rw [List.nodup_append]
      refine ⟨h.nd, by simp, fun a ha c hc e => ?_⟩
      rw [List.mem_singleton] at hc
      subst hc e
      exact hm ha
    · rw [hsz, h.has, decide_eq_false hm]
      simp [h.sz]
    · rw [hhas]
      simp
/-- All blocks. -/
def blksV (L : List Vol) : List (List UInt8) := L.flatMap fun v => v.cells.map (·.2)
/-- Each once. -/
def nubB (l : List (List UInt8)) : List (List UInt8) := l.foldl (fun acc b => if b ∈ acc then acc else acc ++ [b]) []
def distL (L : List Vol) : Nat := (nubB (blksV L)).length
theorem nub_go : ∀ (l acc : List (List UInt8)), acc.Nodup → (l.foldl (fun acc b => if b ∈ acc then acc else acc ++ [b]) acc).Nodup ∧ ∀ x, x ∈ l.foldl (fun acc b => if b ∈ acc then acc else acc ++ [b]) acc ↔ x ∈ acc ∨ x ∈ l
  | [], acc, h => ⟨h, fun x => by simp⟩
  | b :: l, acc, h => by
    rw [List.foldl_cons]
    by_cases hm : b ∈ acc
    · rw [if_pos hm]
      obtain ⟨h1, h2⟩ := nub_go l acc h
      refine ⟨h1, fun x => (h2 x).trans ?_⟩
      rw [List.mem_cons]
      constructor
      · rintro (h | h)
        · exact .inl h
        · exact .inr (.inr h)
      · rintro (h | rfl | h)
        · exact .inl h
        · exact .inl hm
        · exact .inr h
    · rw [if_neg hm]
      obtain ⟨h1, h2⟩ := nub_go l (acc ++ [b]) (by
        rw [List.nodup_append]
        refine ⟨h, by simp, fun a ha c hc e => ?_⟩
        rw [List.mem_singleton] at hc
        subst hc e
        exact hm ha)
      refine ⟨h1, fun x => (h2 x).trans ?_⟩
      rw [List.mem_append, List.mem_singleton, List.mem_cons, or_assoc]
theorem dist_of {L : List Vol} {ks : List (List UInt8)} (hn : ks.Nodup) (hm : ∀ b, b ∈ ks ↔ b ∈ blksV L) : ks.length = distL L := by
  obtain ⟨h1, h2⟩ := nub_go (blksV L) [] List.nodup_nil
  exact ((List.perm_ext_iff_of_nodup hn h1).2 fun b => (hm b).trans ((h2 b).trans (by simp)).symm).length_eq
theorem ranges_below {k : TypeId} {R : Value → Option (DataW Unit × List MemPlace)} {w w' : World} {b r n : Nat} {D : DataW Unit} {left : Lit → Bool} {cnt : Nat} (h : w.ranges Try.prog k R b r n D left cnt) (hb : Below w.heap.size w w') : w'.ranges Try.prog k R b r n D left cnt :=
  h.kept (row := none) ⟨hb.os, hb.tape, hb.output, hb.size, fun i hi _ => hb.block i hi⟩ (by simp) (by simp)
theorem int_key_inv {key : Value} {kl : Lit} (h : keyOf Try.prog 3 key = some kl) : ∃ n : Int, key = .int .i64 n := by
  obtain ⟨x, e, _⟩ := Maps.keyOf_int_inv Try.underlying3 h
  exact ⟨x, e⟩
theorem int_key_is {n : Int} {kl : Lit} (h : keyOf Try.prog 3 (.int .i64 n) = some kl) : kl = .int .i64 n := by
  obtain ⟨x, e, e2, _⟩ := Maps.keyOf_int_inv Try.underlying3 h
  simp only [Value.int.injEq, true_and] at e
  rw [e2, e]
theorem str_key_inv {key : Value} {kl : Lit} (h : keyOf Try.prog 9 key = some kl) : ∃ s, key = .string s := by
  cases key <;> simp [keyOf, mapKey, Try.underlying9] at h
  exact ⟨_, rfl⟩

theorem str_key_is {nm : ByteArray} {kl : Lit} (h : keyOf Try.prog 9 (.string nm) = some kl) : nm.size ≤ maxLen ∧ kl = .string nm.data.toList := by
  simp [keyOf, mapKey, Try.underlying9] at h
  exact ⟨h.1, h.2.symm⟩

theorem str_sameKey (a b : List UInt8) : (Lit.string a).sameKey (.string b) = decide (a = b) := by
  simp only [Lit.sameKey]
  by_cases h : a = b
  · simp [h]
  · simp [h]

theorem int_sameKey (a b : Int) : (Lit.int .i64 a).sameKey (.int .i64 b) = decide (a = b) := by
  simp only [Lit.sameKey, true_and]

set_option maxHeartbeats 16000000 in
set_option maxRecDepth 100000 in
theorem distinct_any (s : Nat) (w : World) (F : Nat → Prop) (L : List Vol) (h : MdL w F s L) (hL : L.length ≤ 100000) :
    Calls Try.prog 20 #[.pointer (some ⟨s, 0, none⟩)] w fun e w' => e = .returned (.int .i64 (distL L : Nat)) ∧ Below w.heap.size w w' := by
  obtain ⟨M, mb, hQ, rfl⟩ := h
  rw [vs_length] at hL
  have HQ := Lib.hid hQ
  have hslt := hQ.Flt s hQ.Fs
  have hmlt := hQ.Flt mb hQ.Fm
  have HL := Lib.hid hL
  obtain ⟨tb, htb⟩ : ∃ z, z = w.heap.size := ⟨_, rfl⟩
  obtain ⟨w1, hw1⟩ : ∃ z, z = w.alloc (.map #[] 0) := ⟨_, rfl⟩
  have hb1 : Below w.heap.size w w1 := by rw [hw1]; exact (Below.refl _ _).alloc (Nat.le_refl _) _
  have ht1 : w1.ownsMap Try.prog 42 numR tb 0 (.map []) := by rw [hw1, htb]; exact World.ownsMap_made (H := Unit) w Try.prog 42 numR
  have hs1 : w1.heap.size = tb + 1 := by rw [hw1, htb]; simp
  have hc1 := md_cell (hQ.below hb1)
  have hown := (hQ.below hb1).hm
  have Hw1 := Lib.hid hw1
  have Htb := Lib.hid htb
  have hmk := @run_makeMap Try.prog
  have htw : w.heap.size ≤ tb := by omega
  clear hQ hw1 htb hL
  go_enter Try.func20, Try.ntmps20
  go_upto_region 2 with fail
  rw [← Hw1.out, ← Htb.out]
  clear hmk Hw1 Htb
  go_wp2_with (at_range; refine wpList_range_own _ rfl _ 98 rfl 9 114 strKeyed Try.underlying98 imgR mb M.length (imgD M) rfl hown ?_; intro w2 hrg2 hg2 hsz2)
  have hb12 : Below w1.heap.size w1 w2 := ⟨hg2.os, hg2.tape, hg2.output, hg2.size, fun i hi => hg2.block i hi (by simp)⟩
  have hb2 : Below w.heap.size w w2 := hb1.trans (hb12.mono hb1.size)
  obtain ⟨r, hr⟩ : ∃ r, r = w1.heap.size := ⟨_, rfl⟩
  rw [← hr] at hrg2 ⊢
  have hrt : tb < r := by rw [hr, hs1]; omega
  have ht2 : w2.ownsMap Try.prog 42 numR tb 0 (.map []) := World.ownsMap.at_ ht1 (hb12.block tb (by omega))
  clear hown hc1 hg2 hb1 hb12 ht1 hr hsz2 hs1
  try go_frame
  go_loopw [5, 7] (fun _ _ wr => ∃ left cnt T ks, wr.ranges Try.prog 9 imgR mb r M.length (imgD M) left cnt ∧ wr.ownsMap Try.prog 42 numR tb ks.length T ∧ Hid (Tks T ks) ∧ Hid (∀ b, b ∈ ks ↔ ∃ m ∈ M, left (.string (key m)) = false ∧ b ∈ m.v.cells.map (·.2)) ∧ Hid (ks.length + cnt * 1048576 ≤ M.length * 1048576) ∧ Below w.heap.size w wr) (fun _ _ wr => wr.rangeLeft mb r)
  case atStart =>
    refine ⟨_, _, _, [], hrg2, ht2, Lib.hid Tks.nil, Lib.hid fun b => ?_, Lib.hid ?_, hb2⟩
    · constructor
      · intro h; cases h
      · rintro ⟨m, hm, hl, _⟩
        have hh : hasM M m.v.name = true := by unfold hasM; rw [List.any_eq_true]; exact ⟨m, hm, by simp [key]⟩
        rw [key, imgD_has, hh] at hl
        cases hl
    · rw [imgD_size]; simp
  case round =>
    clear hrg2 ht2 hb2
    obtain ⟨left, cnt, T, ks, hrg, ht, HT, Hks, Hle, hbr⟩ := hrel
    go_wp2_with (at_next; refine wpList_next_ranges _ rfl _ rfl 9 strKeyed imgR Value.string imgV (fun key kl h => str_key_inv h) (fun v y h => mkR_shape h) mb r M.length (imgD M) left cnt rfl hrg ?_ ?_)
    · intro hcnt hno
      have hfin : ks.length = distL (vs M) := dist_of HT.out.nd fun b => by
        rw [Hks.out b]
        unfold blksV vs
        rw [List.mem_flatMap]
        constructor
        · rintro ⟨m, hm, _, hb⟩
          exact ⟨m.v, List.mem_map_of_mem hm, hb⟩
        · rintro ⟨v, hv, hb⟩
          obtain ⟨m, hm, rfl⟩ := List.mem_map.1 hv
          exact ⟨m, hm, hno _, hb⟩
      have hlen := World.ownsMap.len ht Try.underlying117 3
      rw [HT.out.sz, hfin] at hlen
      clear hrg hno hcnt ht hfin
      go_wp2_with fail
      go_ret
      exact ⟨rfl, hbr⟩
    · intro nm c kl y1 y2 w3 cnt3 hkey hlk hRc hatk hrg3 hlt3 hg3 hs3 hen
      obtain ⟨hnz, rfl⟩ := str_key_is hkey
      have hhas := Go.Maps.has_true_of_atKey hatk
      rw [imgD_has] at hhas
      rw [hasM_find, Option.isSome_iff_exists] at hhas
      obtain ⟨m, hm⟩ := hhas
      have hc := hatk .nil
      rw [imgD_at, hm] at hc
      dsimp only at hc
      subst hc
      have hce := imgV_inj _ _ (imgR_inv hRc)
      subst hce
      obtain ⟨hmm, hmn⟩ := findM_mem hm
      have hbw : m.bb < w.heap.size := HQ.out.Flt _ (HQ.out.Fv m hmm)
      have hb3 : Below w.heap.size w w3 := hbr.trans (show Below w.heap.size wr w3 from ⟨hg3.os, hg3.tape, hg3.output, hg3.size, fun i hi => hg3.block i (by have := hbr.size; omega) (fun e => by injection e with e; omega)⟩)
      have ht3 : w3.ownsMap Try.prog 42 numR tb ks.length T := World.ownsMap.at_ ht (hg3.block tb (by have := World.ownsMap.lt ht; exact this) (fun e => by injection e with e; omega))
      have him3 : ImOk w3 m := (HQ.out.vm m hmm).kept (hb3.block _ hbw)
      obtain ⟨leftN, hleft⟩ : ∃ z, z = (fun z => left z && !z.sameKey (.string nm.data.toList)) := ⟨_, rfl⟩
      rw [← hleft] at hrg3
      obtain ⟨VL, hVL⟩ : ∃ VL : List Value, VL = [.int .i64 (m.v.quota : Nat), .bool m.v.frozen, .map (some m.bb)] := ⟨_, rfl⟩
      have hVe : imgV ⟨(m.v.quota : Nat), m.v.frozen, some m.bb⟩ = .agg VL.toArray := by rw [hVL]; rfl
      rw [hVe] at hen ⊢
      have HVi := Lib.hid (show (Try.prog.info? 114).map (·.size) = some VL.toArray.size ∧ (#[.int .i64 0, .bool false, .map none] : Array Value).size = VL.toArray.size from ⟨by rw [hVL]; exact imgSize, by rw [hVL]; rfl⟩)
      have HV1 := Lib.hid (show VL.toArray.all (·.oneCell') = true by rw [hVL]; simp [Value.oneCell'])
      have HV2 := Lib.hid (show VL[2]? = some (.map (some m.bb)) by rw [hVL]; rfl)
      have Hmm := Lib.hid hmm
      have Hmn := Lib.hid hmn
      have Hlk := Lib.hid hlk
      have Hleft := Lib.hid hleft
      have Hcnt := Lib.hid hlt3
      have Him3 := Lib.hid him3
      have hlold := hrg.left_eq
      clear hm hmm hmn hRc hatk hg3 hs3 hlk hkey hVL hVe hleft hlt3 hrg ht hbr him3
      go_upto_region 5 with (change wpList _ _ _ _ _ (w3.alloc (.cells (#[.int .i64 0, .bool false, .map none] : Array Value) 114)); refine wpList_store_row rfl _ _ _ rfl w3.heap.size VL.toArray rfl rfl 114 (#[.int .i64 0, .bool false, .map none] : Array Value) (heap_alloc_new w3 _) HVi.out.1 HVi.out.2 HV1.out ?_; obtain ⟨w4, hw4⟩ : ∃ x, x = (w3.alloc (.cells (#[.int .i64 0, .bool false, .map none] : Array Value) 114)).setRow w3.heap.size VL.toArray := ⟨_, rfl⟩; rw [← hw4]; obtain ⟨hP4, hb4⟩ := alloc_row w3 114 (#[.int .i64 0, .bool false, .map none] : Array Value) VL; rw [← hw4] at hP4 hb4; clear hw4)
      clear hen
      have hc5 : w4.cell? ⟨w3.heap.size, 2, none⟩ = some (.map (some m.bb)) := by rw [hP4.cell]; exact HV2.out
      have hb4' : Below w.heap.size w w4 := hb3.trans (hb4.mono hb3.size)
      have him4 : ImOk w4 m := Him3.out.kept (hb4.block _ (World.ownsMap.lt Him3.out.hc))
      have hrg4 := ranges_below hrg3 hb4
      have ht4 : w4.ownsMap Try.prog 42 numR tb ks.length T := World.ownsMap.at_ ht3 (hb4.block tb (World.ownsMap.lt ht3))
      have hown4 := him4.hc
      clear hrg3 ht3 hb3 hb4 hP4 him4
      go_wp2_with (at_range; refine wpList_range_own _ rfl _ 112 rfl 3 42 intKeyed Try.underlying112 blkR m.bb m.v.cells.length (cellsD m.v.cells) rfl hown4 ?_; intro w6 hrg6 hg6 hsz6)
      obtain ⟨r2, hr2⟩ : ∃ r, r = w4.heap.size := ⟨_, rfl⟩
      rw [← hr2] at hrg6 ⊢
      have hb46 : Below w4.heap.size w4 w6 := ⟨hg6.os, hg6.tape, hg6.output, hg6.size, fun i hi => hg6.block i hi (by simp)⟩
      have hb6 : Below w.heap.size w w6 := hb4'.trans (hb46.mono hb4'.size)
      have hrg6' := ranges_below hrg4 hb46
      have hrlt := hrg4.lt
      have ht6 : w6.ownsMap Try.prog 42 numR tb ks.length T := World.ownsMap.at_ ht4 (hb46.block tb (World.ownsMap.lt ht4))
      have hr2r : r < r2 := by omega
      have hr2w : w.heap.size ≤ r2 := by omega
      clear hown4 hc5 hrg4 ht4 hg6 hb46 hb4' hr2 hsz6 hrlt
      try go_frame
      go_loopw [7] (fun _ wr2 => ∃ left2 cnt2 T2 ks2, wr2.ranges Try.prog 3 blkR m.bb r2 m.v.cells.length (cellsD m.v.cells) left2 cnt2 ∧ wr2.ranges Try.prog 9 imgR mb r M.length (imgD M) leftN cnt3 ∧ wr2.ownsMap Try.prog 42 numR tb ks2.length T2 ∧ Hid (Tks T2 ks2) ∧ Hid (∀ b, b ∈ ks2 ↔ b ∈ ks ∨ ∃ c ∈ m.v.cells, left2 (.int .i64 (c.1 : Nat)) = false ∧ b = c.2) ∧ Hid (ks2.length + cnt2 ≤ ks.length + m.v.cells.length) ∧ Below w.heap.size w wr2) (fun _ wr2 => wr2.rangeLeft m.bb r2)
      case atStart =>
        refine ⟨_, _, T, ks, hrg6, hrg6', ht6, HT, Lib.hid fun b => ?_, Lib.hid ?_, hb6⟩
        · constructor
          · exact .inl
          · rintro (h | ⟨c, hc, hl, _⟩)
            · exact h
            · have hh : hasC m.v.cells (c.1 : Nat) = true := by unfold hasC; rw [List.any_eq_true]; exact ⟨c, hc, by simp⟩
              rw [cellsD_has, hh] at hl
              cases hl
        · rw [cellsD_size]; exact Nat.le_refl _
      case round =>
        clear hrg6 hrg6' ht6 hb6
        obtain ⟨left2, cnt2, T2, ks2, hrg, hrgo, ht, HT2, Hks2, Hle2, hbr⟩ := hrel
        go_wp2_with (at_next; refine wpList_next_ranges _ rfl _ rfl 3 intKeyed blkR (fun n : Int => Value.int .i64 n) blkV (fun key kl h => int_key_inv h) (fun v y h => mkR_shape h) m.bb r2 m.v.cells.length (cellsD m.v.cells) left2 cnt2 rfl hrg ?_ ?_)
        · intro hcnt hno
          have hfin : ∀ b, b ∈ ks2 ↔ ∃ x ∈ M, leftN (.string (key x)) = false ∧ b ∈ x.v.cells.map (·.2) := fun b => by
            rw [Hks2.out b, Hks.out b, Hleft.out]
            constructor
            · rintro (⟨x, hx, hl, hb⟩ | ⟨c, hc, _, rfl⟩)
              · exact ⟨x, hx, by simp only [hl, Bool.false_and], hb⟩
              · refine ⟨m, Hmm.out, ?_, List.mem_map_of_mem hc⟩
                simp only [key, Hmn.out, str_sameKey, decide_true, Bool.not_true, Bool.and_false]
            · rintro ⟨x, hx, hl, hb⟩
              by_cases e : x = m
              · subst e
                obtain ⟨c, hc, rfl⟩ := List.mem_map.1 hb
                exact .inr ⟨c, hc, hno _, rfl⟩
              · refine .inl ⟨x, hx, ?_, hb⟩
                have hne : key x ≠ nm.data.toList := fun e2 => e (key_apart HQ.out.rs hx Hmm.out (by rw [e2, key, Hmn.out]))
                simpa [str_sameKey, hne] using hl
          have hle3 : ks2.length + cnt3 * 1048576 ≤ M.length * 1048576 := by
            have h1 := Hle2.out
            have h2 := Hle.out
            have h3 := Hcnt.out
            have h4 := Him3.out.ok.le
            have h5 := Him3.out.ok.q
            omega
          clear hrg hno hcnt
          go_wp2_with fail
          go_roundw
          case rel => exact ⟨leftN, cnt3, T2, ks2, hrgo, ht, HT2, Lib.hid hfin, Lib.hid hle3, hbr⟩
          case measure => rw [hrgo.left_eq, hlold]; exact Hcnt.out
        · intro n c kl y1 y2 w7 cnt4 hkey hlk hRc hatk hrg7 hlt7 hg7 hs7 hen
          obtain rfl := int_key_is hkey
          have hhas := Go.Maps.has_true_of_atKey hatk
          rw [cellsD_has, hasC_get, Option.isSome_iff_exists] at hhas
          obtain ⟨f, hf⟩ := hhas
          have hc := hatk .nil
          rw [cellsD_at, hf] at hc
          dsimp only at hc
          subst hc
          have hce := blkV_inj _ _ (blkR_inv hRc)
          subst hce
          obtain ⟨k, hkm, hkn⟩ := getC_mem hf
          have hc48 := (Him3.out.ok.c _ hkm).2
          dsimp only at hc48
          have hb7 : Below w.heap.size w w7 := hbr.trans (show Below w.heap.size wr w7 from ⟨hg7.os, hg7.tape, hg7.output, hg7.size, fun i hi => hg7.block i (by have := hbr.size; omega) (fun e => by injection e with e; omega)⟩)
          have ht7 : w7.ownsMap Try.prog 42 numR tb ks2.length T2 := World.ownsMap.at_ ht (hg7.block tb (World.ownsMap.lt ht) (fun e => by injection e with e; omega))
          have hrgo7 := hrgo.kept hg7 (fun e => by injection e with e; omega) (fun e => by injection e with e; omega)
          obtain ⟨BL, hBL⟩ : ∃ z, z = Lib.byteCells c := ⟨_, rfl⟩
          obtain ⟨ZB, hZB⟩ : ∃ z, z = Lib.byteCells zB := ⟨_, rfl⟩
          have hBe : blkV c = .agg BL.toArray := by rw [hBL]; rfl
          rw [hBe] at hen ⊢
          have HBl := Lib.hid (show BL.length = 48 by rw [hBL, Lib.byteCells_length]; exact hc48)
          have HBi := Lib.hid (show (Try.prog.info? 42).map (·.size) = some BL.toArray.size ∧ ZB.toArray.size = BL.toArray.size by rw [List.size_toArray, List.size_toArray, HBl.out, hZB, Lib.byteCells_length]; exact ⟨blkSize, rfl⟩)
          have HB1 := Lib.hid (show BL.toArray.all (·.oneCell') = true by rw [hBL]; exact dig_one _)
          have HBn := Lib.hid (show (Try.prog.info? 42).map (·.size) = some BL.length by rw [HBl.out]; exact blkSize)
          have HZB := Lib.hid (fun w : World => show (zeroValue 42).run Try.prog w = .ok (.agg ZB.toArray) w by rw [hZB]; exact zeroBlk w)
          have HkeyB := Lib.hid (show keyOf Try.prog 42 (.agg BL.toArray) = some (.string c) by rw [← hBe]; exact keyOf_blk hc48)
          have Hkm := Lib.hid hkm
          have Hkn := Lib.hid hkn
          have Hlk2 := Lib.hid hlk
          have hlold2 := hrg.left_eq
          have Hlt7 := Lib.hid hlt7
          obtain ⟨leftM, hleftM⟩ : ∃ z, z = (fun z => left2 z && !z.sameKey (.int .i64 n)) := ⟨_, rfl⟩
          rw [← hleftM] at hrg7
          have HleftM := Lib.hid hleftM
          clear hkey hlk hRc hatk hlt7 hg7 hs7 hrg hrgo ht hbr hf hkm hkn hc48 hBL hZB hBe hleftM
          obtain ⟨gb, hgb⟩ : ∃ z, z = w7.heap.size := ⟨_, rfl⟩
          have Hgb := Lib.hid hgb
          clear hgb
          go_upto_region 8 with (first | (refine wpList_allocZC rfl 42 rfl ZB.toArray (HZB.out _) ?_) | (change wpList _ _ _ _ _ (w7.alloc (.cells ZB.toArray 42)); refine wpList_store_row rfl _ _ _ rfl w7.heap.size BL.toArray rfl rfl 42 ZB.toArray (heap_alloc_new w7 _) HBi.out.1 HBi.out.2 HB1.out ?_; obtain ⟨w8, hw8⟩ : ∃ x, x = (w7.alloc (.cells ZB.toArray 42)).setRow w7.heap.size BL.toArray := ⟨_, rfl⟩; rw [← hw8]; obtain ⟨hP8, hb8⟩ := alloc_row w7 42 ZB.toArray BL; rw [← hw8] at hP8 hb8; clear hw8))
          rw [← Hgb.out] at hP8 ⊢
          have hb8' : Below w.heap.size w w8 := hb7.trans (hb8.mono hb7.size)
          have hrg8 := ranges_below hrg7 hb8
          have hrgo8 := ranges_below hrgo7 hb8
          have ht8 : w8.ownsMap Try.prog 42 numR tb ks2.length T2 := World.ownsMap.at_ ht7 (hb8.block tb (World.ownsMap.lt ht7))
          clear hen hrg7 hrgo7 ht7 hb7 hb8
          have hroom : ks2.length < maxLen := by
            have h1 := Hle2.out
            have h2 := Hle.out
            have h4 := Him3.out.ok.le
            have h5 := Him3.out.ok.q
            have h6 := HL.out
            unfold maxLen
            omega
          have HT3 := Lib.hid HT2.out
          obtain ⟨wd, hwd⟩ : ∃ x, x = w8.drew := ⟨_, rfl⟩
          have htd : wd.ownsMap Try.prog 42 numR tb ks2.length T2 := by rw [hwd]; exact World.ownsMap.at_ ht8 rfl
          have hrgd : wd.ranges Try.prog 3 blkR m.bb r2 m.v.cells.length (cellsD m.v.cells) leftM cnt4 := by rw [hwd]; exact hrg8
          have hrgod : wd.ranges Try.prog 9 imgR mb r M.length (imgD M) leftN cnt3 := by rw [hwd]; exact hrgo8
          have hbd : Below w.heap.size w wd := by rw [hwd]; exact Below.dN hb8' 1
          have hPd : Arr wd gb 42 BL := by rw [hwd]; exact hP8
          obtain ⟨v1, ps1, hlr, hlv⟩ := World.ownsMap.lookup htd blkKeyed Try.underlying117 (zeroNum wd) (numR_mk 0) HkeyB.out
          obtain ⟨cv, rfl⟩ := numR_shape hlv
          obtain ⟨v0, st, w9, he1, heg, hes, hest⟩ := entry_run htd hroom HkeyB.out
          have hP9 : Arr w9 gb 42 BL := (heg.block gb hPd.lt (fun e => by
            injection e with e
            obtain ⟨es, clock, hb, _⟩ := htd
            rw [← e] at hb
            have := hPd.symm.trans hb
            cases this)).trans hPd
          have hl9 := entry_lookup htd hroom HkeyB.out he1 hlr w9 rfl
          obtain ⟨w10, hst, htk, hstg, hsts⟩ := hest w9 rfl (IntKind.i64.wrap (cv + 1))
          have hP10 : Arr w10 gb 42 BL := (hstg.block gb hP9.lt (fun e => by
            injection e with e
            obtain ⟨es, clock, hb, _⟩ := htk
            have h9 := hP9.lt
            obtain ⟨es0, clock0, hb0, _⟩ := htd
            rw [← e] at hb0
            have := hPd.symm.trans hb0
            cases this)).trans hP9
          have HP9 := Lib.hid hP9
          have HP10 := Lib.hid hP10
          have Htk := Lib.hid htk
          have Hrgd := Lib.hid hrgd
          have Hrgod := Lib.hid hrgod
          have Hbd := Lib.hid hbd
          have Hheg := Lib.hid heg
          have Hhstg := Lib.hid hstg
          clear htd hrgd hrgod hbd hPd hlv heg hes hest hP9 hP10 htk hstg hsts hrg8 hrgo8 ht8 hb8'
          refine wp_region_held_drew (S := fun w' => Arr w' gb 42 BL) (by kernel_rfl) hP8 (fun hHeld => ?_)
          rw [← hwd]
          try rw [← hwd] at hHeld
          clear hwd
          refine anyH_take (i := 0) (v := .map (some tb)) (some 25) rfl rfl (by kernel_rfl) (by kernel_rfl) (by kernel_rfl) (fun _ _ _ h => h) (Or.inl ⟨by rfl, fun w' hw => by rfl⟩) (by assumption) ?_
          simp only [Act.put, List.setIfInBounds_toArray, List.set_cons_zero, List.set_cons_succ]
          refine anyH_take (i := 1) (some 26) rfl rfl (by kernel_rfl) (by kernel_rfl) (by kernel_rfl) (fun _ _ _ h => h) (yieldsIf_load_mid (by rfl) 42 (.tmp 7) rfl gb 0 rfl BL _ (fun w' h => (h).range) Try.underlying42 rfl HBn.out) (by assumption) ?_
          simp only [Act.put, List.setIfInBounds_toArray, List.set_cons_zero, List.set_cons_succ]
          refine wpAnyH_ready (rs := [2, 4]) (by kernel_rfl) (by simp) ?_
          refine AllReadyH.cons rfl (fun K hK => ?_) (AllReadyH.cons rfl (fun K hK => ?_) AllReadyH.nil)
          · go_simp
            refine hK.out _ _ (by assumption) (fun hHeldx => ?_)
            clear hK K
            try simp only [Act.put, List.setIfInBounds_toArray, List.set_cons_zero, List.set_cons_succ]
            refine anyH_take (i := 3) (v := .int .i64 (IntKind.i64.wrap (cv + 1))) (some 28) rfl rfl (by kernel_rfl) (by kernel_rfl) (by kernel_rfl) (fun _ _ _ h => h) (Or.inl ⟨by rfl, fun w' hw => by (go_simp)⟩) (by assumption) ?_
            simp only [Act.put, List.setIfInBounds_toArray, List.set_cons_zero, List.set_cons_succ]
            refine wpAnyH_ready (rs := [4]) (by kernel_rfl) (by simp) ?_
            refine AllReadyH.cons rfl (fun K hK => ?_) AllReadyH.nil
            go_simp
            refine hK.out _ _ HP9.out (fun hHeldy => ?_)
            clear hK K
            try simp only [Act.put, List.setIfInBounds_toArray, List.set_cons_zero, List.set_cons_succ]
            refine anyH_take (i := 5) (v := goInt st) (some 30) rfl rfl (by kernel_rfl) (by kernel_rfl) (by kernel_rfl) (fun _ _ _ h => h) (Or.inl ⟨by rfl, fun w' hw => by (go_simp)⟩) (by assumption) ?_
            simp only [Act.put, List.setIfInBounds_toArray, List.set_cons_zero, List.set_cons_succ]
            refine wpAnyH_ready (rs := [6]) (by kernel_rfl) (by simp) ?_
            refine AllReadyH.cons rfl (fun K hK => ?_) AllReadyH.nil
            refine wp_entryStore_to rfl _ _ _ _ rfl hst ?_
            refine hK.out _ _ HP10.out (fun hHeldz => ?_)
            clear hK K hHeld hHeldx hHeldy hHeldz hlr he1 hst hl9
            try simp only [Act.put, List.setIfInBounds_toArray, List.set_cons_zero, List.set_cons_succ]
            refine wpAnyH_done (by kernel_rfl) ?_ _
            obtain ⟨ks3, hT3, hk3, hl3⟩ := HT3.out.put c (.lit (.int .i64 (IntKind.i64.wrap (cv + 1))))
            have ht10 := World.ownsMap.tight Htk.out
            rw [hT3.sz] at ht10
            have hg10 : wd.grownBy w10 (some tb) := ⟨Hhstg.out.os.trans Hheg.out.os, Hhstg.out.tape.trans Hheg.out.tape, Hhstg.out.output.trans Hheg.out.output, Nat.le_trans Hheg.out.size Hhstg.out.size, fun i hi hn => (Hhstg.out.block i (Nat.lt_of_lt_of_le hi Hheg.out.size) hn).trans (Hheg.out.block i hi hn)⟩
            have hbbw : m.bb < w.heap.size := HQ.out.Flt _ (HQ.out.Fv m Hmm.out)
            have hrg10 := Hrgd.out.kept hg10 (fun e => by injection e with e; omega) (fun e => by injection e with e; omega)
            have hrgo10 := Hrgod.out.kept hg10 (fun e => by injection e with e; omega) (fun e => by injection e with e; omega)
            have hb10 : Below w.heap.size w w10 := Hbd.out.trans ⟨hg10.os, hg10.tape, hg10.output, hg10.size, fun i hi => hg10.block i (by have := Hbd.out.size; omega) (fun e => by injection e with e; omega)⟩
            have hks3 : ∀ b, b ∈ ks3 ↔ b ∈ ks ∨ ∃ x ∈ m.v.cells, leftM (.int .i64 (x.1 : Nat)) = false ∧ b = x.2 := fun b => by
              rw [hk3, Hks2.out b, HleftM.out, or_assoc]
              refine or_congr Iff.rfl ⟨?_, ?_⟩
              · rintro (⟨x, hx, hl, rfl⟩ | rfl)
                · exact ⟨x, hx, by simp only [hl, Bool.false_and], rfl⟩
                · refine ⟨_, Hkm.out, ?_, rfl⟩
                  simp only [int_sameKey, Hkn.out, decide_true, Bool.not_true, Bool.and_false]
              · rintro ⟨x, hx, hl, rfl⟩
                by_cases e : ((x.1 : Nat) : Int) = n
                · refine .inr ?_
                  have h1 := getC_of Him3.out.ok.rs (n := x.1) (f := x.2) hx
                  have h2 := getC_of Him3.out.ok.rs Hkm.out
                  have h3 : x.1 = k := by have := Hkn.out; omega
                  rw [h3, h2] at h1
                  injection h1 with h1
                  exact h1.symm
                · refine .inl ⟨x, hx, ?_, rfl⟩
                  simpa [int_sameKey, e] using hl
            have hle3 : ks3.length + cnt4 ≤ ks.length + m.v.cells.length := by
              have h1 := Hle2.out
              have h2 := Hlt7.out
              omega
            have Hrg10 := Lib.hid hrg10
            have HT10 := Lib.hid hT3
            have Hks3 := Lib.hid hks3
            have Hle3 := Lib.hid hle3
            have Hmeas := Lib.hid (show w10.rangeLeft m.bb r2 < cnt2 by rw [hrg10.left_eq]; exact Hlt7.out)
            clear hT3 hk3 hl3 hks3 hle3 hg10 hrg10
            go_wp2_with fail
            go_roundw
            case rel => exact ⟨leftM, cnt4, _, ks3, Hrg10.out, hrgo10, ht10, HT10, Hks3, Hle3, hb10⟩
            case measure => rw [hlold2]; exact Hmeas.out
          · go_simp
            refine hK.out _ _ HP9.out (fun hHeldx => ?_)
            clear hK K
            try simp only [Act.put, List.setIfInBounds_toArray, List.set_cons_zero, List.set_cons_succ]
            refine anyH_take (i := 5) (v := goInt st) (some 30) rfl rfl (by kernel_rfl) (by kernel_rfl) (by kernel_rfl) (fun _ _ _ h => h) (Or.inl ⟨by rfl, fun w' hw => by (go_simp)⟩) (by assumption) ?_
            simp only [Act.put, List.setIfInBounds_toArray, List.set_cons_zero, List.set_cons_succ]
            refine wpAnyH_ready (rs := [2]) (by kernel_rfl) (by simp) ?_
            refine AllReadyH.cons rfl (fun K hK => ?_) AllReadyH.nil
            go_simp
            refine hK.out _ _ HP9.out (fun hHeldy => ?_)
            clear hK K
            try simp only [Act.put, List.setIfInBounds_toArray, List.set_cons_zero, List.set_cons_succ]
            refine anyH_take (i := 3) (v := .int .i64 (IntKind.i64.wrap (cv + 1))) (some 28) rfl rfl (by kernel_rfl) (by kernel_rfl) (by kernel_rfl) (fun _ _ _ h => h) (Or.inl ⟨by rfl, fun w' hw => by (go_simp)⟩) (by assumption) ?_
            simp only [Act.put, List.setIfInBounds_toArray, List.set_cons_zero, List.set_cons_succ]
            refine wpAnyH_ready (rs := [6]) (by kernel_rfl) (by simp) ?_
            refine AllReadyH.cons rfl (fun K hK => ?_) AllReadyH.nil
            refine wp_entryStore_to rfl _ _ _ _ rfl hst ?_
            refine hK.out _ _ HP10.out (fun hHeldz => ?_)
            clear hK K hHeld hHeldx hHeldy hHeldz hlr he1 hst hl9
            try simp only [Act.put, List.setIfInBounds_toArray, List.set_cons_zero, List.set_cons_succ]
            refine wpAnyH_done (by kernel_rfl) ?_ _
            obtain ⟨ks3, hT3, hk3, hl3⟩ := HT3.out.put c (.lit (.int .i64 (IntKind.i64.wrap (cv + 1))))
            have ht10 := World.ownsMap.tight Htk.out
            rw [hT3.sz] at ht10
            have hg10 : wd.grownBy w10 (some tb) := ⟨Hhstg.out.os.trans Hheg.out.os, Hhstg.out.tape.trans Hheg.out.tape, Hhstg.out.output.trans Hheg.out.output, Nat.le_trans Hheg.out.size Hhstg.out.size, fun i hi hn => (Hhstg.out.block i (Nat.lt_of_lt_of_le hi Hheg.out.size) hn).trans (Hheg.out.block i hi hn)⟩
            have hbbw : m.bb < w.heap.size := HQ.out.Flt _ (HQ.out.Fv m Hmm.out)
            have hrg10 := Hrgd.out.kept hg10 (fun e => by injection e with e; omega) (fun e => by injection e with e; omega)
            have hrgo10 := Hrgod.out.kept hg10 (fun e => by injection e with e; omega) (fun e => by injection e with e; omega)
            have hb10 : Below w.heap.size w w10 := Hbd.out.trans ⟨hg10.os, hg10.tape, hg10.output, hg10.size, fun i hi => hg10.block i (by have := Hbd.out.size; omega) (fun e => by injection e with e; omega)⟩
            have hks3 : ∀ b, b ∈ ks3 ↔ b ∈ ks ∨ ∃ x ∈ m.v.cells, leftM (.int .i64 (x.1 : Nat)) = false ∧ b = x.2 := fun b => by
              rw [hk3, Hks2.out b, HleftM.out, or_assoc]
              refine or_congr Iff.rfl ⟨?_, ?_⟩
              · rintro (⟨x, hx, hl, rfl⟩ | rfl)
                · exact ⟨x, hx, by simp only [hl, Bool.false_and], rfl⟩
                · refine ⟨_, Hkm.out, ?_, rfl⟩
                  simp only [int_sameKey, Hkn.out, decide_true, Bool.not_true, Bool.and_false]
              · rintro ⟨x, hx, hl, rfl⟩
                by_cases e : ((x.1 : Nat) : Int) = n
                · refine .inr ?_
                  have h1 := getC_of Him3.out.ok.rs (n := x.1) (f := x.2) hx
                  have h2 := getC_of Him3.out.ok.rs Hkm.out
                  have h3 : x.1 = k := by have := Hkn.out; omega
                  rw [h3, h2] at h1
                  injection h1 with h1
                  exact h1.symm
                · refine .inl ⟨x, hx, ?_, rfl⟩
                  simpa [int_sameKey, e] using hl
            have hle3 : ks3.length + cnt4 ≤ ks.length + m.v.cells.length := by
              have h1 := Hle2.out
              have h2 := Hlt7.out
              omega
            have Hrg10 := Lib.hid hrg10
            have HT10 := Lib.hid hT3
            have Hks3 := Lib.hid hks3
            have Hle3 := Lib.hid hle3
            have Hmeas := Lib.hid (show w10.rangeLeft m.bb r2 < cnt2 by rw [hrg10.left_eq]; exact Hlt7.out)
            clear hT3 hk3 hl3 hks3 hle3 hg10 hrg10
            go_wp2_with fail
            go_roundw
            case rel => exact ⟨leftM, cnt4, _, ks3, Hrg10.out, hrgo10, ht10, HT10, Hks3, Hle3, hb10⟩
            case measure => rw [hlold2]; exact Hmeas.out

end Go.Proofs.Ytcajhndhjlfmaaa

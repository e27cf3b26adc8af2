/-
  Rows taken of bytes.
-/
import Derived.Test.YtkepfigoeaheaaaComRows
import Derived.Test.YtkepfigoeaheaaaInBytes
import Derived.Deep.RegionHeld3
import Derived.Maps.AppendAt
namespace Go.Proofs.Ytkepfigoeaheaaa
open Go.RowKit
set_option linter.unusedVariables false
set_option linter.unusedSimpArgs false


theorem binAll : (Try.prog.info? 72).map (fun i => (i.zero, i.size, i.bytes)) = some (some (.agg binZ.toArray), 35, 56) := by kernel_rfl
theorem fill_rowB {k : Nat} (l : List Value) (hl : l.length = k) (cells : Array Value) (hc : cells.size = k) : Instr.fill (fun i => some (i * k, k)) cells [(0, .agg l.toArray)] = some l.toArray := by
  have h := fill_mid (fun i => some (i * k, k)) cells 0 0 l (by rw [hl, Nat.zero_mul]) (by omega)
  rw [h]
  congr 2
  rw [List.take_zero, List.nil_append, hl, List.drop_of_length_le (by simp [hc]), List.append_nil]
def binsC (bs : List BinF) : List Value := bs.flatMap bC
theorem binsC_append (a b : List BinF) : binsC (a ++ b) = binsC a ++ binsC b := by unfold binsC; rw [List.flatMap_append]
theorem binsC_one (x : BinF) : binsC [x] = bC x := by simp [binsC]
/-- A row of bins of the call's own, from block B on. -/
def BRow (w : World) (B : Nat) (v : Value) (bs : List BinF) : Prop := (∀ b ∈ bs, BinW b) ∧ w.ownsRow B 72 35 v bs.length (binsC bs)
theorem BRow.nil (w : World) (B : Nat) : BRow w B (.slice none 0 0) [] := ⟨fun _ h => (by cases h), World.ownsRow_nil w B _ 35⟩
theorem BRow.lt {w : World} {B : Nat} {v : Value} {cs : List BinF} (h : BRow w B v cs) : ∀ k, v.ownBlock = some k → B ≤ k ∧ k < w.heap.size := World.ownsRow.lt h.2
theorem BRow.turn {w w' : World} {B p : Nat} {v : Value} {bs : List BinF} (h : BRow w B v bs) (ht : Turn p w w') (hp : p < B) : BRow w' B v bs := by
  refine ⟨h.1, World.ownsRow.kept h.2 ht (.inr fun e => ?_)⟩
  have := (h.lt p e).1
  omega
theorem BRow.up {w w' : World} {B : Nat} {v : Value} {cs : List BinF} (h : BRow w B v cs) (hb : Below w.heap.size w w') : BRow w' B v cs := by
  refine ⟨h.1, h.2.1, ?_⟩
  rcases h.2.2 with hn | ⟨g, cap, cur, rfl, h1, hg, rest⟩
  · exact .inl hn
  · exact .inr ⟨g, cap, cur, rfl, h1, (hb.block g (Array.getElem?_eq_some_iff.1 hg).1).trans hg, rest⟩

theorem flat_at {α : Type} {k : Nat} {f : α → List Value} {xs : List α} (h : ∀ x ∈ xs, (f x).length = k) {i : Nat} {x : α} (hi : xs[i]? = some x) (j : Nat) (v : Value) (hj : (f x)[j]? = some v) : (xs.flatMap f)[i * k + j]? = some v := by
  induction xs generalizing i with
  | nil => simp at hi
  | cons y xs ih =>
    have hl := h y List.mem_cons_self
    rw [List.flatMap_cons]
    cases i with
    | zero =>
      simp at hi
      subst hi
      rw [Nat.zero_mul, Nat.zero_add, List.getElem?_append_left (List.getElem?_eq_some_iff.1 hj).1]
      exact hj
    | succ i =>
      have := ih (fun x hx => h x (List.mem_cons_of_mem _ hx)) (i := i) (by simpa using hi)
      rw [List.getElem?_append_right (by rw [hl]; rw [Nat.succ_mul]; omega), hl, show (i + 1) * k + j - k = i * k + j by rw [Nat.succ_mul]; omega]
      exact this
/-- '[]Cell{x}'. -/
theorem wp_build_bn {o : Oper} {a : Act} {w : World} {K : Act → World → Prop} {Q : Exit → Act → World → Prop} (dd : Option Tmp) (hdd : o.dst = dd) (x : Operand) (ho : o.op = .buildSlice 27 1 #[(0, x)]) (VL : List Value) (hV : VL.length = 35) (hx : a.eval x = .agg VL.toArray)
    (h : K (a.put dd (.slice (some ⟨w.heap.size, 0, none⟩) 1 1)) (w.alloc (.cells VL.toArray 72))) : Oper.wp Try.prog o a w K Q := by
  subst hdd
  obtain ⟨i0, hi, hz0, hz1, hz2⟩ := info_parts binAll
  refine wp_buildSlice 27 72 1 #[(0, x)] ho VL.toArray i0 _ Try.underlying27 hi hz0 (by rw [hz1]; decide) (by rw [hz1]; decide) ?_ h
  rw [hz1]
  simp only [List.map_toArray, List.map_cons, List.map_nil, hx]
  exact fill_rowB VL hV _ (by simp)

theorem wpList_build_bn {ops : Array Oper} {rest : List Oper} {o : Oper} {a : Act} {w : World} {Q : Exit → Act → World → Prop} (hg : o.guard = none) (x : Operand) (ho : o.op = .buildSlice 27 1 #[(0, x)]) (VL : List Value) (hV : VL.length = 35) (hx : a.eval x = .agg VL.toArray)
    (h : wpList Try.prog ops Q rest (a.put o.dst (.slice (some ⟨w.heap.size, 0, none⟩) 1 1)) (w.alloc (.cells VL.toArray 72))) : wpList Try.prog ops Q (o :: rest) a w :=
  wpList_plain hg fun _ hK => wp_build_bn o.dst rfl x ho VL hV hx (hK _ _ h)

theorem run_append_bn {w : World} {B : Nat} {v : Value} {xs : List BinF} (h : BRow w B v xs) (hB : B ≤ w.heap.size) (ty : TypeId) (g c : Nat) (x : BinF) (hx : BinW x) (VL : List Value) (hV : VL = bC x) (hg : Arr w g 72 VL) (hm : xs.length ≤ 2000000) :
    ∃ v' w', (Builtin.append_ #[27, 27] ty #[v, .slice (some ⟨g, 0, none⟩) 1 c]).run Try.prog w = .ok v' w' ∧ BRow w' B v' (xs ++ [x]) ∧ w.grownBy w' v.ownBlock := by
  obtain ⟨i0, hi, hz0, hz1, hz2⟩ := info_parts binAll
  subst hV
  have hadd : ∀ k, (⟨g, 0, none⟩ : Addr).add k = ⟨g, k, none⟩ := fun k => by unfold Addr.add; split <;> simp_all
  obtain ⟨v', w', h1, h2, h3, _, _⟩ := run_append_own_at (P := Try.prog) w B 27 ty 72 i0 (.agg binZ.toArray) 35 56 Try.underlying27 hi hz0 hz1 hz2 rfl (by decide) v xs.length (binsC xs) h.2 ⟨g, 0, none⟩ 1 c (bC x) (by rw [bC_length hx]) (fun j u hj => by rw [hadd, hg.cell]; exact hj) (bC_one x) (by unfold maxLen; omega) (by omega) hB
  refine ⟨v', w', h1, ⟨fun y hy => ?_, ?_⟩, h3⟩
  · rcases List.mem_append.1 hy with hy | hy
    · exact h.1 y hy
    · rw [List.mem_singleton] at hy; rw [hy]; exact hx
  · rw [binsC_append, binsC_one, List.length_append]
    exact h2

theorem wpList_append_bn {ops : Array Oper} {rest : List Oper} {o : Oper} {a : Act} {w : World} {Q : Exit → Act → World → Prop} (hgd : o.guard = none) (s x : Operand) (ho : o.op = .call { callee := .builtin .append, args := #[s, x], argTypes := #[27, 27] })
    {B : Nat} {v : Value} {xs : List BinF} (h : BRow w B v xs) (hB : B ≤ w.heap.size) (hs : a.eval s = v) (g c : Nat) (hx : a.eval x = .slice (some ⟨g, 0, none⟩) 1 c) (y : BinF) (hy : BinW y) (VL : List Value) (hV : VL = bC y) (hg : Arr w g 72 VL) (hm : xs.length ≤ 2000000)
    (hK : ∀ v' w', BRow w' B v' (xs ++ [y]) → w.grownBy w' v.ownBlock → wpList Try.prog ops Q rest (a.put o.dst v') w') : wpList Try.prog ops Q (o :: rest) a w := by
  refine wpList_plain hgd fun K hK' => ?_
  obtain ⟨v', w', hr, h2, h3⟩ := run_append_bn h hB o.type g c y hy VL hV hg hm
  unfold Oper.wp execOp
  simp only [ho, resolve, invoke, builtin, Sem.run_bind, Sem.run_pure, Result.andThen_ok, List.map_toArray, List.map_cons, List.map_nil, hs, hx, hr]
  exact hK' _ _ (hK v' w' h2 h3)


theorem BRow.slice {w : World} {B : Nat} {v : Value} {cs : List BinF} (h : BRow w B v cs) : ∃ A c, v = .slice A cs.length c ∧ cs.length ≤ c ∧ c ≤ maxLen ∧ RowOf bC 35 w w.heap.size A cs := by
  rcases h.2.2 with ⟨rfl, hn⟩ | ⟨g, cap, cur, rfl, h1, hg, h2, h3, h4, h5⟩
  · exact ⟨none, 0, by rw [hn], by omega, by unfold maxLen; omega, fun hp => by omega⟩
  · refine ⟨_, cap, rfl, h2, h3, fun hp => ⟨g, 0, rfl, (Array.getElem?_eq_some_iff.1 hg).1, fun i x hx j v hj => ?_⟩⟩
    have hd := flat_at (k := 35) (f := bC) (fun x hx => bC_length (h.1 x hx)) hx j v hj
    have h5' : List.take (cs.length * 35) cur.toList = cs.flatMap bC := h5
    rw [← h5'] at hd
    have hlt : i * 35 + j < cs.length * 35 := by
      have := (List.getElem?_eq_some_iff.1 hd).1
      rw [List.length_take] at this
      omega
    rw [List.getElem?_take_of_lt hlt] at hd
    rw [cell_of_row w g _ cur 72 (0, 0) hg, Nat.zero_add]
    simpa using hd
theorem evAll : (Try.prog.info? 33).map (fun i => (i.zero, i.size, i.bytes)) = some (some (.slice none 0 0), 1, 24) := by kernel_rfl
/-- A row of rows of bytes of the call's own, from block B on; the bytes lie from block lo on, below p. -/
def ERow (lo : Nat) (w : World) (B p : Nat) (v : Value) (rs : List (List UInt8)) : Prop :=
  ∃ cs : List Value, w.ownsRow B 33 1 v rs.length cs ∧ ∀ (i : Nat) (r : List UInt8), rs[i]? = some r → ∃ (A : Option Addr) (c : Nat), cs[i]? = some (.slice A r.length c) ∧ r.length ≤ c ∧ c ≤ maxLen ∧ Bs w p A r ∧ (∀ a : Addr, A = some a → lo ≤ a.block)
variable {lo : Nat}
theorem ERow.nil (w : World) (B p : Nat) : ERow lo w B p (.slice none 0 0) [] := ⟨[], World.ownsRow_nil w B _ 1, fun i r h => by simp at h⟩
theorem ERow.lt {w : World} {B p : Nat} {v : Value} {rs : List (List UInt8)} (h : ERow lo w B p v rs) : ∀ k, v.ownBlock = some k → B ≤ k ∧ k < w.heap.size := by
  obtain ⟨cs, h1, _⟩ := h
  exact World.ownsRow.lt h1
theorem ERow.turn {w w' : World} {B p : Nat} {v : Value} {rs : List (List UInt8)} (h : ERow lo w B p v rs) (ht : Turn p w w') (hp : p < B) (hpw : p ≤ w.heap.size) : ERow lo w' B p v rs := by
  have hlt := h.lt
  obtain ⟨cs, h1, h2⟩ := h
  refine ⟨cs, World.ownsRow.kept h1 ht (.inr fun e => by have := (hlt p e).1; omega), fun i r hr => ?_⟩
  obtain ⟨A, c, k1, k2, k3, k4, k5⟩ := h2 i r hr
  exact ⟨A, c, k1, k2, k3, k4.keep fun b o hb => World.cell?_of_block (ht.block b (by omega) (fun e => by injection e; omega)), k5⟩
theorem ERow.up {w w' : World} {B p : Nat} {v : Value} {rs : List (List UInt8)} (h : ERow lo w B p v rs) (hb : Below w.heap.size w w') (hp : p ≤ w.heap.size) : ERow lo w' B p v rs := by
  obtain ⟨cs, h1, h2⟩ := h
  refine ⟨cs, ⟨h1.1, ?_⟩, fun i r hr => ?_⟩
  · rcases h1.2 with hn | ⟨g, cap, cur, rfl, e1, hg, rest⟩
    · exact .inl hn
    · exact .inr ⟨g, cap, cur, rfl, e1, (hb.block g (Array.getElem?_eq_some_iff.1 hg).1).trans hg, rest⟩
  · obtain ⟨A, c, k1, k2, k3, k4, k5⟩ := h2 i r hr
    exact ⟨A, c, k1, k2, k3, k4.below hb hp, k5⟩
theorem ERow.snoc {w w' : World} {B p : Nat} {v v' : Value} {rs : List (List UInt8)} {cs : List Value} {Y : List UInt8} {A : Option Addr} {n c : Nat} (h1 : w'.ownsRow B 33 1 v' (rs.length + 1) (cs ++ [.slice A n c])) (hl : cs.length = rs.length * 1)
    (h2 : ∀ (i : Nat) (r : List UInt8), rs[i]? = some r → ∃ (A : Option Addr) (c : Nat), cs[i]? = some (.slice A r.length c) ∧ r.length ≤ c ∧ c ≤ maxLen ∧ Bs w p A r ∧ (∀ a : Addr, A = some a → lo ≤ a.block))
    (hg : w.grownBy w' v.ownBlock) (hv : ∀ k, v.ownBlock = some k → B ≤ k) (hpB : p < B) (hpw : p ≤ w.heap.size) (hn : Y.length = n) (hc : n ≤ c) (hm : c ≤ maxLen) (hb : Bs w p A Y) (hlb : ∀ a : Addr, A = some a → lo ≤ a.block) : ERow lo w' B p v' (rs ++ [Y]) := by
  have keep : ∀ (A : Option Addr) (r : List UInt8), Bs w p A r → Bs w' p A r := fun A r h => h.keep fun b o hb => World.cell?_of_block (hg.block b (by omega) (fun e => by have := hv b e.symm; omega))
  subst hn
  refine ⟨cs ++ [.slice A Y.length c], by rw [List.length_append]; exact h1, fun i r hr => ?_⟩
  by_cases hi : i < rs.length
  · rw [List.getElem?_append_left hi] at hr
    obtain ⟨A', c', k1, k2, k3, k4, k5⟩ := h2 i r hr
    exact ⟨A', c', by rw [List.getElem?_append_left (List.getElem?_eq_some_iff.1 k1).1]; exact k1, k2, k3, keep A' r k4, k5⟩
  · have hlt := (List.getElem?_eq_some_iff.1 hr).1
    simp at hlt
    have hi2 : i = rs.length := by omega
    subst hi2
    rw [List.getElem?_append_right (Nat.le_refl _)] at hr
    simp at hr
    subst hr
    exact ⟨A, c, by rw [List.getElem?_append_right (by omega)]; simp [hl], hc, hm, keep A Y hb, hlb⟩
theorem ERow.rows {w : World} {B p : Nat} {v : Value} {rs : List (List UInt8)} (h : ERow lo w B p v rs) (hp : p ≤ w.heap.size) : ∃ A c, v = .slice A rs.length c ∧ rs.length ≤ c ∧ c ≤ maxLen ∧ RowsAt w w.heap.size A rs := by
  obtain ⟨cs, h1, h2⟩ := h
  rcases h1.2 with ⟨rfl, hn⟩ | ⟨g, cap, cur, rfl, e1, hg, e2, e3, e4, e5⟩
  · exact ⟨none, 0, by rw [hn], by omega, by unfold maxLen; omega, fun hp => by omega⟩
  · refine ⟨_, cap, rfl, e2, e3, fun hp' => ⟨g, 0, rfl, (Array.getElem?_eq_some_iff.1 hg).1, fun i hi => ?_⟩⟩
    obtain ⟨A, c, k1, k2, k3, k4, _⟩ := h2 i (rs[i]'hi) (List.getElem?_eq_getElem hi)
    have hgd : rs.getD i [] = rs[i] := by simp [List.getD, hi]
    rw [hgd]
    refine ⟨A, c, ?_, k2, k3, k4.more hp⟩
    rw [← e5] at k1
    have hlt := (List.getElem?_eq_some_iff.1 k1).1
    rw [List.length_take] at hlt
    rw [List.getElem?_take_of_lt (by omega)] at k1
    rw [cell_of_row w g _ cur 33 (0, 0) hg, Nat.zero_add]
    simpa using k1
/-- What turns lies neither in the row, nor among the bytes. -/
theorem ERow.apart {w w' : World} {B p g : Nat} {v : Value} {rs : List (List UInt8)} (h : ERow lo w B p v rs) (ho : Only (fun k => k = g) w w') (hg : g < lo) (hB : g < B) (hp : p ≤ w.heap.size) : ERow lo w' B p v rs := by
  have hlt := h.lt
  obtain ⟨cs, h1, h2⟩ := h
  refine ⟨cs, World.ownsRow.kept (row := some g) h1 ⟨ho.os, ho.tape, ho.output, ho.size, fun k hk hn => ho.block k hk (fun e => hn (by rw [e]))⟩ (.inr fun e => by have := (hlt g e).1; omega), fun i r hr => ?_⟩
  obtain ⟨A, c, k1, k2, k3, k4, k5⟩ := h2 i r hr
  refine ⟨A, c, k1, k2, k3, fun hp' => ?_, k5⟩
  obtain ⟨b, off, e, hb, hc⟩ := k4 hp'
  have hlb := k5 _ e
  simp only at hlb
  exact ⟨b, off, e, hb, fun j hj => (World.cell?_of_block (ho.block b (by omega) (by omega))).trans (hc j hj)⟩
theorem BRow.apart {w w' : World} {B g : Nat} {v : Value} {bs : List BinF} (h : BRow w B v bs) (ho : Only (fun k => k = g) w w') (hB : g < B) : BRow w' B v bs := by
  have hlt := h.lt
  exact ⟨h.1, World.ownsRow.kept (row := some g) h.2 ⟨ho.os, ho.tape, ho.output, ho.size, fun k hk hn => ho.block k hk (fun e => hn (by rw [e]))⟩ (.inr fun e => by have := (hlt g e).1; omega)⟩
theorem binS_w (s : St) : BinW (binS s).1 := by
  unfold binS
  split
  · exact ⟨by unfold I64 zB; simp, by unfold I64 zB; simp, by unfold I64 zB; simp, rfl⟩
  · have h1 := numS_le 2147483647 s
    have h2 := numS_le 65535 (numS 2147483647 s).2
    have h3 := numS_le 65536 (numS 65535 (numS 2147483647 s).2).2
    exact ⟨by unfold I64; simp only; omega, by unfold I64; simp only; omega, by unfold I64; simp only; omega, digS_length _⟩
theorem refS_w (s : St) : RefW (refS s).1 := by
  unfold refS
  split
  · exact ⟨rfl, by unfold I64 zR; simp, by unfold I64 zR; simp⟩
  · have h2 := numS_le 65535 (digS s).2
    have h3 := numS_le 65536 (numS 65535 (digS s).2).2
    exact ⟨digS_length _, by unfold I64; simp only; omega, by unfold I64; simp only; omega⟩
theorem evtake_any (s : St) (p : Nat) (w : World) (h : PInL lo w p s.1 s.2) :
    Calls Try.prog 49 #[.pointer (some ⟨p, 0, none⟩)] w fun e w' => ∃ A c, e = .returned (.slice A (evS s).1.length c) ∧ (evS s).1.length ≤ c ∧ c ≤ maxLen ∧ Bs w' p A (evS s).1 ∧ (∀ a : Addr, A = some a → lo ≤ a.block) ∧ PInL lo w' p (evS s).2.1 (evS s).2.2 ∧ Turn p w w' := by
  have Hc := Lib.hid (bytes_inL p 65536 s.1 s.2 w h (by omega) (by omega))
  obtain ⟨s', hs'⟩ : ∃ z, evS s = z := ⟨_, rfl⟩
  have Hs := Lib.hid hs'
  rw [hs']
  clear h hs'
  go_enter Try.func49, Try.ntmps49
  go_wp2_with fail
  refine Calls.mono Hc.out ?_
  rintro e w1 ⟨A, c, rfl, h1, h2, h3, h4, h5, h6⟩
  have H1 := Lib.hid (show s'.1.length ≤ c ∧ Bs w1 p A s'.1 ∧ PInL lo w1 p s'.2.1 s'.2.2 by rw [← Hs.out]; exact ⟨h1, h3, h4⟩)
  have e1 : (bytesF 65536 s.1).1.length = s'.1.length := by rw [← Hs.out]; rfl
  rw [e1]
  clear h1 h3 h4 e1 Hs Hc
  go_wp2_with fail
  go_ret
  exact ⟨A, c, rfl, H1.out.1, h2, H1.out.2.1, h6, H1.out.2.2, h5⟩

end Go.Proofs.Ytkepfigoeaheaaa

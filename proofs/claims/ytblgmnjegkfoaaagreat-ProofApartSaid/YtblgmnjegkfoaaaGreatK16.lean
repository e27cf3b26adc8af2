/-
  TrieChange TrieWays TrieTPut TrieTDrop TrieTRoot TrieSpeaks TrieSeen: texts on the way to the laws, as one.
-/
import Derived.Test.YtblgmnjegkfoaaaGreatK15
import Derived.Test.YtblgmnjegkfoaaaGreatK08
import Derived.Lib.SliceRun
import Derived.Test.YtblgmnjegkfoaaaGreatK12
import Derived.Lib.AppendZerosOnto
import Derived.Test.YtblgmnjegkfoaaaGreatK13
import Derived.Test.YtblgmnjegkfoaaaGreatK14
set_option maxRecDepth 100000
namespace Go.Proofs.YtblgmnjegkfoaaaGreat
open Go.RowKit Go.Shelf
set_option linter.unusedVariables false
set_option linter.unusedSimpArgs false

attribute [local go_sem] Oper.semAt_some

theorem Arr.grown {W W' : World} {row : Option Nat} {g : Nat} {T : TypeId} {cs : List Value} (h : Arr W g T cs) (hg : W.grownBy W' row) (hr : ∀ r, row = some r → ∃ o : Obj, W.heap[r]? = some o ∧ o.isCells = false) : Arr W' g T cs :=
  (hg.block g h.lt (fun e => by
    obtain ⟨o, ho, hc⟩ := hr g e.symm
    rw [show W.heap[g]? = some _ from h] at ho
    cases ho
    cases hc)).trans h
theorem Stand.grown {M : Wood} {W W' : World} {row : Option Nat} (h : Stand M W) (hg : W.grownBy W' row) (hr : ∀ r, row = some r → ∃ o : Obj, W.heap[r]? = some o ∧ o.isCells = false) : Stand M W' := fun b n hb => by
  have hn := h b n hb
  obtain ⟨d, s, dig, hdl, hd, hc⟩ := hn.cells
  refine ⟨hn.k32, hn.rise, hn.l32, hn.vals, hn.f64, hn.agree, d, s, dig, hdl, hd, ?_⟩
  rcases hc with ⟨h1, h2⟩ | ⟨h1, h2⟩
  · refine .inl ⟨h1.grown hg hr, ?_, h2.le, h2.lim⟩
    obtain ⟨val, e1, e2, e3⟩ := h2.one
    refine ⟨val, e1, e2, fun hp => ?_⟩
    obtain ⟨k, off, e, hlt, hcell⟩ := e3 hp
    exact ⟨k, off, e, Nat.lt_of_lt_of_le hlt hg.size, fun j hj => cell_kept (hcell j hj) hg hr⟩
  · exact .inr ⟨h1.grown hg hr, h2.two, h2.way, h2.ne, h2.k16, h2.row.grown hg hr, h2.off, h2.on⟩
theorem PtrS.grown {W W' : World} {row : Option Nat} {q : Option Addr} (h : PtrS W q) (hg : W.grownBy W' row) (hr : ∀ r, row = some r → ∃ o : Obj, W.heap[r]? = some o ∧ o.isCells = false) : PtrS W' q := by
  rcases h with h | ⟨g, h, key, f, t, A, n, c, np, d, m, s, dig, hk, hA⟩
  · exact .inl h
  · exact .inr ⟨g, h, key, f, t, A, n, c, np, d, m, s, dig, hk, hA.grown hg hr⟩

/-- A block of one pointer is none of a wood's. -/
theorem NdAt.offOne {M : Wood} {W W' : World} {b : Nat} {n : Nd} (h : NdAt M W b n) {g : Nat} {T : TypeId} {p : Option Addr} (hg : Arr W g T [.pointer p]) (h1 : T ≠ 87) (h2 : T ≠ 132) (ho : Only (fun k => k = g) W W') : NdAt M W' b n := by
  have ty : ∀ k U cs, Arr W k U cs → U ≠ T → k ≠ g := fun k U cs hk hU e => by
    rw [e] at hk
    have q : some _ = some _ := hk.symm.trans hg
    injection q with q
    injection q with q1 q2
    exact hU q2
  refine h.keep ho ?_ ?_ ?_
  · obtain ⟨cs, hcs⟩ := h.typ
    exact ty _ _ _ hcs h1.symm
  · intro hl
    obtain ⟨cs, hcs⟩ := h.rowOf hl
    exact ty _ _ _ hcs h2.symm
  · intro hl a ha hpos e
    obtain ⟨d, s, dig, _, _, hc⟩ := h.cells
    rcases hc with ⟨_, hlf⟩ | ⟨_, hbr⟩
    · obtain ⟨val, q1, q2, q3⟩ := hlf.one
      obtain ⟨k, off, q4, _, q5⟩ := q3 (by omega)
      have q6 := q5 0 (by omega)
      rw [ha] at q4
      injection q4 with q4
      rw [q4] at e
      simp only at e
      rw [e, hg.cell] at q6
      match off, q6 with
      | 0, q6 => cases q6
      | o + 1, q6 => simp at q6
    · have := hbr.two; omega
theorem Stand.boxed {M : Wood} {W W' : World} (h : Stand M W) {g : Nat} {p : Option Addr} (hg : Boxed W g 60 (.pointer p)) (ho : Only (fun k => k = g) W W') : Stand M W' := fun b n hb => (h b n hb).offOne (show Arr W g 60 [.pointer p] from hg) (by decide) (by decide) ho
theorem NodeS.boxed {W W' : World} {k : Nat} (h : NodeS W k) {g : Nat} {p : Option Addr} (hg : Boxed W g 60 (.pointer p)) (ho : Only (fun k => k = g) W W') : NodeS W' k := by
  obtain ⟨key, f, t, A, n, c, np, d, m, s, dig, hk, hA⟩ := h
  refine ⟨key, f, t, A, n, c, np, d, m, s, dig, hk, hA.only ho (fun e => ?_)⟩
  rw [e] at hA
  have q : some _ = some _ := (show W.heap[g]? = some _ from hA).symm.trans hg
  injection q with q
  injection q with q1 q2
  exact absurd q2 (by decide)
theorem PtrS.up {W W' : World} {q : Option Addr} (h : PtrS W q) (hb : Below W.heap.size W W') : PtrS W' q :=
  h.grown (row := none) ⟨hb.os, hb.tape, hb.output, hb.size, fun k hk _ => hb.block k hk⟩ (fun _ e => by cases e)
theorem cell_ltC {W : World} {p : Addr} {v : Value} (h : W.cell? p = some v) : p.block < W.heap.size := by
  rcases Nat.lt_or_ge p.block W.heap.size with h1 | h1
  · exact h1
  · simp [World.cell?, Array.getElem?_eq_none h1] at h

/-- What is made of rows of items, a key being put or taken out. -/
structure GOk (key : List UInt8) (G : List It → List It) : Prop where
  rise : ∀ l, Rise l → Rise (G l)
  l32 : ∀ l, (∀ x ∈ l, x.1.length = 32) → ∀ x ∈ G l, x.1.length = 32
  vals : ∀ l, (∀ x ∈ l, x.1.length = 32) → (∀ x ∈ l, x.2.length ≤ 1000) → ∀ x ∈ G l, x.2.length ≤ 1000
  mem : ∀ l, (∀ x ∈ l, x.1.length = 32) → ∀ x ∈ G l, x.1 = key ∨ x ∈ l
  sub : ∀ l t n, Rise l → (∀ x ∈ l, x.1.length = 32) → subF (G l) t n = if nibF key t = n then G (subF l t n) else subF l t n
  ne : ∀ l, Rise l → 2 ≤ l.length → G l ≠ []
/-- What stands for a node's items then. -/
def Res (M : Wood) (G : List It → List It) (q : Option Addr) (n : Nd) : Prop := (G n.l = [] ∧ q = none) ∨ (G n.l ≠ [] ∧ ∃ c m, q = some ⟨c, 0, none⟩ ∧ M c = some m ∧ m.l = G n.l ∧ m.f = n.f)
/-- Branches above a node, the last one first. -/
def Chain (M : Wood) (key : List UInt8) : List Nat → Nd → Nd → Prop
  | [], cur, top => cur = top
  | b :: rb, cur, top => ∃ n, M b = some n ∧ 2 ≤ n.l.length ∧ sharedF n.l n.f ≤ commF n.key key ∧ cur.l = subF n.l (sharedF n.l n.f) (nibF key (sharedF n.l n.f)) ∧ cur.f = sharedF n.l n.f + 1 ∧ Chain M key rb n top

theorem chain_ok {M M1 : Wood} {key : List UInt8} {G : List It → List It} (hG : GOk key G) {w : World} (hS : Stand M w) {b : Nat} {n cur : Nd} {q : Option Addr} (hb : M b = some n) (h2 : 2 ≤ n.l.length) (hc : sharedF n.l n.f ≤ commF n.key key) (hl : cur.l = subF n.l (sharedF n.l n.f) (nibF key (sharedF n.l n.f))) (hf : cur.f = sharedF n.l n.f + 1) (hr : Res M1 G q cur) :
    PutOk M1 n (nibF key (sharedF n.l n.f)) q (G n.l) := by
  have hn := hS b n hb
  obtain ⟨d, s, dig, hdl, hd, hcs⟩ := hn.cells
  rcases hcs with ⟨_, hlf⟩ | ⟨_, hbr⟩
  · obtain ⟨val, e, _⟩ := hlf.one
    rw [e] at h2; simp at h2
  · have hkey : ∀ x ∈ G n.l, ∀ j, j < sharedF n.l n.f → nibF x.1 j = nibF n.key j := fun x hx j hj => by
      rcases hG.mem _ hn.l32 x hx with e | h
      · rw [e]; exact (commF_in (by omega)).symm
      · exact hbr.way x h j hj
    have hge := sharedF_ge n.l n.f
    have hsub : subF (G n.l) (sharedF n.l n.f) (nibF key (sharedF n.l n.f)) = G cur.l := by rw [hG.sub _ _ _ hn.rise hn.l32, if_pos rfl, hl]
    refine ⟨hG.rise _ hn.rise, hG.l32 _ hn.l32, hG.vals _ hn.l32 hn.vals, fun j hj => agreeF_iff.2 fun x hx y hy => by rw [hkey x hx j (by omega), hkey y hy j (by omega)], hG.ne _ hn.rise h2, hkey, fun j hj hne => by rw [hG.sub _ _ _ hn.rise hn.l32, if_neg (fun e => hne e.symm)], ?_⟩
    rw [hsub]
    rcases hr with h | ⟨h, c, m, k1, k2, k3, k4⟩
    · exact .inl h
    · exact .inr ⟨h, c, m, k1, k2, k3, by rw [k4, hf]⟩

def ChI (B0 : Nat) (M : Wood) (key : List UInt8) (KL : List Value) (G : List It → List It) (rb : List Nat) (top : Nd) (Bk Bq : Nat) (w : World) (pre : List (IdxB M)) (W : World) : Prop :=
  (∃ q, Boxed W Bq 60 (.pointer q) ∧ Arr W Bk 24 KL ∧ Stand M W ∧ PtrS W q ∧
    (∀ rest, rb = pre.map (fun x => x.2.1) ++ rest → ∃ cur M1, (M.le M1 ∧ M.Up M1 B0) ∧ Stand M1 W ∧ M1.Sep ∧ Res M1 G q cur ∧ Chain M key rest cur top)) ∧ Below w.heap.size w W
theorem ChI.own {B0 : Nat} {M : Wood} {key : List UInt8} {KL : List Value} {G : List It → List It} {rb : List Nat} {top : Nd} {Bk Bq : Nat} {w : World} {B : Nat} (hB : w.heap.size ≤ B) : OwnFrom B (ChI B0 M key KL G rb top Bk Bq w) :=
  OwnFrom.and (Own.from (fun s X Y row ⟨q, h1, h2, h3, h4, h5⟩ hg hr => ⟨q, h1.kept hg (fun e => by
    obtain ⟨o, ho, hc⟩ := hr Bq e.symm
    rw [show X.heap[Bq]? = some _ from h1] at ho
    cases ho
    cases hc), h2.grown hg hr, h3.grown hg hr, h4.grown hg hr, fun rest hrest => by
      obtain ⟨cur, M1, k1, k2, k3, k4, k5⟩ := h5 rest hrest
      exact ⟨cur, M1, k1, k2.grown hg hr, k3, k4, k5⟩⟩) _) (ownFrom_below (Nat.le_refl _) hB)

theorem stepIn_load_row {F : Fence} {n' : Nat} {P : Program} {o : Oper} {a : Act} {w : World} {ys : Nat → Option Bool} {Q : Exit → Act → World → Prop} {K : Act → World → Prop} (hgd : o.guard = none) (ty : TypeId) (x : Operand) (ho : o.op = .load ty x)
    (g : Nat) (hx : a.eval x = .pointer (some ⟨g, 0, none⟩)) (t : TypeId) (cs : Array Value) (fr : Nat × Nat) (d : TypeDesc) (hg : w.heap[g]? = some (.cells cs t fr))
    (hu : P.underlying ty = some d) (hd : (match d with | .struct _ | .array _ _ => true | _ => false) = true) (hi : (P.info? ty).map (·.size) = some cs.size)
    (h : K (a.put o.dst (.agg cs)) w) : if Region.wanted o ys = true then Oper.wpIn F n' P o a w K Q else (∀ f, o.about P w a.eval = some f → F.fn f) ∧ K (a.put o.dst undef) w := by
  rw [if_pos (by simp [Region.wanted, hgd])]
  unfold Oper.wpIn
  refine ⟨?_, ?_⟩
  · simp [Oper.about, ho, resolve, Target.leads, Sem.run_pure]
  · rw [Oper.semAt_plain F _ _ (by rw [ho]; intro c hc'; cases hc')]
    simp only [execOp, ho, hx, Instr.loadAt, Instr.sureAddr, Sem.run_bind, Sem.run_pure, Result.andThen_ok, run_loadVar_row w g t ty cs fr d hg hu hd hi]
    exact h
def updC (s : Nat → Value) (i : Nat) (v : Value) : Nat → Value := fun j => if j = i then v else s j
/-- What holds in the region of change's body, whatever its order. -/
structure CI (val : Nat → Value) (W : World) (Post : Nat → World → Prop) (Fin : World → Prop) (D : Nat → Prop) (s : Nat → Value) (w : World) : Prop where
  v : ∀ j, j < 8 → D j → s j = val j
  cl : (D 3 → D 2) ∧ (D 4 → D 3) ∧ (D 5 → D 4) ∧ (D 6 → D 1 ∧ D 5)
  u : ¬ D 8 → Below W.heap.size W w
  e8 : D 8 → ∀ j, j < 8 → D j
  p : D 8 → ¬ D 9 → ∃ g, s 8 = .pointer (some ⟨g, 0, none⟩) ∧ Post g w ∧ Below W.heap.size W w
  e9 : D 9 → D 8
  z : D 9 → Fin w
section
variable {val : Nat → Value} {W : World} {Post : Nat → World → Prop} {Fin : World → Prop} {D : Nat → Prop} {s : Nat → Value} {w w' : World}
theorem CI.begin (h : Below W.heap.size W w) : CI val W Post Fin (fun _ => False) s w := ⟨fun _ _ h => h.elim, ⟨fun h => h.elim, fun h => h.elim, fun h => h.elim, fun h => h.elim⟩, fun _ => h, fun h => h.elim, fun h => h.elim, fun h => h.elim, fun h => h.elim⟩
theorem CI.ext {D' : Nat → Prop} (h : CI val W Post Fin D s w) (hd : ∀ i, D i ↔ D' i) : CI val W Post Fin D' s w := by
  have : D = D' := funext fun i => propext (hd i)
  subst this; exact h
theorem CI.world (h : CI val W Post Fin D s w) (i : Nat) (hi : i < 8) (hD : ¬ D i) : ¬ D 8 ∧ ¬ D 9 ∧ Below W.heap.size W w := by
  have h8 : ¬ D 8 := fun h8 => hD (h.e8 h8 i hi)
  exact ⟨h8, fun h9 => h8 (h.e9 h9), h.u h8⟩
theorem CI.put (h : CI val W Post Fin D s w) (i : Nat) (hi : i < 8) (hD : ¬ D i) (hc : (i = 3 → D 2) ∧ (i = 4 → D 3) ∧ (i = 5 → D 4) ∧ (i = 6 → D 1 ∧ D 5)) (hb : Below w.heap.size w w') : CI val W Post Fin (fun j => D j ∨ j = i) (updC s i (val i)) w' := by
  obtain ⟨h8, h9, hu⟩ := h.world i hi hD
  refine ⟨fun j hj hd => ?_, ⟨fun hd => .inl (hd.elim h.cl.1 (fun e => hc.1 e.symm)), fun hd => .inl (hd.elim h.cl.2.1 (fun e => hc.2.1 e.symm)), fun hd => .inl (hd.elim h.cl.2.2.1 (fun e => hc.2.2.1 e.symm)), fun hd => (hd.elim h.cl.2.2.2 (fun e => hc.2.2.2 e.symm)).imp .inl .inl⟩, fun _ => hu.trans (hb.mono hu.size), fun hd => absurd (hd.resolve_right (by omega)) h8, fun hd => absurd (hd.resolve_right (by omega)) h8, fun hd => absurd (hd.resolve_right (by omega)) h9, fun hd => absurd (hd.resolve_right (by omega)) h9⟩
  unfold updC
  by_cases e : j = i
  · rw [if_pos e, e]
  · rw [if_neg e]; exact h.v j hj (hd.resolve_right e)
theorem CI.all (h : CI val W Post Fin D s w) (h0 : D 0) (h6 : D 6) (h7 : D 7) : ∀ j, j < 8 → D j := fun j hj => by
  have h1 := (h.cl.2.2.2 h6).1
  have h5 := (h.cl.2.2.2 h6).2
  have h4 := h.cl.2.2.1 h5
  have h3 := h.cl.2.1 h4
  have h2 := h.cl.1 h3
  obtain rfl | rfl | rfl | rfl | rfl | rfl | rfl | rfl : j = 0 ∨ j = 1 ∨ j = 2 ∨ j = 3 ∨ j = 4 ∨ j = 5 ∨ j = 6 ∨ j = 7 := by omega
  all_goals assumption
theorem CI.call (h : CI val W Post Fin D s w) (hD : ¬ D 8) (hall : ∀ j, j < 8 → D j) (g : Nat) (hp : Post g w') (hb : Below w.heap.size w w') : CI val W Post Fin (fun j => D j ∨ j = 8) (updC s 8 (.pointer (some ⟨g, 0, none⟩))) w' := by
  have hu := h.u hD
  have h9 : ¬ D 9 := fun h9 => hD (h.e9 h9)
  refine ⟨fun j hj hd => ?_, ⟨fun _ => .inl (hall 2 (by omega)), fun _ => .inl (hall 3 (by omega)), fun _ => .inl (hall 4 (by omega)), fun _ => ⟨.inl (hall 1 (by omega)), .inl (hall 5 (by omega))⟩⟩, fun hn => absurd (.inr rfl) hn, fun _ j hj => .inl (hall j hj), fun _ _ => ⟨g, by unfold updC; rw [if_pos rfl], hp, hu.trans (hb.mono hu.size)⟩, fun hd => .inr rfl, fun hd => absurd (hd.resolve_right (by omega)) h9⟩
  unfold updC
  rw [if_neg (by omega)]
  exact h.v j hj (hall j hj)
theorem CI.store (h : CI val W Post Fin D s w) (h8 : D 8) (hf : Fin w') : CI val W Post Fin (fun j => D j ∨ j = 9) s w' :=
  ⟨fun j hj hd => h.v j hj (hd.resolve_right (by omega)), ⟨fun _ => .inl (h.e8 h8 2 (by omega)), fun _ => .inl (h.e8 h8 3 (by omega)), fun _ => .inl (h.e8 h8 4 (by omega)), fun _ => ⟨.inl (h.e8 h8 1 (by omega)), .inl (h.e8 h8 5 (by omega))⟩⟩, fun hn => absurd (.inl h8) hn, fun _ j hj => .inl (h.e8 h8 j hj), fun _ hn => absurd (.inr rfl) hn, fun _ => .inl h8, fun _ => hf⟩
end

set_option maxRecDepth 100000 in
set_option maxHeartbeats 4000000 in
theorem change_in (a : Nat) (p0 : Option Addr) (M : Wood) (key : List UInt8) (KL : List Value) (hKL : KL = Lib.byteCells key) (hk : key.length = 32) (G : List It → List It) (hG : GOk key G) (bs : List Nat) (hlen : bs.length ≤ 100) (hbr : ∀ b ∈ bs, ∃ n, M b = some n ∧ 2 ≤ n.l.length) (top : Nd)
    (A : Option Addr) (c : Nat) (hc : bs.length ≤ c) (q0 : Option Addr) (cur0 : Nd) (M0 : Wood) (w : World) (hM0 : M.le M0) (B0 : Nat) (hB0 : B0 ≤ w.heap.size) (hup : M.Up M0 B0) (hS0 : Stand M0 w) (hsep : M0.Sep) (hres : Res M0 G q0 cur0) (hch : Chain M key bs.reverse cur0 top) (hS : Stand M w) (hq0 : PtrS w q0)
    (hrow : ∀ i b, bs[i]? = some b → ∃ g o, A = some ⟨g, o, none⟩ ∧ g < w.heap.size ∧ w.cell? ⟨g, o + i, none⟩ = some (.pointer (some ⟨b, 0, none⟩))) (hroot : Arr w a 62 [.pointer p0]) :
    CallsIn Fence.wide 5 Tryz.prog 41 #[.pointer (some ⟨a, 0, none⟩), .agg KL.toArray, .slice A bs.length c, .pointer q0] w fun e W' => e = .returned (.tuple #[]) ∧ ∃ q M1, (M.le M1 ∧ M.Up M1 B0) ∧ Stand M1 W' ∧ M1.Sep ∧ Res M1 G q top ∧ Arr W' a 62 [.pointer q] ∧ Only (fun k => k = a) w W' := by
  have HKL := Lib.hid hKL
  clear hKL
  refine callsIn_of_wp_marks Tryz.func41 rfl trivial ?_ rfl
  simp only [Tryz.ntmps41, List.size_toArray, List.length_cons, List.length_nil, Nat.reduceAdd, Nat.reduceSub, Array.replicate_succ, Array.replicate_zero, List.push_toArray, List.append_toArray, List.nil_append, List.cons_append]
  have h15 : 1 ≤ 5 := by omega
  gi_wp2_with (refine ⟨trivial, ?_⟩; gi_at_call 58; refine (callsIn_wide.2 (backward_run _ _ _ _)).mono ?_; rintro e w' ⟨rfl, rfl⟩)
  have hq1 := (Boxed.new (w.alloc (.cells KL.toArray 24)) 60 (.pointer q0))
  rw [World.size_alloc] at hq1
  have hb1 : Below w.heap.size w (w.alloc (.cells KL.toArray 24)) := (Below.refl _ w).alloc (Nat.le_refl _) _
  have hb2 : Below w.heap.size w ((w.alloc (.cells KL.toArray 24)).alloc (.cells #[.pointer q0] 60)) := hb1.alloc hb1.size _
  have hb3 : Below w.heap.size w (((w.alloc (.cells KL.toArray 24)).alloc (.cells #[.pointer q0] 60)).alloc (.cells #[.slice A bs.length c] 89)) := hb2.alloc hb2.size _
  obtain ⟨W0, hW0⟩ : ∃ W0, (((w.alloc (.cells KL.toArray 24)).alloc (.cells #[.pointer q0] 60)).alloc (.cells #[.slice A bs.length c] 89)) = W0 := ⟨_, rfl⟩
  have hsz : W0.heap.size = w.heap.size + 3 := by rw [← hW0]; simp
  have hA0 : Arr W0 w.heap.size 24 KL := by rw [← hW0]; exact ((Arr.new w _ KL).alloc _).alloc _
  have hQ0 : Boxed W0 (w.heap.size + 1) 60 (.pointer q0) := by rw [← hW0]; exact hq1.alloc _
  have hS00 : Boxed W0 (w.heap.size + 2) 89 (.slice A bs.length c) := by
    rw [← hW0]
    have h := Boxed.new ((w.alloc (.cells KL.toArray 24)).alloc (.cells #[.pointer q0] 60)) 89 (.slice A bs.length c)
    simpa using h
  rw [hW0] at hb3 ⊢
  have hback : BackMem (w.heap.size + 2) A c bs W0 := ⟨hS00.cell, hc, fun i b hi => by
    obtain ⟨g, o, e, hg, hcell⟩ := hrow i b hi
    exact ⟨g, o, e, by rw [← hcell]; exact World.cell?_of_block (hb3.block g hg)⟩⟩
  clear hW0 hb1 hb2 hq1
  refine wpIn_rangeFunc_ownG rfl h15 (gf := 75) (lb := #[.pointer (some ⟨w.heap.size + 2, 0, none⟩)]) rfl trivial (enters_of Tryz.func75 (by kernel_rfl) rfl)
    (show SeqStopsK Fence.wide (5 - 1) Tryz.prog 75 #[.pointer (some ⟨w.heap.size + 2, 0, none⟩)] (encB (M := M)) (Only (fun k => w.heap.size ≤ k ∧ k ≠ w.heap.size + 2)) (fun ys => ys.map (fun x => x.2.1) = bs.reverse) (fun _ => True) bs.length W0 from ?seq) ?hKt ?hKb (Below.refl _ _) (fun _ => rfl)
    (ChI B0 M key KL G bs.reverse top w.heap.size (w.heap.size + 1) w)
    (fun _ _ _ => False)
    (ChI.own (by omega))
    (fun _ _ _ _ _ hs _ _ => hs)
    ?h0
    (fun x => { tmps := #[.pointer (some ⟨a, 0, none⟩), .agg KL.toArray, .slice A bs.length c, .pointer q0, undef, .pointer (some ⟨w.heap.size, 0, none⟩), undef, .pointer (some ⟨w.heap.size + 1, 0, none⟩), undef, .pointer (some ⟨x.2.1, 0, none⟩), .slice A bs.length c, .func (.func 75) #[] #[.pointer (some ⟨w.heap.size + 2, 0, none⟩)], .int .i64 (x.1 : Nat), .pointer (some ⟨x.2.1, 0, none⟩), undef, undef, undef, undef, undef, undef, undef, undef, undef, undef, undef, undef, undef], defers := [] }) ?assign ?body ?done ?stop
  case seq =>
    intro l J Jx W hW hJ _ hY h0
    refine backward1_in (5 - 1) (by omega) l _ A c bs hlen M hbr W.heap.size J Jx hJ _ (fun X Y hXY hX => ?_) hY W ?_ h0
    · have hl := cell_ltC hX.box
      refine ⟨by rw [← hX.box]; exact World.cell?_of_block (hXY.block _ hl (fun h => h.2 rfl)), hX.le, fun i b hi => ?_⟩
      obtain ⟨g, o, e, hcell⟩ := hX.row i b hi
      obtain ⟨g', o', e', hg', _⟩ := hrow i b hi
      rw [e] at e'
      injection e' with e'
      injection e' with e1 e2
      refine ⟨g, o, e, ?_⟩
      rw [← hcell]
      exact World.cell?_of_block (hXY.block _ (cell_ltC hcell) (fun h => by have h1 : w.heap.size ≤ g := h.1; subst e1; omega))
    · refine ⟨(hW.cell (p := ⟨w.heap.size + 2, 0, none⟩) (cell_ltC hback.box)).trans hback.box, hc, fun i b hi => ?_⟩
      obtain ⟨g, o, e, hcell⟩ := hback.row i b hi
      exact ⟨g, o, e, (hW.cell (p := ⟨g, o + i, none⟩) (cell_ltC hcell)).trans hcell⟩
  case hKt => intro X Y Z h k; exact h.trans k
  case hKb =>
    intro W l o o' hl ho _ _
    have hg := grownBy_putObj' W l o'
    exact ⟨hg.os, hg.tape, hg.output, hg.size, fun k hk hn => hg.block k hk (fun e => hn (by injection e with e; rw [e]; exact ⟨by omega, by omega⟩))⟩
  case h0 =>
    have hb3' := hb3.mono (Nat.le_refl _)
    refine ⟨⟨q0, hQ0, hA0, hS.up hb3, hq0.up hb3, fun rest hrest => ⟨cur0, M0, ⟨hM0, hup⟩, hS0.up hb3, hsep, hres, ?_⟩⟩, hb3⟩
    have : rest = bs.reverse := by simpa using hrest.symm
    rw [this]
    exact hch
  case assign =>
    intro l x W K hK
    unfold encB
    gi_wp2
    exact hK
  case body =>
    rintro l pre x W ⟨⟨q, hq, hkb, hSW, hqs, hsem⟩, hB⟩ hlt
    obtain ⟨nd, hb, h2⟩ := x.2.2
    obtain ⟨b, hbx⟩ : ∃ b, x.2.1 = b := ⟨_, rfl⟩
    rw [hbx] at hb
    rw [hbx]
    obtain ⟨sh, hsh⟩ : ∃ sh, sharedF nd.l nd.f = sh := ⟨_, rfl⟩
    obtain ⟨ni, hni⟩ : ∃ ni, nibF key sh = ni := ⟨_, rfl⟩
    have hni16 : ni < 16 := by rw [← hni]; exact nibF_lt _ _
    obtain ⟨Post, hPost⟩ : ∃ Post : Nat → World → Prop, Post = fun g w'' => NodeS w'' g ∧ ∀ rest, bs.reverse = (pre ++ [x]).map (fun x : IdxB M => x.2.1) ++ rest → ∃ cur M1, (M.le M1 ∧ M.Up M1 B0) ∧ Stand M1 w'' ∧ M1.Sep ∧ Res M1 G (some ⟨g, 0, none⟩) cur ∧ Chain M key rest cur top := ⟨_, rfl⟩
    have hput : ∀ w', Below W.heap.size W w' → Calls Tryz.prog 59 #[.pointer (some ⟨b, 0, none⟩), .int .u8 (ni : Nat), .pointer q] w' fun x w'' => ∃ g2, x = .returned (.pointer (some ⟨g2, 0, none⟩)) ∧ Post g2 w'' ∧ Below w'.heap.size w' w'' := fun w' hb' => by
      have hmap : (pre ++ [x]).map (fun x : IdxB M => x.2.1) = pre.map (fun x => x.2.1) ++ [b] := by rw [List.map_append, List.map_singleton, hbx]
      by_cases hin : ∃ rest, bs.reverse = pre.map (fun x : IdxB M => x.2.1) ++ b :: rest
      · obtain ⟨rest, hrest⟩ := hin
        obtain ⟨cur, M1, k1, k2, k3, k4, k5⟩ := hsem _ hrest
        obtain ⟨n', c1, c2, c3, c4, c5, c6⟩ := k5
        rw [hb] at c1
        injection c1 with c1
        subst c1
        have hok := chain_ok hG hSW hb h2 c3 c4 c5 k4
        rw [hsh, hni] at hok
        refine (put_sem M1 b nd (k1.1 b nd hb) h2 ni hni16 q (G nd.l) hok w' (k2.up hb')).mono ?_
        rintro y w'' ⟨g2, n2, p1, rfl, p2, p3, p4, p5, p6⟩
        refine ⟨g2, rfl, ?_, p6⟩
        rw [hPost]
        refine ⟨p4.shape, fun rest' hrest' => ?_⟩
        have er : rest' = rest := by
          rw [hmap, hrest, List.append_assoc] at hrest'
          have := List.append_cancel_left hrest'
          simpa using this.symm
        subst er
        have f0 := (k2.up hb').fresh p1
        refine ⟨nd, M1.set g2 n2, ⟨Wood.le_trans k1.1 (Wood.set_le n2 f0), Wood.up_set k1.2 (by have := hb'.size; have := hB.size; omega) (ValsUp.old p5)⟩, ((k2.up hb').up p6).add f0 p4, p5.sep k3 (k2.up hb') p1, .inr ⟨hG.ne _ (hSW b nd hb).rise h2, g2, n2, rfl, Wood.set_at _ _ _, p2, p3⟩, c6⟩
      · refine (put_shape M b nd hb h2 ni hni16 q w' (hSW.up hb') (hqs.up hb')).mono ?_
        rintro y w'' ⟨g2, p1, rfl, p4, p6⟩
        refine ⟨g2, rfl, ?_, p6⟩
        rw [hPost]
        refine ⟨p4, fun rest' hrest' => ?_⟩
        rw [hmap, List.append_assoc] at hrest'
        exact absurd ⟨rest', hrest'⟩ hin
    have hcell : ∀ w', Below W.heap.size W w' → w'.cell? ⟨b, 33, none⟩ = some (.int .i64 (sh : Nat)) := fun w' hb' => by
      have hn := (hSW.up hb') b nd hb
      obtain ⟨d, s, dig, _, _, hcs⟩ := hn.cells
      rcases hcs with ⟨_, hlf⟩ | ⟨hN, _⟩
      · obtain ⟨val, e, _⟩ := hlf.one
        rw [e] at h2; simp at h2
      · rw [← hsh]
        exact (node_at rfl hn.k32 hN).2.1
    have hshl : sh < 64 := by
      rw [← hsh]
      have hn := hSW b nd hb
      exact (hn.rise.good hn.l32).split h2 hn.f64 hn.agree
    have Hput := Lib.hid hput
    have Hki := Lib.hid (show (Tryz.prog.info? 24).map (·.size) = some KL.toArray.size by rw [HKL.out, dig_size hk]; kernel_rfl)
    have Hcell := Lib.hid hcell
    have HPost := Lib.hid hPost
    have Hsem := Lib.hid hsem
    have Hni := Lib.hid hni
    clear hput hcell hsh hPost hsem hni
    obtain ⟨val, hval⟩ : ∃ val : Nat → Value, val = fun j => if j = 0 then .pointer (some ⟨b, 0, none⟩) else if j = 1 then .agg KL.toArray else if j = 2 then .pointer (some ⟨b, 0, none⟩) else if j = 3 then .pointer (some ⟨b, 0, none⟩) else if j = 4 then .pointer (some ⟨b, 33, none⟩) else if j = 5 then .int .i64 (sh : Nat) else if j = 6 then .int .u8 (ni : Nat) else .pointer q := ⟨_, rfl⟩
    have v0 : val 0 = .pointer (some ⟨b, 0, none⟩) := by rw [hval]; rfl
    have v1 : val 1 = .agg KL.toArray := by rw [hval]; rfl
    have v2 : val 2 = .pointer (some ⟨b, 0, none⟩) := by rw [hval]; rfl
    have v3 : val 3 = .pointer (some ⟨b, 0, none⟩) := by rw [hval]; rfl
    have v4 : val 4 = .pointer (some ⟨b, 33, none⟩) := by rw [hval]; rfl
    have v5 : val 5 = .int .i64 (sh : Nat) := by rw [hval]; rfl
    have v6 : val 6 = .int .u8 (ni : Nat) := by rw [hval]; rfl
    have v7 : val 7 = .pointer q := by rw [hval]; rfl
    clear hval
    refine wpIn_block ?_
    refine wpIn_region_inv (fun D a' w' => ∃ s : Nat → Value, a' = ⟨#[.pointer (some ⟨a, 0, none⟩), .agg KL.toArray, .slice A bs.length c, .pointer q0, undef, .pointer (some ⟨w.heap.size, 0, none⟩), undef, .pointer (some ⟨w.heap.size + 1, 0, none⟩), undef, .pointer (some ⟨b, 0, none⟩), .slice A bs.length c, .func (.func 75) #[] #[.pointer (some ⟨w.heap.size + 2, 0, none⟩)], .int .i64 (x.1 : Nat), .pointer (some ⟨b, 0, none⟩), s 0, s 1, s 2, s 3, s 4, s 5, s 6, s 7, s 8, undef, undef, undef, undef], []⟩ ∧ CI val W Post (fun w' => KeepsFrom W0.heap.size W w' ∧ Only (fun k => w.heap.size ≤ k ∧ k ≠ w.heap.size + 2) W w' ∧ ChI B0 M key KL G bs.reverse top w.heap.size (w.heap.size + 1) w (pre ++ [x]) w') D s w') (by kernel_rfl) (by kernel_rfl) ⟨fun _ => undef, rfl, CI.begin ⟨rfl, rfl, rfl, Nat.le_refl _, fun _ _ => rfl⟩⟩ ?_ ?_ (fun D D' a' w' ⟨s, e, h⟩ hd => ⟨s, e, h.ext hd⟩)
    · rintro D a' w' i o ⟨s, rfl, h⟩ ho hD hdep K hK
      have HK := Lib.hid hK
      clear hK
      have hi10 : i < 10 := (Array.getElem?_eq_some_iff.1 ho).1
      obtain rfl | rfl | rfl | rfl | rfl | rfl | rfl | rfl | rfl | rfl : i = 0 ∨ i = 1 ∨ i = 2 ∨ i = 3 ∨ i = 4 ∨ i = 5 ∨ i = 6 ∨ i = 7 ∨ i = 8 ∨ i = 9 := by omega
      · injection ho with ho
        subst ho
        go_simp
        exact HK.out _ _ ⟨updC s 0 (val 0), (by simp [updC, v0]), h.put 0 (by omega) hD (by refine ⟨?_, ?_, ?_, ?_⟩ <;> intro e <;> first | omega | assumption | exact ⟨by assumption, by assumption⟩) (Below.refl _ _)⟩
      · injection ho with ho
        subst ho
        obtain ⟨_, _, hu⟩ := h.world 1 (by omega) hD
        have hX3 : w'.heap[w.heap.size]? = some (.cells KL.toArray 24 (0, 0)) := hkb.below hu hkb.lt
        refine stepIn_load_row rfl _ _ rfl w.heap.size rfl 24 KL.toArray (0, 0) _ hX3 Tryz.underlying24 rfl Hki.out ?_
        exact HK.out _ _ ⟨updC s 1 (val 1), (by simp [updC, v1, Act.put]), h.put 1 (by omega) hD (by refine ⟨?_, ?_, ?_, ?_⟩ <;> intro e <;> first | omega | assumption | exact ⟨by assumption, by assumption⟩) (Below.refl _ _)⟩
      · injection ho with ho
        subst ho
        go_simp
        exact HK.out _ _ ⟨updC s 2 (val 2), (by simp [updC, v2]), h.put 2 (by omega) hD (by refine ⟨?_, ?_, ?_, ?_⟩ <;> intro e <;> first | omega | assumption | exact ⟨by assumption, by assumption⟩) (Below.refl _ _)⟩
      · injection ho with ho
        subst ho
        have d2 : D 2 := hdep ⟨2, .data⟩ (by simp) (by kernel_rfl)
        have e2 := (h.v 2 (by omega) d2).trans v2
        go_simp
        exact HK.out _ _ ⟨updC s 3 (val 3), (by simp [updC, v3, e2]), h.put 3 (by omega) hD (by refine ⟨?_, ?_, ?_, ?_⟩ <;> intro e <;> first | omega | assumption | exact ⟨by assumption, by assumption⟩) (Below.refl _ _)⟩
      · injection ho with ho
        subst ho
        have d3 : D 3 := hdep ⟨3, .data⟩ (by simp) (by kernel_rfl)
        have e3 := (h.v 3 (by omega) d3).trans v3
        go_simp
        exact HK.out _ _ ⟨updC s 4 (val 4), (by simp [updC, v4, e3]), h.put 4 (by omega) hD (by refine ⟨?_, ?_, ?_, ?_⟩ <;> intro e <;> first | omega | assumption | exact ⟨by assumption, by assumption⟩) (Below.refl _ _)⟩
      · injection ho with ho
        subst ho
        have d4 : D 4 := hdep ⟨4, .data⟩ (by simp) (by kernel_rfl)
        have e4 := (h.v 4 (by omega) d4).trans v4
        obtain ⟨_, _, hu⟩ := h.world 5 (by omega) hD
        have hc33 := Hcell.out w' hu
        go_simp
        exact HK.out _ _ ⟨updC s 5 (val 5), (by simp [updC, v5, e4]), h.put 5 (by omega) hD (by refine ⟨?_, ?_, ?_, ?_⟩ <;> intro e <;> first | omega | assumption | exact ⟨by assumption, by assumption⟩) (Below.refl _ _)⟩
      · injection ho with ho
        subst ho
        have d1 : D 1 := hdep ⟨1, .data⟩ (by simp) (by kernel_rfl)
        have e1 := (h.v 1 (by omega) d1).trans v1
        have d5 : D 5 := hdep ⟨5, .data⟩ (by simp) (by kernel_rfl)
        have e5 := (h.v 5 (by omega) d5).trans v5
        go_simp
        refine ⟨trivial, ?_⟩
        refine (CallsIn.inRound l (callsIn_wide.2 (nibble_run key hk KL HKL.out sh hshl _ rfl ni Hni.out.symm w'))).mono ?_
        rintro e w5 ⟨rfl, hb5⟩
        exact HK.out _ _ ⟨updC s 6 (val 6), (by simp [updC, v6, e1, e5]), h.put 6 (by omega) hD (by refine ⟨?_, ?_, ?_, ?_⟩ <;> intro e <;> first | omega | assumption | exact ⟨by assumption, by assumption⟩) hb5⟩
      · injection ho with ho
        subst ho
        obtain ⟨_, _, hu⟩ := h.world 7 (by omega) hD
        have hcq : w'.cell? ⟨w.heap.size + 1, 0, none⟩ = some (.pointer q) := (hu.cell (p := ⟨w.heap.size + 1, 0, none⟩) hq.lt).trans hq.cell
        go_simp
        exact HK.out _ _ ⟨updC s 7 (val 7), (by simp [updC, v7]), h.put 7 (by omega) hD (by refine ⟨?_, ?_, ?_, ?_⟩ <;> intro e <;> first | omega | assumption | exact ⟨by assumption, by assumption⟩) (Below.refl _ _)⟩
      · injection ho with ho
        subst ho
        have d0 : D 0 := hdep ⟨0, .data⟩ (by simp) (by kernel_rfl)
        have e0 := (h.v 0 (by omega) d0).trans v0
        have d6 : D 6 := hdep ⟨6, .data⟩ (by simp) (by kernel_rfl)
        have e6 := (h.v 6 (by omega) d6).trans v6
        have d7 : D 7 := hdep ⟨7, .data⟩ (by simp) (by kernel_rfl)
        have e7 := (h.v 7 (by omega) d7).trans v7
        go_simp
        have hu := h.u hD
        refine ⟨trivial, ?_⟩
        refine (CallsIn.inRound l (callsIn_wide.2 (Hput.out w' hu))).mono ?_
        rintro e w5 ⟨g2, rfl, hp, hb5⟩
        exact HK.out _ _ ⟨updC s 8 (.pointer (some ⟨g2, 0, none⟩)), (by simp [updC, e0, e6, e7]), h.call hD (h.all d0 d6 d7) g2 hp hb5⟩
      · injection ho with ho
        subst ho
        have d8 : D 8 := hdep ⟨8, .data⟩ (by simp) (by kernel_rfl)
        obtain ⟨g2, e8, hp2, hu⟩ := h.p d8 hD
        have hcq : w'.cell? ⟨w.heap.size + 1, 0, none⟩ = some (.pointer q) := (hu.cell (p := ⟨w.heap.size + 1, 0, none⟩) hq.lt).trans hq.cell
        have hq' : Boxed w' (w.heap.size + 1) 60 (.pointer q) := (hu.block _ hq.lt).trans hq
        have hfq := hq'.frozen
        go_simp
        refine HK.out _ _ ⟨s, (by simp [e8]), h.store d8 ?_⟩
        rw [HPost.out] at hp2
        obtain ⟨hns, hsm⟩ := hp2
        have ho : Only (fun k => k = w.heap.size + 1) w' (w'.setCell ⟨w.heap.size + 1, 0, none⟩ (.pointer (some ⟨g2, 0, none⟩))) := (Only.refl (fun k => k = w.heap.size + 1) w').setCell (p := ⟨w.heap.size + 1, 0, none⟩) (.inl rfl) _
        have hko : KeepsOthers W w' := ⟨hu.size, fun k o hk _ => (hu.block k (Array.getElem?_eq_some_iff.1 hk).1).trans hk⟩
        refine ⟨(hko.trans (KeepsOthers.setCell _ _ _)).from _, (Only.of_below hu).then ho (fun k hk => .inl ⟨by omega, by omega⟩), ⟨some ⟨g2, 0, none⟩, hq'.set _, ?_, ?_, ?_, ?_⟩, hB.trans ((Below.trans (hu.mono hB.size) ((Below.refl w.heap.size w').setCell (p := ⟨w.heap.size + 1, 0, none⟩) (by simp) _)))⟩
        · exact (hkb.below hu hkb.lt).setOther (p := ⟨w.heap.size + 1, 0, none⟩) (by simp) _
        · exact (hSW.up hu).boxed hq' ho
        · exact .inr ⟨g2, rfl, hns.boxed hq' ho⟩
        · intro rest hrest
          obtain ⟨cur, M1, k1, k2, k3, k4, k5⟩ := hsm rest hrest
          exact ⟨cur, M1, k1, k2.boxed hq' ho, k3, k4, k5⟩
    · rintro D a' w' ⟨s, rfl, h⟩ hall
      exact h.z (hall 9 (by decide))
  case done =>
    rintro D ys W hD hys ⟨⟨q, hq, hkb, hSW, hqs, hsem⟩, hB⟩ hK
    have hcq := hq.cell
    have haW : Arr W a 62 [.pointer p0] := hroot.below hB hroot.lt
    have hca := haW.cell 0
    have hfa := haW.frozen 0
    obtain ⟨cur, M1, k1, k2, k3, k4, k5⟩ := hsem [] (by rw [hys]; simp)
    obtain rfl : cur = top := k5
    have ho : Only (fun k => k = a) W (W.setCell ⟨a, 0, none⟩ (.pointer q)) := (Only.refl (fun k => k = a) W).setCell (p := ⟨a, 0, none⟩) (.inl rfl) _
    have hS2 : Stand M1 (W.setCell ⟨a, 0, none⟩ (.pointer q)) := fun b n hb => (k2 b n hb).offOne haW (by decide) (by decide) ho
    have haW2 : Arr (W.setCell ⟨a, 0, none⟩ (.pointer q)) a 62 [.pointer q] := haW.set 0 (.pointer q)
    have hK2 : (W.setCell ⟨a, 0, none⟩ (.pointer q)).heap[D]? = some (.deferred (some [])) := (ho.block D (Array.getElem?_eq_some_iff.1 hK).1 (fun e => by
      have h1 : W.heap[a]? = some _ := haW
      rw [e, h1] at hK
      cases hK)).trans hK
    have hO : Only (fun k => k = a) w (W.setCell ⟨a, 0, none⟩ (.pointer q)) := (Only.of_below hB).then ho (fun k hk => .inl hk)
    clear hsem hqs hSW
    have hcar : W.cell? ⟨a, 0, none⟩ = some (.pointer p0) := hca
    clear hca
    gi_wp2
    refine ⟨by simp, .inl ⟨_, _, rfl, run_takeDeferred hK2, ?_⟩⟩
    have hg := grownBy_putObj' (W.setCell ⟨a, 0, none⟩ (.pointer q)) D (.deferred none)
    have hr : ∀ r, some D = some r → ∃ o : Obj, (W.setCell ⟨a, 0, none⟩ (.pointer q)).heap[r]? = some o ∧ o.isCells = false := fun r e => by injection e with e; subst e; exact ⟨_, hK2, rfl⟩
    refine ⟨_, results_none rfl _ _ _, rfl, q, M1, k1, hS2.grown hg hr, k3, k4, haW2.grown hg hr, hO.then (R' := fun k => k = D) ⟨hg.os, hg.tape, hg.output, hg.size, fun k hk hn => hg.block k hk (fun e => hn (by injection e))⟩ (fun k hk => .inr (by omega))⟩
  case stop =>
    rintro D c pre W _ _ h _
    exact h.elim

end Go.Proofs.YtblgmnjegkfoaaaGreat

namespace Go.Proofs.YtblgmnjegkfoaaaGreat
open Go.RowKit
set_option linter.unusedVariables false
set_option linter.unusedSimpArgs false

theorem way_ex (M : Wood) (w : World) (hS : Stand M w) (key : List UInt8) (hk : key.length = 32) : ∀ (fuel : Nat) (b : Nat) (n : Nd), M b = some n → 65 - n.f ≤ fuel → (∀ x ∈ n.l, ∀ i, i < n.f → nibF x.1 i = nibF key i) →
    ∃ (br : List Nat) (lb : Nat) (nl : Nd), IsWay M key (some ⟨b, 0, none⟩) (br ++ [lb]) ∧ M lb = some nl ∧ nextP nl key = none ∧ (∀ x ∈ nl.l, ∀ i, i < nl.f → nibF x.1 i = nibF key i) ∧ (∀ c ∈ br, ∃ m, M c = some m ∧ 2 ≤ m.l.length) ∧ br.length ≤ 64 - n.f ∧
      (∀ rest top, Chain M key rest n top → Chain M key (br.reverse ++ rest) nl top) ∧ (br = [] → nl = n) ∧ (∀ v, (key, v) ∈ n.l ↔ (key, v) ∈ nl.l) := by
  intro fuel
  induction fuel with
  | zero => intro b n hb hf _; have := (hS b n hb).f64; omega
  | succ fuel ih =>
    intro b n hb hf hkey
    have hn := hS b n hb
    cases hnx : nextP n key with
    | none => exact ⟨[], b, n, ⟨rfl, n, hb, by rw [hnx]; rfl⟩, hb, hnx, hkey, fun c h => (by cases h), by simp, fun rest top h => h, fun _ => rfl, fun v => Iff.rfl⟩
    | some a =>
      have h2 : 2 ≤ n.l.length := by
        unfold nextP at hnx
        split at hnx
        · cases hnx
        · omega
      have hcm : sharedF n.l n.f ≤ commF n.key key := by
        unfold nextP at hnx
        rw [if_neg (by omega)] at hnx
        split at hnx
        · cases hnx
        · omega
      have hkid : n.kids.getD (nibF key (sharedF n.l n.f)) none = some a := by
        unfold nextP at hnx
        rw [if_neg (by omega), if_neg (by omega)] at hnx
        exact hnx
      obtain ⟨d, s, dig, hdl, hd, hcs⟩ := hn.cells
      rcases hcs with ⟨_, hlf⟩ | ⟨_, hbr⟩
      · obtain ⟨val, e, _⟩ := hlf.one
        rw [e] at h2; simp at h2
      · have hs := (hn.rise.good hn.l32).split h2 hn.f64 hn.agree
        have hge := sharedF_ge n.l n.f
        have h16 := nibF_lt key (sharedF n.l n.f)
        by_cases hne : subF n.l (sharedF n.l n.f) (nibF key (sharedF n.l n.f)) = []
        · have q := hbr.off _ h16 hne
          simp [List.getD, q] at hkid
        · obtain ⟨b', n', k1, k2, k3, k4⟩ := hbr.on _ h16 hne
          simp only [List.getD, k1, Option.getD_some, Option.some.injEq] at hkid
          subst hkid
          have hkey' : ∀ x ∈ n'.l, ∀ i, i < n'.f → nibF x.1 i = nibF key i := fun x hx i hi => by
            rw [k3] at hx
            obtain ⟨h1, h3⟩ := mem_subF.1 hx
            rw [k4] at hi
            by_cases e : i = sharedF n.l n.f
            · rw [e, h3]
            · rw [hbr.way x h1 i (by omega), commF_in (a := n.key) (b := key) (i := i) (by omega)]
          obtain ⟨br, lb, nl, p1, p2, p3, p4, p5, p6, p7, p8, p9⟩ := ih b' n' k2 (by omega) hkey'
          refine ⟨b :: br, lb, nl, ⟨rfl, n, hb, by rw [hnx]; exact p1⟩, p2, p3, p4, ?_, ?_, ?_, fun h => (by cases h), fun v => ?_⟩
          · intro c hc
            rcases List.mem_cons.1 hc with rfl | hc
            · exact ⟨n, hb, h2⟩
            · exact p5 c hc
          · rw [List.length_cons]; omega
          · intro rest top hch
            have h := p7 (b :: rest) top ⟨n, hb, h2, hcm, k3, k4, hch⟩
            rw [List.reverse_cons, List.append_assoc]
            exact h
          · rw [← p9 v, k3, mem_subF]
            exact ⟨fun h => ⟨h, rfl⟩, fun h => h.1⟩

theorem GOk.putF {key val : List UInt8} (hk : key.length = 32) (hv : val.length ≤ 1000) : GOk key (putF key val) where
  rise l h := h.put key val
  l32 l h := putF_32 hk h
  vals l h32 h x hx := by
    rcases (mem_putF hk h32 x).1 hx with rfl | ⟨h1, _⟩
    · exact hv
    · exact h x h1
  mem l h32 x hx := by
    rcases (mem_putF hk h32 x).1 hx with rfl | ⟨h1, _⟩
    · exact .inl rfl
    · exact .inr h1
  sub l t n hr h32 := subF_put hk hr h32 t n
  ne l _ _ := putF_ne key val l
theorem GOk.dropF {key : List UInt8} (hk : key.length = 32) : GOk key (dropF key) where
  rise l h := h.drop key
  l32 l h x hx := h x ((mem_dropF x).1 hx).1
  vals l h32 h x hx := h x ((mem_dropF x).1 hx).1
  mem l h32 x hx := .inr ((mem_dropF x).1 hx).1
  sub l t n hr h32 := by
    rw [subF_drop]
    split
    · rfl
    · rename_i h
      exact List.filter_eq_self.2 fun x hx => by
        have h2 := (mem_subF.1 hx).2
        simp only [decide_eq_true_eq, ne_eq, decide_not, Bool.not_eq_true', decide_eq_false_iff_not]
        intro e
        exact h (by rw [← e]; exact h2)
  ne l hr h2 := by
    match l, h2 with
    | x :: y :: r, _ =>
      have hxy : x.1 ≠ y.1 := lessF_ne ((List.pairwise_cons.1 hr).1 y List.mem_cons_self)
      intro e
      by_cases h : x.1 = key
      · have : y ∈ Go.Proofs.YtblgmnjegkfoaaaGreat.dropF key (x :: y :: r) := (mem_dropF y).2 ⟨by simp, fun q => hxy (by rw [h, q])⟩
        rw [e] at this; cases this
      · have : x ∈ Go.Proofs.YtblgmnjegkfoaaaGreat.dropF key (x :: y :: r) := (mem_dropF x).2 ⟨by simp, h⟩
        rw [e] at this; cases this

end Go.Proofs.YtblgmnjegkfoaaaGreat

namespace Go.Proofs.YtblgmnjegkfoaaaGreat
open Go.RowKit
set_option linter.unusedVariables false
set_option linter.unusedSimpArgs false

set_option maxHeartbeats 2000000 in
set_option maxRecDepth 100000 in
theorem bclone_any (B : Nat) (A : Option Addr) (c : Nat) (l : List UInt8) (w : World) (hA : Bs w B A l) (hlim : l.length ≤ 140737488355328) :
    Calls Tryz.prog 37 #[.slice A l.length c] w fun e w' => ∃ v', e = .returned v' ∧ Owns w' w.heap.size 5 v' l ∧ Below w.heap.size w w' := by
  obtain ⟨i0, hi, hz0, hz1, hz2⟩ := info_parts byteInfo
  have q22 : ∀ (w : World) (a : Option Addr) (n c n' c' : Nat), (binOp .eql 38 (.slice a n c) (.slice none n' c')).run Tryz.prog w = .ok (.bool a.isNone) w := fun w a n c n' c' => Lib.run_eql_slice_nil w _ _ a n c n' c' Tryz.underlying38
  rcases A with _ | ⟨b, off, spot⟩
  · have hl0 : l.length = 0 := by
      rcases Nat.eq_zero_or_pos l.length with e | e
      · exact e
      · obtain ⟨_, _, e, _⟩ := hA e; cases e
    obtain rfl : l = [] := List.eq_nil_of_length_eq_zero hl0
    clear hl0
    go_enter Tryz.func37, Tryz.ntmps37
    go_wp2
    go_ret
    exact ⟨_, rfl, Owns.nil _ _ _, Below.refl _ _⟩
  · have hcells : ∀ j v, (Lib.byteCells l)[j]? = some v → w.cell? ((⟨b, off, spot⟩ : Addr).add j) = some v := by
      intro j v hj
      have hp : 0 < (Lib.byteCells l).length := by have := (List.getElem?_eq_some_iff.1 hj).1; omega
      obtain ⟨ad, e, hc⟩ := hA.cells hp
      injection e with e
      subst e
      exact hc j v hj
    have hcl : (Lib.byteCells l).length = l.length * 1 := by simp [Lib.byteCells]
    have h1 := byteCells_one l
    have Hc := Lib.hid hcells
    have Hl := Lib.hid hcl
    have H1 := Lib.hid h1
    clear hcells hcl h1
    go_enter Tryz.func37, Tryz.ntmps37
    go_wp2_with (at_builtin; refine wpList_append_own_at _ rfl _ _ 38 rfl w.heap.size 5 i0 (.int .u8 0) 1 1 Tryz.underlying38 hi hz0 hz1 hz2 rfl (by decide) _ 0 [] rfl ?c0 ⟨b, off, spot⟩ l.length c (Lib.byteCells l) rfl Hl.out ?c1 H1.out ?c3 ?c4 ?c5 ?_)
    case c0 => exact ⟨by simp, .inr ⟨w.heap.size, 0, #[], rfl, Nat.le_refl _, heap_alloc_new w _, Nat.le_refl _, by unfold maxLen; omega, by simp, by simp⟩⟩
    case c1 =>
      intro j v hj
      have hc := Hc.out j v hj
      rw [World.cell?_alloc_lt w _ _ (World.block_lt_of_cell? w _ hc)]
      exact hc
    case c3 => unfold maxLen; omega
    case c4 => omega
    case c5 => simp
    intro v' w1 hown' hgrow _ hplace
    go_wp2
    go_ret
    refine ⟨v', rfl, ?_, ((Below.refl _ _).alloc (Nat.le_refl _) _).grown hgrow (by simp) (fun k hk => by simp [Value.ownBlock] at hk; omega)⟩
    simpa [Owns] using hown'


/-- What the root stands for. -/
def RootAt (M : Wood) (p : Option Addr) (l : List It) : Prop := (l = [] ∧ p = none) ∨ ∃ b n, p = some ⟨b, 0, none⟩ ∧ M b = some n ∧ n.l = l ∧ n.f = 0
def encL (bs : List Nat) : List Value := bs.map fun b => .pointer (some ⟨b, 0, none⟩)
/-- The key in a box of its own, as way and all others read it. -/
theorem collect_all (a : Nat) (p0 : Option Addr) (M : Wood) (key : List UInt8) (KL : List Value) (hKL : KL = Lib.byteCells key) (hk : key.length = 32) (bs : List Nat) (hlen : bs.length ≤ 100) (w : World) (hS : Stand M w) (hroot : Arr w a 62 [.pointer p0]) (hway : IsWay M key p0 bs) (w2 : World) (hb : Below w.heap.size w w2)
    (Bt Bk : Nat) (hBt : w2.cell? ⟨Bt, 0, none⟩ = some (.pointer (some ⟨a, 0, none⟩))) (hBk : Arr w2 Bk 24 KL) :
    Calls Tryz.prog 39 #[.func (.func 53) #[] #[.pointer (some ⟨Bt, 0, none⟩), .pointer (some ⟨Bk, 0, none⟩)]] w2 fun e W' => ∃ v, e = .returned v ∧ W'.ownsRow w2.heap.size 60 1 v bs.length (encL bs) ∧ (v = .slice none 0 0 ↔ bs = []) ∧ Below w2.heap.size w2 W' := by
  have hr2 : Arr w2 a 62 [.pointer p0] := hroot.below hb hroot.lt
  exact collect_way Bt Bk a p0 M key KL hKL hk bs hlen w2 hBt (cell_ltC hBt) (hr2.cell 0) hr2.lt ⟨hS.up hb, hBk⟩ hway

theorem row_cells {W : World} {base : Nat} {T : TypeId} {v : Value} {n : Nat} {xs : List Value} (h : W.ownsRow base T 1 v n xs) (hn : 0 < n) (hl : xs.length = n) : ∃ g cap, v = .slice (some ⟨g, 0, none⟩) n cap ∧ n ≤ cap ∧ cap ≤ maxLen ∧ base ≤ g ∧ g < W.heap.size ∧ ∀ i x, xs[i]? = some x → W.cell? ⟨g, i, none⟩ = some x := by
  rcases h.2 with ⟨_, h0⟩ | ⟨g, cap, cur, rfl, hbg, hg, hle, hm, hsz, htk⟩
  · omega
  · refine ⟨g, cap, rfl, hle, hm, hbg, (Array.getElem?_eq_some_iff.1 hg).1, fun i x hi => ?_⟩
    rw [← htk] at hi
    have hi2 := (List.getElem?_eq_some_iff.1 hi).1
    rw [List.length_take] at hi2
    rw [List.getElem?_take_of_lt (by omega)] at hi
    have : W.cell? ⟨g, i, none⟩ = cur[i]? := by simp [World.cell?, hg]
    rw [this, ← Array.getElem?_toList]
    exact hi

set_option maxHeartbeats 4000000 in
set_option maxRecDepth 100000 in
theorem tput_none (a : Nat) (M : Wood) (key val : List UInt8) (KL : List Value) (hKL : KL = Lib.byteCells key) (hk : key.length = 32) (B : Nat) (A : Option Addr) (n c : Nat) (w : World) (hS : Stand M w) (hsep : M.Sep) (hroot : Arr w a 62 [.pointer none]) (hv : Bs w B A val) (hn : val.length = n) (hs : val.length ≤ 1000) :
    Calls Tryz.prog 21 #[.pointer (some ⟨a, 0, none⟩), .agg KL.toArray, .slice A n c] w fun e w' => e = .returned (.tuple #[]) ∧ ∃ p M1, (M.le M1 ∧ M.Up M1 w.heap.size) ∧ Stand M1 w' ∧ M1.Sep ∧ Arr w' a 62 [.pointer p] ∧ RootAt M1 p (putF key val []) ∧ Only (fun k => k = a) w w' := by
  subst hn
  obtain ⟨W1, hW1⟩ : ∃ W1, W1 = w.alloc (.cells KL.toArray 24) := ⟨_, rfl⟩
  have hb1 : Below w.heap.size w W1 := by rw [hW1]; exact (Below.refl _ w).alloc (Nat.le_refl _) _
  have hk1 : Arr W1 w.heap.size 24 KL := by rw [hW1]; exact Arr.new w _ _
  have Hki := Lib.hid (show (Tryz.prog.info? 24).map (·.size) = some KL.toArray.size by rw [hKL, dig_size hk]; kernel_rfl)
  have HW1 := Lib.hid hW1
  have HKL := Lib.hid hKL
  clear hW1 hKL
  go_enter Tryz.func21, Tryz.ntmps21
  go_upto_region 1 with fail
  change Code.wp _ _ _ _ (w.alloc (.cells KL.toArray 24))
  rw [← HW1.out]
  clear HW1
  go_wp2_with fail
  go_at_call 37
  have hv1 : Bs W1 W1.heap.size A val := fun hp => by
    obtain ⟨blk, off, e, _, hc⟩ := hv hp
    have hl : blk < w.heap.size := by have := cell_ltC (hc 0 hp); exact this
    exact ⟨blk, off, e, Nat.lt_of_lt_of_le hl hb1.size, fun j hj => by rw [← hc j hj]; exact World.cell?_of_block (hb1.block blk hl)⟩
  refine Calls.mono (bclone_any W1.heap.size A c val W1 hv1 (by omega)) ?_
  rintro e w2 ⟨v2, rfl, hown2, hb2⟩
  have hB2 : Below w.heap.size w w2 := hb1.trans (hb2.mono hb1.size)
  have hk2 := hk1.below hb2 hk1.lt
  have hlo2 := hown2.lt
  obtain ⟨A2, c2, rfl, h21, h22, h23⟩ := hown2.slice
  have hX2 : w2.heap[w.heap.size]? = some (.cells KL.toArray 24 (0, 0)) := hk2
  have hz1 := hb1.size
  clear hb2 hk1 hv1
  dsimp only
  go_wp2_with (refine wpList_load_row rfl _ _ rfl w.heap.size rfl 24 KL.toArray (0, 0) _ hX2 Tryz.underlying24 rfl Hki.out ?_)
  go_at_call 30
  refine Calls.mono (way_run a KL w2) ?_
  rintro e w3 ⟨rfl, hBt, hBk, hb3⟩
  have hB3 : Below w.heap.size w w3 := hB2.trans (hb3.mono hB2.size)
  have hk3 := hk2.below hb3 hk2.lt
  have h33 : Bs w3 w3.heap.size A2 val := (h23.below hb3 (Nat.le_refl _)).more hb3.size
  clear hb3 hk2 h23 hX2
  dsimp only
  go_wp2_with fail
  go_at_call 39
  refine Calls.mono (collect_all a none M key KL HKL.out hk [] (by simp) w hS hroot rfl w3 hB3 _ _ hBt hBk) ?_
  rintro e w4 ⟨v4, rfl, _, hnil, hb4⟩
  obtain rfl : v4 = .slice none 0 0 := hnil.2 rfl
  have hB4 : Below w.heap.size w w4 := hB3.trans (hb4.mono hB3.size)
  have hk4 := hk3.below hb4 hk3.lt
  have h43 : Bs w4 w4.heap.size A2 val := (h33.below hb4 (Nat.le_refl _)).more hb4.size
  have hX4 : w4.heap[w.heap.size]? = some (.cells KL.toArray 24 (0, 0)) := hk4
  clear hb4 hk3 h33 hBt hBk hnil
  dsimp only
  go_wp2_with (refine wpList_load_row rfl _ _ rfl w.heap.size rfl 24 KL.toArray (0, 0) _ hX4 Tryz.underlying24 rfl Hki.out ?_)
  go_at_call 40
  refine Calls.mono (leaf_run key KL HKL.out hk 0 A2 val.length c2 _ rfl w4) ?_
  rintro e w5 ⟨g, hg, rfl, hN5, hb5⟩
  have hS4 : Stand M w4 := hS.up hB4
  have hB5 : Below w.heap.size w w5 := hB4.trans (hb5.mono hB4.size)
  have hS5 : Stand M w5 := hS4.up hb5
  have f0 := hS4.fresh hg
  have hvn : ValNew M w4 A2 val.length c2 val := ⟨rfl, h21, h22, hs, h43, fun ad e hp => by
    refine hS.fresh (Nat.le_trans hz1 ?_)
    exact (hlo2 ad.block (by rw [e]; rfl)).1⟩
  obtain ⟨mL, hmL⟩ : ∃ m : Nd, m = ⟨[(key, val)], 0, key, A2, val.length, c2, g, []⟩ := ⟨_, rfl⟩
  have nL : NdAt M w5 g mL := by
    rw [hmL]
    exact NdAt.leaf M hk (by omega) rfl h21 h22 hs (hvn.newBs hb5) hN5
  have hS6 : Stand (M.set g mL) w5 := hS5.add f0 nL
  have hsep6 : (M.set g mL).Sep := hsep.set hS4 hg (fun _ ad ha hl => by rw [hmL] at ha hl; exact hvn.at ad ha hl)
  have haW : Arr w5 a 62 [.pointer none] := hroot.below hB5 hroot.lt
  have hca : w5.cell? ⟨a, 0, none⟩ = some (.pointer none) := haW.cell 0
  have hfa := haW.frozen 0
  have ho : Only (fun k => k = a) w5 (w5.setCell ⟨a, 0, none⟩ (.pointer (some ⟨g, 0, none⟩))) := (Only.refl (fun k => k = a) w5).setCell (p := ⟨a, 0, none⟩) (.inl rfl) _
  have hS7 : Stand (M.set g mL) (w5.setCell ⟨a, 0, none⟩ (.pointer (some ⟨g, 0, none⟩))) := fun b n hb => (hS6 b n hb).offOne haW (by decide) (by decide) ho
  have haW2 : Arr (w5.setCell ⟨a, 0, none⟩ (.pointer (some ⟨g, 0, none⟩))) a 62 [.pointer (some ⟨g, 0, none⟩)] := haW.set 0 _
  have hO : Only (fun k => k = a) w (w5.setCell ⟨a, 0, none⟩ (.pointer (some ⟨g, 0, none⟩))) := (Only.of_below hB5).then ho (fun k hk => .inl hk)
  have Hfin := Lib.hid (show ∃ p M1, (M.le M1 ∧ M.Up M1 w.heap.size) ∧ Stand M1 (w5.setCell ⟨a, 0, none⟩ (.pointer (some ⟨g, 0, none⟩))) ∧ M1.Sep ∧ Arr (w5.setCell ⟨a, 0, none⟩ (.pointer (some ⟨g, 0, none⟩))) a 62 [.pointer p] ∧ RootAt M1 p (putF key val []) ∧ Only (fun k => k = a) w (w5.setCell ⟨a, 0, none⟩ (.pointer (some ⟨g, 0, none⟩))) from
    ⟨_, _, ⟨Wood.set_le mL f0, Wood.up_set (Wood.up_refl M _) (Nat.le_trans hB4.size hg) (fun _ ad ha hp => .inr (Nat.le_trans hz1 (hlo2 ad.block (by rw [show A2 = some ad by rw [hmL] at ha; exact ha]; rfl)).1))⟩, hS7, hsep6, haW2, .inr ⟨g, mL, rfl, Wood.set_at _ _ _, by rw [hmL]; rfl, by rw [hmL]⟩, hO⟩)
  clear hvn nL hS6 hsep6 hS7 haW2 hO ho hmL hX4 h43
  dsimp only
  go_wp2_with fail
  refine bodyPost_ret (results_none rfl _ _ _) rfl ?_
  exact ⟨rfl, Hfin.out⟩

set_option maxHeartbeats 4000000 in
set_option maxRecDepth 100000 in
theorem tput_some (a b : Nat) (M : Wood) (nd : Nd) (hb : M b = some nd) (hf : nd.f = 0) (key val : List UInt8) (KL : List Value) (hKL : KL = Lib.byteCells key) (hk : key.length = 32) (B : Nat) (A : Option Addr) (n c : Nat) (w : World) (hS : Stand M w) (hsep : M.Sep) (hroot : Arr w a 62 [.pointer (some ⟨b, 0, none⟩)]) (hv : Bs w B A val) (hn : val.length = n) (hs : val.length ≤ 1000) :
    Calls Tryz.prog 21 #[.pointer (some ⟨a, 0, none⟩), .agg KL.toArray, .slice A n c] w fun e w' => e = .returned (.tuple #[]) ∧ ∃ p M1, (M.le M1 ∧ M.Up M1 w.heap.size) ∧ Stand M1 w' ∧ M1.Sep ∧ Arr w' a 62 [.pointer p] ∧ RootAt M1 p (putF key val nd.l) ∧ Only (fun k => k = a) w w' := by
  subst hn
  obtain ⟨br, lb, nl, p1, p2, p3, p4, p5, p6, p7, _, _⟩ := way_ex M w hS key hk 65 b nd hb (by omega) (fun x hx i hi => absurd hi (by omega))
  have hch : Chain M key br.reverse nl nd := by simpa using p7 [] nd rfl
  have Hkm := Lib.hid (show (Tryz.prog.info? 24).map (·.size) = some KL.length by rw [hKL, Lib.byteCells_length, hk]; kernel_rfl)
  obtain ⟨k, hk'⟩ : ∃ k, br.length = k := ⟨_, rfl⟩
  have hkl : (br ++ [lb]).length = k + 1 := by simp [hk']
  obtain ⟨W1, hW1⟩ : ∃ W1, W1 = w.alloc (.cells KL.toArray 24) := ⟨_, rfl⟩
  have hb1 : Below w.heap.size w W1 := by rw [hW1]; exact (Below.refl _ w).alloc (Nat.le_refl _) _
  have hk1 : Arr W1 w.heap.size 24 KL := by rw [hW1]; exact Arr.new w _ _
  have Hki := Lib.hid (show (Tryz.prog.info? 24).map (·.size) = some KL.toArray.size by rw [hKL, dig_size hk]; kernel_rfl)
  have HW1 := Lib.hid hW1
  have HKL := Lib.hid hKL
  clear hW1 hKL
  go_enter Tryz.func21, Tryz.ntmps21
  go_upto_region 1 with fail
  change Code.wp _ _ _ _ (w.alloc (.cells KL.toArray 24))
  rw [← HW1.out]
  clear HW1
  go_wp2_with fail
  go_at_call 37
  have hv1 : Bs W1 W1.heap.size A val := fun hp => by
    obtain ⟨blk, off, e, _, hc⟩ := hv hp
    have hl : blk < w.heap.size := by have := cell_ltC (hc 0 hp); exact this
    exact ⟨blk, off, e, Nat.lt_of_lt_of_le hl hb1.size, fun j hj => by rw [← hc j hj]; exact World.cell?_of_block (hb1.block blk hl)⟩
  refine Calls.mono (bclone_any W1.heap.size A c val W1 hv1 (by omega)) ?_
  rintro e w2 ⟨v2, rfl, hown2, hb2⟩
  have hB2 : Below w.heap.size w w2 := hb1.trans (hb2.mono hb1.size)
  have hk2 := hk1.below hb2 hk1.lt
  have hlo2 := hown2.lt
  obtain ⟨A2, c2, rfl, h21, h22, h23⟩ := hown2.slice
  have hX2 : w2.heap[w.heap.size]? = some (.cells KL.toArray 24 (0, 0)) := hk2
  have hz1 := hb1.size
  clear hb2 hk1 hv1
  dsimp only
  go_wp2_with (refine wpList_load_row rfl _ _ rfl w.heap.size rfl 24 KL.toArray (0, 0) _ hX2 Tryz.underlying24 rfl Hki.out ?_)
  go_at_call 30
  refine Calls.mono (way_run a KL w2) ?_
  rintro e w3 ⟨rfl, hBt, hBk, hb3⟩
  have hB3 : Below w.heap.size w w3 := hB2.trans (hb3.mono hB2.size)
  have hk3 := hk2.below hb3 hk2.lt
  have h33 : Bs w3 w3.heap.size A2 val := (h23.below hb3 (Nat.le_refl _)).more hb3.size
  clear hb3 hk2 h23 hX2
  dsimp only
  go_wp2_with fail
  go_at_call 39
  refine Calls.mono (collect_all a _ M key KL HKL.out hk (br ++ [lb]) (by rw [hkl]; omega) w hS hroot p1 w3 hB3 _ _ hBt hBk) ?_
  rintro e w4 ⟨v4, rfl, hrow4, _, hb4⟩
  obtain ⟨g4, cap, rfl, hc1, hc2, hgb, hgl, hcells⟩ := row_cells hrow4 (by rw [hkl]; omega) (by simp [encL])
  rw [hkl] at hc1 ⊢
  have hB4 : Below w.heap.size w w4 := hB3.trans (hb4.mono hB3.size)
  have hk4 := hk3.below hb4 hk3.lt
  have h43 : Bs w4 w4.heap.size A2 val := (h33.below hb4 (Nat.le_refl _)).more hb4.size
  have hlast : w4.cell? ⟨g4, k, none⟩ = some (.pointer (some ⟨lb, 0, none⟩)) := hcells k _ (by simp [encL, ← hk'])
  have hbr4 : ∀ i c, br[i]? = some c → w4.cell? ⟨g4, i, none⟩ = some (.pointer (some ⟨c, 0, none⟩)) := fun i c hi => hcells i _ (by
    have := (List.getElem?_eq_some_iff.1 hi).1
    unfold encL
    rw [List.getElem?_map, List.getElem?_append_left (by omega), hi]; rfl)
  have hd1 : decide (((k : Int) + 1) = 0) = false := decide_eq_false (by omega)
  have hd1n : decide (k + 1 = 0) = false := by simp
  have hw1 : IntKind.i64.wrap ((k : Int) + 1 - 1) = (k : Int) := by rw [IntWalk.i64_in _ (by omega)]; omega
  have Hbr4 := Lib.hid hbr4
  have Hhk := Lib.hid hk'
  have hk64 : k ≤ 64 := by omega
  clear hb4 hk3 h33 hBt hBk hrow4 hcells hbr4 hk' hkl
  dsimp only
  go_upto_region 6 with fail
  have hck : ¬ cap < k := by omega
  have hki : ¬ ((k : Int) + 1 ≤ (k : Int)) := by omega
  refine wp_region_held_drew (S := fun w' => Arr w' w.heap.size 24 KL ∧ w'.cell? ⟨g4, k, none⟩ = some (.pointer (some ⟨lb, 0, none⟩))) (by kernel_rfl) ⟨hk4.drewN 1, hlast⟩ (fun hHeld => ?_)
  refine anyH_take (i := 0) (v := .pointer (some ⟨a, 0, none⟩)) (some 26) rfl rfl (by kernel_rfl) (by kernel_rfl) (by kernel_rfl) (fun _ _ _ h => h) (Or.inl ⟨by rfl, fun w' hw => by rfl⟩) (by assumption) ?_
  simp only [Act.put, List.setIfInBounds_toArray, List.set_cons_zero, List.set_cons_succ]
  refine anyH_take (i := 1) (some 27) rfl rfl (by kernel_rfl) (by kernel_rfl) (by kernel_rfl) (fun _ _ _ h => h) (yieldsIf_load_mid (by rfl) 24 (.tmp 4) rfl w.heap.size 0 rfl KL _ (fun w' h => h.1.range) Tryz.underlying24 rfl Hkm.out) (by assumption) ?_
  simp only [Act.put, List.setIfInBounds_toArray, List.set_cons_zero, List.set_cons_succ]
  refine anyH_take (i := 2) (v := .slice (some ⟨g4, 0, none⟩) (k + 1) cap) (some 28) rfl rfl (by kernel_rfl) (by kernel_rfl) (by kernel_rfl) (fun _ _ _ h => h) (Or.inl ⟨by rfl, fun w' hw => by rfl⟩) (by assumption) ?_
  simp only [Act.put, List.setIfInBounds_toArray, List.set_cons_zero, List.set_cons_succ]
  refine anyH_take (i := 3) (v := .int .i64 (k : Nat)) (some 29) rfl rfl (by kernel_rfl) (by kernel_rfl) (by kernel_rfl) (fun _ _ _ h => h) (Or.inl ⟨by rfl, fun w' hw => by rfl⟩) (by assumption) ?_
  simp only [Act.put, List.setIfInBounds_toArray, List.set_cons_zero, List.set_cons_succ]
  refine anyH_take (i := 4) (v := .slice (some ⟨g4, 0, none⟩) k cap) (some 30) rfl rfl (by kernel_rfl) (by kernel_rfl) (by kernel_rfl) (fun _ _ _ h => h) (Or.inl ⟨by rfl, fun w' hw => by go_simp⟩) (by assumption) ?_
  simp only [Act.put, List.setIfInBounds_toArray, List.set_cons_zero, List.set_cons_succ]
  refine anyH_take (i := 5) (v := .slice (some ⟨g4, 0, none⟩) (k + 1) cap) (some 31) rfl rfl (by kernel_rfl) (by kernel_rfl) (by kernel_rfl) (fun _ _ _ h => h) (Or.inl ⟨by rfl, fun w' hw => by rfl⟩) (by assumption) ?_
  simp only [Act.put, List.setIfInBounds_toArray, List.set_cons_zero, List.set_cons_succ]
  refine anyH_take (i := 6) (v := .int .i64 (k : Nat)) (some 32) rfl rfl (by kernel_rfl) (by kernel_rfl) (by kernel_rfl) (fun _ _ _ h => h) (Or.inl ⟨by rfl, fun w' hw => by rfl⟩) (by assumption) ?_
  simp only [Act.put, List.setIfInBounds_toArray, List.set_cons_zero, List.set_cons_succ]
  refine anyH_take (i := 7) (v := .pointer (some ⟨g4, k, none⟩)) (some 33) rfl rfl (by kernel_rfl) (by kernel_rfl) (by kernel_rfl) (fun _ _ _ h => h) (Or.inl ⟨by rfl, fun w' hw => by go_simp⟩) (by assumption) ?_
  simp only [Act.put, List.setIfInBounds_toArray, List.set_cons_zero, List.set_cons_succ]
  refine anyH_take (i := 8) (v := .pointer (some ⟨lb, 0, none⟩)) (some 34) rfl rfl (by kernel_rfl) (by kernel_rfl) (by kernel_rfl) (fun _ _ _ h => h) (Or.inl ⟨by rfl, fun w' hw => by (have hl := hw.2; go_simp)⟩) (by assumption) ?_
  simp only [Act.put, List.setIfInBounds_toArray, List.set_cons_zero, List.set_cons_succ]
  refine anyH_take (i := 9) (some 35) rfl rfl (by kernel_rfl) (by kernel_rfl) (by kernel_rfl) (fun _ _ _ h => h) (yieldsIf_load_mid (by rfl) 24 (.tmp 4) rfl w.heap.size 0 rfl KL _ (fun w' h => h.1.range) Tryz.underlying24 rfl Hkm.out) (by assumption) ?_
  simp only [Act.put, List.setIfInBounds_toArray, List.set_cons_zero, List.set_cons_succ]
  refine anyH_take (i := 10) (v := .slice A2 val.length c2) (some 36) rfl rfl (by kernel_rfl) (by kernel_rfl) (by kernel_rfl) (fun _ _ _ h => h) (Or.inl ⟨by rfl, fun w' hw => by rfl⟩) (by assumption) ?_
  simp only [Act.put, List.setIfInBounds_toArray, List.set_cons_zero, List.set_cons_succ]
  refine wpAnyH_ready (rs := [11]) (by kernel_rfl) (by simp) ?_
  refine AllReadyH.cons rfl (fun K hK => ?_) AllReadyH.nil
  go_simp
  go_at_call 42
  have hS4 : Stand M w4.drew := hS.up (Below.dN hB4 1)
  have hvn : ValNew M w4.drew A2 val.length c2 val := ⟨rfl, h21, h22, hs, h43, fun ad e hp => by
    refine hS.fresh (Nat.le_trans hz1 ?_)
    exact (hlo2 ad.block (by rw [e]; rfl)).1⟩
  refine Calls.mono (with_wood M lb nl p2 key val KL HKL.out hk A2 val.length c2 _ hvn hS4 hsep p4 p3 w.heap.size hB4.size (fun ad e _ => Nat.le_trans hz1 (hlo2 ad.block (by rw [e]; rfl)).1)) ?_
  rintro e w5 ⟨g2, m, M2, rfl, m1, m2, m3, m4, m5, m6, m7, hb5⟩
  have hk5 : Arr w5 w.heap.size 24 KL := Arr.below (w := w4.drew) (hk4.drewN 1) hb5 hk4.lt
  have hl5 : w5.cell? ⟨g4, k, none⟩ = some (.pointer (some ⟨lb, 0, none⟩)) := (hb5.cell (p := ⟨g4, k, none⟩) hgl).trans hlast
  refine hK.out _ _ ⟨hk5, hl5⟩ (fun hHeldx => ?_)
  clear hK K
  try simp only [Act.put, List.setIfInBounds_toArray, List.set_cons_zero, List.set_cons_succ]
  refine wpAnyH_ready (rs := [12]) (by kernel_rfl) (by simp) ?_
  refine AllReadyH.cons rfl (fun K hK => ?_) AllReadyH.nil
  go_simp
  go_at_call 41
  have hB5 : Below w.heap.size w w5 := (Below.dN hB4 1).trans (hb5.mono hB4.size)
  have hS5 : Stand M w5 := hS.up hB5
  have hgl5 : g4 < w5.heap.size := Nat.lt_of_lt_of_le hgl hb5.size
  have haw : a < w.heap.size := hroot.lt
  have hge := hB3.size
  have hchg := callsIn_wide.1 (change_in a (some ⟨b, 0, none⟩) M key KL HKL.out hk (putF key val) (GOk.putF hk hs) br (by have := Hhk.out; omega) p5 nd (some ⟨g4, 0, none⟩) cap (by have := Hhk.out; omega) (some ⟨g2, 0, none⟩) nl M2 w5 m1 w.heap.size hB5.size m7 m5 m6 (.inr ⟨putF_ne key val nl.l, g2, m, rfl, m2, m3, m4⟩) hch hS5 (.inr ⟨g2, rfl, (m5 g2 m m2).shape⟩)
    (fun i c hi => ⟨g4, 0, rfl, hgl5, by rw [Nat.zero_add]; exact (hb5.cell (p := ⟨g4, i, none⟩) hgl).trans (Hbr4.out i c hi)⟩) (hroot.below hB5 hroot.lt))
  rw [Hhk.out] at hchg
  refine Calls.mono hchg ?_
  rintro e w6 ⟨rfl, q, M1, n1, n2, n3, n4, n5, n6⟩
  have hk6 : Arr w6 w.heap.size 24 KL := hk5.only n6 (by omega)
  have hl6 : w6.cell? ⟨g4, k, none⟩ = some (.pointer (some ⟨lb, 0, none⟩)) := by rw [← hl5]; exact World.cell?_of_block (n6.block g4 hgl5 (by omega))
  refine hK.out _ _ ⟨hk6, hl6⟩ (fun hHeldx2 => ?_)
  clear hK K hchg
  try simp only [Act.put, List.setIfInBounds_toArray, List.set_cons_zero, List.set_cons_succ]
  refine wpAnyH_done (by kernel_rfl) ?_ _
  clear hHeld hHeldx hHeldx2
  go_wp2_with fail
  go_end0
  refine ⟨rfl, q, M1, n1, n2, n3, n5, ?_, (Only.of_below hB5).then n6 (fun k hk => .inl hk)⟩
  rcases n4 with ⟨h, _⟩ | ⟨_, cc, mm, r1, r2, r3, r4⟩
  · exact absurd h (putF_ne key val nd.l)
  · exact .inr ⟨cc, mm, r1, r2, r3, by rw [r4, hf]⟩

/-- Put of a trie: what stands then is its items with the key's value. -/
theorem tput_run (a : Nat) (p0 : Option Addr) (M : Wood) (l : List It) (hat : RootAt M p0 l) (key val : List UInt8) (KL : List Value) (hKL : KL = Lib.byteCells key) (hk : key.length = 32) (B : Nat) (A : Option Addr) (n c : Nat) (w : World) (hS : Stand M w) (hsep : M.Sep) (hroot : Arr w a 62 [.pointer p0]) (hv : Bs w B A val) (hn : val.length = n) (hs : val.length ≤ 1000) :
    Calls Tryz.prog 21 #[.pointer (some ⟨a, 0, none⟩), .agg KL.toArray, .slice A n c] w fun e w' => e = .returned (.tuple #[]) ∧ ∃ p M1, (M.le M1 ∧ M.Up M1 w.heap.size) ∧ Stand M1 w' ∧ M1.Sep ∧ Arr w' a 62 [.pointer p] ∧ RootAt M1 p (putF key val l) ∧ Only (fun k => k = a) w w' := by
  rcases hat with ⟨rfl, rfl⟩ | ⟨b, nd, rfl, hb, rfl, hf⟩
  · exact tput_none a M key val KL hKL hk B A n c w hS hsep hroot hv hn hs
  · exact tput_some a b M nd hb hf key val KL hKL hk B A n c w hS hsep hroot hv hn hs

end Go.Proofs.YtblgmnjegkfoaaaGreat

namespace Go.Proofs.YtblgmnjegkfoaaaGreat
open Go.RowKit
set_option linter.unusedVariables false
set_option linter.unusedSimpArgs false

/-- Is a key there? -/
def hasF (l : List It) (key : List UInt8) : Bool := l.any fun x => decide (x.1 = key)
theorem dropF_none {l : List It} {key : List UInt8} (h : hasF l key = false) : dropF key l = l := by
  unfold hasF at h
  refine List.filter_eq_self.2 fun x hx => ?_
  have := (List.any_eq_false.1 h) x hx
  simpa using this
/-- A branch behind which there is no way on has no such key. -/
theorem nokey_branch {M : Wood} {w : World} {b : Nat} {n : Nd} {key : List UInt8} (hn : NdAt M w b n) (hr : BranchAt M w b n) (hnx : nextP n key = none) : hasF n.l key = false := by
  cases h : hasF n.l key with
  | false => rfl
  | true =>
    exfalso
    unfold hasF at h
    obtain ⟨x, hx, hxk⟩ := List.any_eq_true.1 h
    have hxk : x.1 = key := by simpa using hxk
    have h2 := hr.two
    have hs := (hn.rise.good hn.l32).split h2 hn.f64 hn.agree
    have hc : ¬ commF n.key key < sharedF n.l n.f := fun q => commF_end (a := n.key) (b := key) (by omega) (by rw [← hxk]; exact (hr.way x hx _ (by rw [hxk]; exact q)).symm)
    unfold nextP at hnx
    rw [if_neg (by omega), if_neg hc] at hnx
    have hsub : subF n.l (sharedF n.l n.f) (nibF key (sharedF n.l n.f)) ≠ [] := List.ne_nil_of_mem (mem_subF.2 ⟨hx, by rw [hxk]⟩)
    obtain ⟨b', n', q, _⟩ := hr.on _ (nibF_lt _ _) hsub
    simp [List.getD, q] at hnx
theorem nokey_leaf {l : List It} {k key v : List UInt8} (hl : l = [(k, v)]) : hasF l key = decide (k = key) := by rw [hl]; simp [hasF]

set_option maxHeartbeats 4000000 in
set_option maxRecDepth 100000 in
theorem tdrop_none (a : Nat) (M : Wood) (key : List UInt8) (KL : List Value) (hKL : KL = Lib.byteCells key) (hk : key.length = 32) (w : World) (hS : Stand M w) (hroot : Arr w a 62 [.pointer none]) :
    Calls Tryz.prog 22 #[.pointer (some ⟨a, 0, none⟩), .agg KL.toArray] w fun e w' => e = .returned (.bool false) ∧ Below w.heap.size w w' := by
  obtain ⟨W1, hW1⟩ : ∃ W1, W1 = w.alloc (.cells KL.toArray 24) := ⟨_, rfl⟩
  have hb1 : Below w.heap.size w W1 := by rw [hW1]; exact (Below.refl _ w).alloc (Nat.le_refl _) _
  have hk1 : Arr W1 w.heap.size 24 KL := by rw [hW1]; exact Arr.new w _ _
  have Hki := Lib.hid (show (Tryz.prog.info? 24).map (·.size) = some KL.toArray.size by rw [hKL, dig_size hk]; kernel_rfl)
  have hX1 : W1.heap[w.heap.size]? = some (.cells KL.toArray 24 (0, 0)) := hk1
  have HW1 := Lib.hid hW1
  have HKL := Lib.hid hKL
  clear hW1 hKL
  go_enter Tryz.func22, Tryz.ntmps22
  go_upto_region 1 with fail
  change Code.wp _ _ _ _ (w.alloc (.cells KL.toArray 24))
  rw [← HW1.out]
  clear HW1
  go_wp2_with (refine wpList_load_row rfl _ _ rfl w.heap.size rfl 24 KL.toArray (0, 0) _ hX1 Tryz.underlying24 rfl Hki.out ?_)
  go_at_call 30
  refine Calls.mono (way_run a KL W1) ?_
  rintro e w3 ⟨rfl, hBt, hBk, hb3⟩
  have hB3 : Below w.heap.size w w3 := hb1.trans (hb3.mono hb1.size)
  have hk3 := hk1.below hb3 hk1.lt
  clear hb3 hk1 hX1
  dsimp only
  go_wp2_with fail
  go_at_call 39
  refine Calls.mono (collect_all a none M key KL HKL.out hk [] (by simp) w hS hroot rfl w3 hB3 _ _ hBt hBk) ?_
  rintro e w4 ⟨v4, rfl, _, hnil, hb4⟩
  obtain rfl : v4 = .slice none 0 0 := hnil.2 rfl
  have hB4 : Below w.heap.size w w4 := hB3.trans (hb4.mono hB3.size)
  have hk4 := hk3.below hb4 hk3.lt
  clear hb4 hk3 hBt hBk hnil hroot
  dsimp only
  go_upto_region 3 with fail
  refine wp_region_held_drew (S := fun w' => Arr w' w.heap.size 24 KL) (by kernel_rfl) (hk4.drewN 1) (fun hHeld => ?_)
  refine anyH_take (i := 0) (v := .int .i64 (-1)) (some 14) rfl rfl (by kernel_rfl) (by kernel_rfl) (by kernel_rfl) (fun _ _ _ h => h) (Or.inl ⟨by rfl, fun w' hw => by rfl⟩) (by assumption) ?_
  simp only [Act.put, List.setIfInBounds_toArray, List.set_cons_zero, List.set_cons_succ]
  refine anyH_take (i := 1) (v := .bool true) (some 15) rfl rfl (by kernel_rfl) (by kernel_rfl) (by kernel_rfl) (fun _ _ _ h => h) (Or.inl ⟨by rfl, fun w' hw => by rfl⟩) (by assumption) ?_
  simp only [Act.put, List.setIfInBounds_toArray, List.set_cons_zero, List.set_cons_succ]
  refine anyH_take (i := 2) (v := .bool true) (some 16) rfl rfl (by kernel_rfl) (by kernel_rfl) (by kernel_rfl) (fun _ _ _ h => h) (Or.inl ⟨by rfl, fun w' hw => by rfl⟩) (by assumption) ?_
  simp only [Act.put, List.setIfInBounds_toArray, List.set_cons_zero, List.set_cons_succ]
  refine anyH_take (i := 3) (v := undef) (some 17) rfl rfl (by kernel_rfl) (by kernel_rfl) (by kernel_rfl) (fun _ _ _ h => h) (Or.inr ⟨by rfl, rfl⟩) (by assumption) ?_
  simp only [Act.put, List.setIfInBounds_toArray, List.set_cons_zero, List.set_cons_succ]
  refine anyH_take (i := 4) (v := undef) (some 18) rfl rfl (by kernel_rfl) (by kernel_rfl) (by kernel_rfl) (fun _ _ _ h => h) (Or.inr ⟨by rfl, rfl⟩) (by assumption) ?_
  simp only [Act.put, List.setIfInBounds_toArray, List.set_cons_zero, List.set_cons_succ]
  refine anyH_take (i := 5) (v := undef) (some 19) rfl rfl (by kernel_rfl) (by kernel_rfl) (by kernel_rfl) (fun _ _ _ h => h) (Or.inr ⟨by rfl, rfl⟩) (by assumption) ?_
  simp only [Act.put, List.setIfInBounds_toArray, List.set_cons_zero, List.set_cons_succ]
  refine anyH_take (i := 6) (v := undef) (some 20) rfl rfl (by kernel_rfl) (by kernel_rfl) (by kernel_rfl) (fun _ _ _ h => h) (Or.inr ⟨by rfl, rfl⟩) (by assumption) ?_
  simp only [Act.put, List.setIfInBounds_toArray, List.set_cons_zero, List.set_cons_succ]
  refine anyH_take (i := 7) (v := undef) (some 21) rfl rfl (by kernel_rfl) (by kernel_rfl) (by kernel_rfl) (fun _ _ _ h => h) (Or.inr ⟨by rfl, rfl⟩) (by assumption) ?_
  simp only [Act.put, List.setIfInBounds_toArray, List.set_cons_zero, List.set_cons_succ]
  refine anyH_take (i := 8) (v := undef) (some 22) rfl rfl (by kernel_rfl) (by kernel_rfl) (by kernel_rfl) (fun _ _ _ h => h) (Or.inr ⟨by rfl, rfl⟩) (by assumption) ?_
  simp only [Act.put, List.setIfInBounds_toArray, List.set_cons_zero, List.set_cons_succ]
  refine anyH_take (i := 9) (v := undef) (some 23) rfl rfl (by kernel_rfl) (by kernel_rfl) (by kernel_rfl) (fun _ _ _ h => h) (Or.inr ⟨by rfl, rfl⟩) (by assumption) ?_
  simp only [Act.put, List.setIfInBounds_toArray, List.set_cons_zero, List.set_cons_succ]
  refine anyH_take (i := 10) (v := .bool true) (some 24) rfl rfl (by kernel_rfl) (by kernel_rfl) (by kernel_rfl) (fun _ _ _ h => h) (Or.inl ⟨by rfl, fun w' hw => by rfl⟩) (by assumption) ?_
  simp only [Act.put, List.setIfInBounds_toArray, List.set_cons_zero, List.set_cons_succ]
  refine wpAnyH_done (by kernel_rfl) ?_ _
  clear hHeld
  go_wp2_with fail
  go_ret
  exact ⟨rfl, Below.dN hB4 1⟩

set_option maxHeartbeats 4000000 in
set_option maxRecDepth 100000 in
theorem tdrop_some (a b : Nat) (M : Wood) (nd : Nd) (hb : M b = some nd) (hf : nd.f = 0) (key : List UInt8) (KL : List Value) (hKL : KL = Lib.byteCells key) (hk : key.length = 32) (w : World) (hS : Stand M w) (hsep : M.Sep) (hroot : Arr w a 62 [.pointer (some ⟨b, 0, none⟩)]) :
    Calls Tryz.prog 22 #[.pointer (some ⟨a, 0, none⟩), .agg KL.toArray] w fun e w' => e = .returned (.bool (hasF nd.l key)) ∧ ∃ p M1, (M.le M1 ∧ M.Up M1 w.heap.size) ∧ Stand M1 w' ∧ M1.Sep ∧ Arr w' a 62 [.pointer p] ∧ RootAt M1 p (dropF key nd.l) ∧ Only (fun k => k = a) w w' := by
  obtain ⟨br, lb, nl, p1, p2, p3, p4, p5, p6, p7, p8, p9⟩ := way_ex M w hS key hk 65 b nd hb (by omega) (fun x hx i hi => absurd hi (by omega))
  have hch : Chain M key br.reverse nl nd := by simpa using p7 [] nd rfl
  have hhas : hasF nd.l key = hasF nl.l key := by
    have q : ∀ l : List It, hasF l key = true ↔ ∃ v, (key, v) ∈ l := fun l => by
      unfold hasF
      rw [List.any_eq_true]
      constructor
      · rintro ⟨x, hx, h⟩
        have h : x.1 = key := by simpa using h
        exact ⟨x.2, by rw [← h]; exact hx⟩
      · rintro ⟨v, h⟩
        exact ⟨_, h, by simp⟩
    rw [Bool.eq_iff_iff, q, q]
    exact ⟨fun ⟨v, h⟩ => ⟨v, (p9 v).1 h⟩, fun ⟨v, h⟩ => ⟨v, (p9 v).2 h⟩⟩
  -- the last node is the leaf of the key, or the key isn't there
  have hleaf : ∀ w', Below w.heap.size w w' → Calls Tryz.prog 36 #[.pointer (some ⟨lb, 0, none⟩), .agg KL.toArray] w' fun e w'' => e = .returned (.bool (hasF nd.l key)) ∧ Below w'.heap.size w' w'' := fun w' hb' => by
    have hn := (hS.up hb') lb nl p2
    rw [hhas]
    obtain ⟨d, s, dig, _, _, hcs⟩ := hn.cells
    rcases hcs with ⟨hN, hlf⟩ | ⟨hN, hbr⟩
    · obtain ⟨val, e, _⟩ := hlf.one
      rw [nokey_leaf e]
      exact leafOf_leaf nl.key key _ KL rfl hKL hn.k32 hk lb _ _ _ _ _ _ _ _ rfl w' hN
    · rw [nokey_branch hn hbr p3]
      exact leafOf_branch nl.key key _ KL rfl hKL hn.k32 hk lb nl.arr _ _ _ _ _ _ _ _ rfl w' hN
  have hgone : hasF nd.l key = true → dropF key nl.l = [] := fun h => by
    rw [hhas] at h
    have hn := hS lb nl p2
    obtain ⟨d, s, dig, _, _, hcs⟩ := hn.cells
    rcases hcs with ⟨hN, hlf⟩ | ⟨hN, hbr⟩
    · obtain ⟨val, e, _⟩ := hlf.one
      rw [nokey_leaf e] at h
      have h : nl.key = key := by simpa using h
      rw [e, h]
      simp [dropF]
    · rw [nokey_branch hn hbr p3] at h
      cases h
  have Hkm := Lib.hid (show (Tryz.prog.info? 24).map (·.size) = some KL.length by rw [hKL, Lib.byteCells_length, hk]; kernel_rfl)
  have Hleaf := Lib.hid hleaf
  have Hgone := Lib.hid hgone
  have Hdn := Lib.hid (fun h => dropF_none (l := nd.l) (key := key) h)
  obtain ⟨hs, hhs⟩ : ∃ x, hasF nd.l key = x := ⟨_, rfl⟩
  rw [hhs] at Hleaf Hgone ⊢
  have Hhs := Lib.hid hhs
  clear hleaf hgone hhas hhs
  obtain ⟨k, hk'⟩ : ∃ k, br.length = k := ⟨_, rfl⟩
  have hkl : (br ++ [lb]).length = k + 1 := by simp [hk']
  obtain ⟨W1, hW1⟩ : ∃ W1, W1 = w.alloc (.cells KL.toArray 24) := ⟨_, rfl⟩
  have hb1 : Below w.heap.size w W1 := by rw [hW1]; exact (Below.refl _ w).alloc (Nat.le_refl _) _
  have hk1 : Arr W1 w.heap.size 24 KL := by rw [hW1]; exact Arr.new w _ _
  have Hki := Lib.hid (show (Tryz.prog.info? 24).map (·.size) = some KL.toArray.size by rw [hKL, dig_size hk]; kernel_rfl)
  have hX1 : W1.heap[w.heap.size]? = some (.cells KL.toArray 24 (0, 0)) := hk1
  have HW1 := Lib.hid hW1
  have HKL := Lib.hid hKL
  clear hW1 hKL
  go_enter Tryz.func22, Tryz.ntmps22
  go_upto_region 1 with fail
  change Code.wp _ _ _ _ (w.alloc (.cells KL.toArray 24))
  rw [← HW1.out]
  clear HW1
  go_wp2_with (refine wpList_load_row rfl _ _ rfl w.heap.size rfl 24 KL.toArray (0, 0) _ hX1 Tryz.underlying24 rfl Hki.out ?_)
  go_at_call 30
  refine Calls.mono (way_run a KL W1) ?_
  rintro e w3 ⟨rfl, hBt, hBk, hb3⟩
  have hB3 : Below w.heap.size w w3 := hb1.trans (hb3.mono hb1.size)
  have hk3 := hk1.below hb3 hk1.lt
  clear hb3 hk1 hX1
  dsimp only
  go_wp2_with fail
  go_at_call 39
  refine Calls.mono (collect_all a _ M key KL HKL.out hk (br ++ [lb]) (by rw [hkl]; omega) w hS hroot p1 w3 hB3 _ _ hBt hBk) ?_
  rintro e w4 ⟨v4, rfl, hrow4, _, hb4⟩
  obtain ⟨g4, cap, rfl, hc1, hc2, hgb, hgl, hcells⟩ := row_cells hrow4 (by rw [hkl]; omega) (by simp [encL])
  rw [hkl] at hc1 ⊢
  have hB4 : Below w.heap.size w w4 := hB3.trans (hb4.mono hB3.size)
  have hk4 := hk3.below hb4 hk3.lt
  have hlast : w4.cell? ⟨g4, k, none⟩ = some (.pointer (some ⟨lb, 0, none⟩)) := hcells k _ (by simp [encL, ← hk'])
  have hbr4 : ∀ i c, br[i]? = some c → w4.cell? ⟨g4, i, none⟩ = some (.pointer (some ⟨c, 0, none⟩)) := fun i c hi => hcells i _ (by
    have := (List.getElem?_eq_some_iff.1 hi).1
    unfold encL
    rw [List.getElem?_map, List.getElem?_append_left (by omega), hi]; rfl)
  have hw1 : IntKind.i64.wrap ((k : Int) + 1 - 1) = (k : Int) := by rw [IntWalk.i64_in _ (by omega)]; omega
  have Hbr4 := Lib.hid hbr4
  have Hhk := Lib.hid hk'
  have hk64 : k ≤ 64 := by omega
  have hck : ¬ cap < k := by omega
  have hki : ¬ ((k : Int) + 1 ≤ (k : Int)) := by omega
  have hk0 : ¬ ((k : Int) < 0) := by omega
  have hkd : decide ((k : Int) < 0) = false := decide_eq_false hk0
  clear hb4 hk3 hBt hBk hrow4 hcells hbr4 hk' hkl
  dsimp only
  go_upto_region 3 with fail
  refine wp_region_held_drew (S := fun w' => Arr w' w.heap.size 24 KL ∧ w'.cell? ⟨g4, k, none⟩ = some (.pointer (some ⟨lb, 0, none⟩))) (by kernel_rfl) ⟨hk4.drewN 1, hlast⟩ (fun hHeld => ?_)
  refine anyH_take (i := 0) (v := .int .i64 (k : Nat)) (some 14) rfl rfl (by kernel_rfl) (by kernel_rfl) (by kernel_rfl) (fun _ _ _ h => h) (Or.inl ⟨by rfl, fun w' hw => by rfl⟩) (by assumption) ?_
  simp only [Act.put, List.setIfInBounds_toArray, List.set_cons_zero, List.set_cons_succ]
  refine anyH_take (i := 1) (v := .bool false) (some 15) rfl rfl (by kernel_rfl) (by kernel_rfl) (by kernel_rfl) (fun _ _ _ h => h) (Or.inl ⟨by rfl, fun w' hw => by go_simp⟩) (by assumption) ?_
  simp only [Act.put, List.setIfInBounds_toArray, List.set_cons_zero, List.set_cons_succ]
  refine anyH_take (i := 2) (v := .bool false) (some 16) rfl rfl (by kernel_rfl) (by kernel_rfl) (by kernel_rfl) (fun _ _ _ h => h) (Or.inl ⟨by rfl, fun w' hw => by rfl⟩) (by assumption) ?_
  simp only [Act.put, List.setIfInBounds_toArray, List.set_cons_zero, List.set_cons_succ]
  refine anyH_take (i := 3) (v := .slice (some ⟨g4, 0, none⟩) (k + 1) cap) (some 17) rfl rfl (by kernel_rfl) (by kernel_rfl) (by kernel_rfl) (fun _ _ _ h => h) (Or.inl ⟨by rfl, fun w' hw => by rfl⟩) (by assumption) ?_
  simp only [Act.put, List.setIfInBounds_toArray, List.set_cons_zero, List.set_cons_succ]
  refine anyH_take (i := 4) (v := .int .i64 (k : Nat)) (some 18) rfl rfl (by kernel_rfl) (by kernel_rfl) (by kernel_rfl) (fun _ _ _ h => h) (Or.inl ⟨by rfl, fun w' hw => by rfl⟩) (by assumption) ?_
  simp only [Act.put, List.setIfInBounds_toArray, List.set_cons_zero, List.set_cons_succ]
  refine anyH_take (i := 5) (v := .pointer (some ⟨g4, k, none⟩)) (some 19) rfl rfl (by kernel_rfl) (by kernel_rfl) (by kernel_rfl) (fun _ _ _ h => h) (Or.inl ⟨by rfl, fun w' hw => by go_simp⟩) (by assumption) ?_
  simp only [Act.put, List.setIfInBounds_toArray, List.set_cons_zero, List.set_cons_succ]
  refine anyH_take (i := 6) (v := .pointer (some ⟨lb, 0, none⟩)) (some 20) rfl rfl (by kernel_rfl) (by kernel_rfl) (by kernel_rfl) (fun _ _ _ h => h) (Or.inl ⟨by rfl, fun w' hw => by (have hl := hw.2; go_simp)⟩) (by assumption) ?_
  simp only [Act.put, List.setIfInBounds_toArray, List.set_cons_zero, List.set_cons_succ]
  refine anyH_take (i := 7) (some 21) rfl rfl (by kernel_rfl) (by kernel_rfl) (by kernel_rfl) (fun _ _ _ h => h) (yieldsIf_load_mid (by rfl) 24 (.tmp 3) rfl w.heap.size 0 rfl KL _ (fun w' h => h.1.range) Tryz.underlying24 rfl Hkm.out) (by assumption) ?_
  simp only [Act.put, List.setIfInBounds_toArray, List.set_cons_zero, List.set_cons_succ]
  refine wpAnyH_ready (rs := [8]) (by kernel_rfl) (by simp) ?_
  refine AllReadyH.cons rfl (fun K hK => ?_) AllReadyH.nil
  go_simp
  go_at_call 36
  refine Calls.mono (Hleaf.out _ (Below.dN hB4 1)) ?_
  rintro e w5 ⟨rfl, hb5⟩
  have hk5 : Arr w5 w.heap.size 24 KL := Arr.below (w := w4.drew) (hk4.drewN 1) hb5 hk4.lt
  have hl5 : w5.cell? ⟨g4, k, none⟩ = some (.pointer (some ⟨lb, 0, none⟩)) := (hb5.cell (p := ⟨g4, k, none⟩) hgl).trans hlast
  have hB5 : Below w.heap.size w w5 := (Below.dN hB4 1).trans (hb5.mono hB4.size)
  have hbr5 : Hid (∀ i c, br[i]? = some c → w5.cell? ⟨g4, i, none⟩ = some (.pointer (some ⟨c, 0, none⟩))) := fun i c hi => (hb5.cell (p := ⟨g4, i, none⟩) hgl).trans (Hbr4.out i c hi)
  have hgl5 : g4 < w5.heap.size := Nat.lt_of_lt_of_le hgl hb5.size
  refine hK.out _ _ ⟨hk5, hl5⟩ (fun hHeldx => ?_)
  clear hK K
  try simp only [Act.put, List.setIfInBounds_toArray, List.set_cons_zero, List.set_cons_succ]
  refine anyH_take (i := 9) (v := .bool !hs) (some 23) rfl rfl (by kernel_rfl) (by kernel_rfl) (by kernel_rfl) (fun _ _ _ h => h) (Or.inl ⟨by rfl, fun w' hw => by rfl⟩) (by assumption) ?_
  simp only [Act.put, List.setIfInBounds_toArray, List.set_cons_zero, List.set_cons_succ]
  refine anyH_take (i := 10) (v := .bool !hs) (some 24) rfl rfl (by kernel_rfl) (by kernel_rfl) (by kernel_rfl) (fun _ _ _ h => h) (Or.inl ⟨by rfl, fun w' hw => by rfl⟩) (by assumption) ?_
  simp only [Act.put, List.setIfInBounds_toArray, List.set_cons_zero, List.set_cons_succ]
  refine wpAnyH_done (by kernel_rfl) ?_ _
  clear hHeld hHeldx
  cases hs with
  | false =>
    go_wp2_with fail
    go_ret
    have haW : Arr w5 a 62 [.pointer (some ⟨b, 0, none⟩)] := hroot.below hB5 hroot.lt
    refine ⟨rfl, _, M, ⟨Wood.le_refl M, Wood.up_refl M _⟩, hS.up hB5, hsep, haW, ?_, Only.of_below hB5⟩
    rw [Hdn.out Hhs.out]
    exact .inr ⟨b, nd, rfl, hb, rfl, hf⟩
  | true =>
    go_upto_region 5 with fail
    refine wp_region_held_drew (S := fun w' => Arr w' w.heap.size 24 KL ∧ w'.cell? ⟨g4, k, none⟩ = some (.pointer (some ⟨lb, 0, none⟩))) (by kernel_rfl) ⟨hk5.drewN 1, hl5⟩ (fun hHeld => ?_)
    refine anyH_take (i := 0) (v := .pointer (some ⟨a, 0, none⟩)) (some 25) rfl rfl (by kernel_rfl) (by kernel_rfl) (by kernel_rfl) (fun _ _ _ h => h) (Or.inl ⟨by rfl, fun w' hw => by rfl⟩) (by assumption) ?_
    simp only [Act.put, List.setIfInBounds_toArray, List.set_cons_zero, List.set_cons_succ]
    refine anyH_take (i := 1) (some 26) rfl rfl (by kernel_rfl) (by kernel_rfl) (by kernel_rfl) (fun _ _ _ h => h) (yieldsIf_load_mid (by rfl) 24 (.tmp 3) rfl w.heap.size 0 rfl KL _ (fun w' h => h.1.range) Tryz.underlying24 rfl Hkm.out) (by assumption) ?_
    simp only [Act.put, List.setIfInBounds_toArray, List.set_cons_zero, List.set_cons_succ]
    refine anyH_take (i := 2) (v := .slice (some ⟨g4, 0, none⟩) (k + 1) cap) (some 27) rfl rfl (by kernel_rfl) (by kernel_rfl) (by kernel_rfl) (fun _ _ _ h => h) (Or.inl ⟨by rfl, fun w' hw => by rfl⟩) (by assumption) ?_
    simp only [Act.put, List.setIfInBounds_toArray, List.set_cons_zero, List.set_cons_succ]
    refine anyH_take (i := 3) (v := .int .i64 (k : Nat)) (some 28) rfl rfl (by kernel_rfl) (by kernel_rfl) (by kernel_rfl) (fun _ _ _ h => h) (Or.inl ⟨by rfl, fun w' hw => by rfl⟩) (by assumption) ?_
    simp only [Act.put, List.setIfInBounds_toArray, List.set_cons_zero, List.set_cons_succ]
    refine anyH_take (i := 4) (v := .slice (some ⟨g4, 0, none⟩) k cap) (some 29) rfl rfl (by kernel_rfl) (by kernel_rfl) (by kernel_rfl) (fun _ _ _ h => h) (Or.inl ⟨by rfl, fun w' hw => by go_simp⟩) (by assumption) ?_
    simp only [Act.put, List.setIfInBounds_toArray, List.set_cons_zero, List.set_cons_succ]
    refine wpAnyH_ready (rs := [5]) (by kernel_rfl) (by simp) ?_
    refine AllReadyH.cons rfl (fun K hK => ?_) AllReadyH.nil
    go_simp
    go_at_call 41
    have hB6 : Below w.heap.size w w5.drew := Below.dN hB5 1
    have hS6 : Stand M w5.drew := hS.up hB6
    have haw : a < w.heap.size := hroot.lt
    have hge := hB3.size
    have hchg := callsIn_wide.1 (change_in a (some ⟨b, 0, none⟩) M key KL HKL.out hk (dropF key) (GOk.dropF hk) br (by have := Hhk.out; omega) p5 nd (some ⟨g4, 0, none⟩) cap (by have := Hhk.out; omega) none nl M w5.drew (Wood.le_refl M) w.heap.size hB6.size (Wood.up_refl M _) hS6 hsep (.inl ⟨Hgone.out rfl, rfl⟩) hch hS6 (.inl rfl)
      (fun i c hi => ⟨g4, 0, rfl, hgl5, by rw [Nat.zero_add]; exact hbr5.out i c hi⟩) (Arr.below (w := w) hroot hB6 hroot.lt))
    rw [Hhk.out] at hchg
    refine Calls.mono hchg ?_
    rintro e w6 ⟨rfl, q, M1, n1, n2, n3, n4, n5, n6⟩
    have hk6 : Arr w6 w.heap.size 24 KL := Arr.only (w := w5.drew) (hk5.drewN 1) n6 (by omega)
    have hl6 : w6.cell? ⟨g4, k, none⟩ = some (.pointer (some ⟨lb, 0, none⟩)) := by rw [← hl5]; exact World.cell?_of_block (n6.block g4 hgl5 (by omega))
    refine hK.out _ _ ⟨hk6, hl6⟩ (fun hHeldx2 => ?_)
    clear hK K hchg
    try simp only [Act.put, List.setIfInBounds_toArray, List.set_cons_zero, List.set_cons_succ]
    refine wpAnyH_done (by kernel_rfl) ?_ _
    clear hHeld hHeldx2
    go_wp2_with fail
    go_ret
    refine ⟨rfl, q, M1, n1, n2, n3, n5, ?_, (Only.of_below hB6).then n6 (fun k hk => .inl hk)⟩
    rcases n4 with ⟨h, rfl⟩ | ⟨_, cc, mm, r1, r2, r3, r4⟩
    · exact .inl ⟨h, rfl⟩
    · exact .inr ⟨cc, mm, r1, r2, r3, by rw [r4, hf]⟩

/-- Drop of a trie: was the key there? What stands then is its items without the key. -/
theorem tdrop_run (a : Nat) (p0 : Option Addr) (M : Wood) (l : List It) (hat : RootAt M p0 l) (key : List UInt8) (KL : List Value) (hKL : KL = Lib.byteCells key) (hk : key.length = 32) (w : World) (hS : Stand M w) (hsep : M.Sep) (hroot : Arr w a 62 [.pointer p0]) :
    Calls Tryz.prog 22 #[.pointer (some ⟨a, 0, none⟩), .agg KL.toArray] w fun e w' => e = .returned (.bool (hasF l key)) ∧ ∃ p M1, (M.le M1 ∧ M.Up M1 w.heap.size) ∧ Stand M1 w' ∧ M1.Sep ∧ Arr w' a 62 [.pointer p] ∧ RootAt M1 p (dropF key l) ∧ Only (fun k => k = a) w w' := by
  rcases hat with ⟨rfl, rfl⟩ | ⟨b, nd, rfl, hb, rfl, hf⟩
  · refine (tdrop_none a M key KL hKL hk w hS hroot).mono ?_
    rintro e w' ⟨rfl, hbl⟩
    exact ⟨rfl, none, M, ⟨Wood.le_refl M, Wood.up_refl M _⟩, hS.up hbl, hsep, hroot.below hbl hroot.lt, .inl ⟨rfl, rfl⟩, Only.of_below hbl⟩
  · exact tdrop_some a b M nd hb hf key KL hKL hk w hS hsep hroot

end Go.Proofs.YtblgmnjegkfoaaaGreat

namespace Go.Proofs.YtblgmnjegkfoaaaGreat
open Go.RowKit
set_option linter.unusedVariables false
set_option linter.unusedSimpArgs false

/-- The trie's own block is no node. -/
theorem Stand.offTrie {M : Wood} {w : World} (hS : Stand M w) {a : Nat} {p : Option Addr} (ha : Arr w a 62 [.pointer p]) (t : Nat) : ¬ M.ndF t a := fun ⟨n, hn, _⟩ => by
  obtain ⟨cs, hcs⟩ := (hS a n hn).typ
  have q : some _ = some _ := (show w.heap[a]? = some _ from hcs).symm.trans ha
  injection q with q
  injection q with q1 q2
  exact absurd q2 (by decide)

set_option maxHeartbeats 4000000 in
theorem troot_run (a : Nat) (p0 : Option Addr) (M : Wood) (l : List It) (hat : RootAt M p0 l) (SL : List Value) (hSL : SL = Lib.byteCells (rootF l)) (w : World) (hS : Stand M w) (hsep : M.Sep) (hroot : Arr w a 62 [.pointer p0]) :
    Calls Tryz.prog 9 #[.pointer (some ⟨a, 0, none⟩)] w fun e w' => e = .returned (.agg SL.toArray) ∧ Stand M w' ∧ Arr w' a 62 [.pointer p0] ∧ Only (M.ndF 0) w w' := by
  rcases hat with ⟨rfl, rfl⟩ | ⟨b, nd, rfl, hb, rfl, hf⟩
  · refine (root_none a SL (by rw [hSL]; rfl) w (hroot.cell 0) hroot.lt).mono ?_
    rintro e w' ⟨rfl, hbl⟩
    exact ⟨rfl, hS.up hbl, hroot.below hbl hroot.lt, Only.of_below hbl⟩
  · have hn := hS b nd hb
    have hr : rootF nd.l = nodeD nd.l nd.f := by
      unfold rootF
      rw [if_neg (List.length_pos_iff.1 hn.pos), hf]
    have hl32 : SL.length = 32 := by rw [hSL, Lib.byteCells_length, hr]; exact shaF_length _
    refine (root_some a b SL hl32 (by rw [hSL]; exact byteCells_one _) (M.ndF 0) (fun w' => Stand M w' ∧ w.heap.size ≤ w'.heap.size) w (hroot.cell 0) hroot.lt (fun k ⟨m, hm, _⟩ => (hS k m hm).lt) (fun w1 w2 h ho => ⟨hS.low h.1 (ho.below h.2 (fun k hk => hk)), Nat.le_trans h.2 ho.size⟩) (fun w' hbl => ?_)).mono ?_
    · refine (sum_wood 65 M b nd hb (by omega) hsep w' (hS.up hbl)).mono ?_
      rintro e w'' ⟨rfl, hS2, hO2⟩
      rw [hf] at hO2
      exact ⟨by rw [hSL, hr], ⟨hS2, Nat.le_trans hbl.size hO2.size⟩, hO2⟩
    · rintro e w' ⟨rfl, hS2, hO2⟩
      exact ⟨rfl, hS2.1, hroot.only hO2 (hS.offTrie hroot 0), hO2⟩

end Go.Proofs.YtblgmnjegkfoaaaGreat

namespace Go.Proofs.YtblgmnjegkfoaaaGreat
open Go.RowKit
set_option linter.unusedVariables false
set_option linter.unusedSimpArgs false

def noWood : Wood := fun _ => none
theorem noWood_stand (w : World) : Stand noWood w := fun b n h => by cases h
theorem noWood_sep : noWood.Sep := fun b n a h => by cases h
/-- What holds a node. -/
def NodeT (w : World) (k : Nat) : Prop := ∃ cs, Arr w k 87 cs
def spkB : List UInt8 := [0, 64] ++ List.replicate 65 0
theorem spk_root : rootF (putF z32 [] []) = shaF (tagF 4 [spkB]) := by
  have e : nodeF 65 [(z32, [])] 0 = spkB := by rw [nodeF_one]; decide +kernel
  show nodeD [(z32, [])] 0 = _
  unfold nodeD
  rw [e]
theorem spk_none : rootF [] = shaF (tagF 5 []) := rfl

set_option maxHeartbeats 8000000 in
set_option maxRecDepth 100000 in
theorem speaks8_run (w : World) : Calls Tryz.prog 6 #[] w fun e w' => e = .returned (.bool true) ∧ Below w.heap.size w w' := by
  obtain ⟨i0, hi, hz0, hz1, hz2⟩ := info_parts byteInfo
  obtain ⟨KL, hKL⟩ : ∃ KL, KL = Lib.byteCells z32 := ⟨_, rfl⟩
  have Hz := Lib.hid (show Tryz.prog.built 24 [] = some KL.toArray by rw [hKL]; kernel_rfl)
  obtain ⟨XL, hXL⟩ : ∃ XL, XL = Lib.byteCells (shaF (tagF 4 [spkB])) := ⟨_, rfl⟩
  obtain ⟨YL, hYL⟩ : ∃ YL, YL = Lib.byteCells (shaF (tagF 5 [])) := ⟨_, rfl⟩
  have HKL := Lib.hid hKL
  have HXL := Lib.hid hXL
  have HYL := Lib.hid hYL
  clear hKL hXL hYL
  go_enter Tryz.func6, Tryz.ntmps6
  go_wp2_with fail
  go_at_call 20
  refine Calls.mono (new_run w) ?_
  rintro e w1 ⟨rfl, hN1, hb1⟩
  have hlt : w.heap.size < w1.heap.size := hN1.lt
  obtain ⟨a, ha⟩ : ∃ a, w.heap.size = a := ⟨_, rfl⟩
  have Ha := Lib.hid ha
  rw [ha] at hN1 hlt hb1 ⊢
  clear ha
  dsimp only
  go_wp2_with (refine wpList_builtT rfl _ _ rfl _ rfl KL.toArray Hz.out ?_)
  go_at_call 21
  refine Calls.mono (tput_run a none noWood [] (.inl ⟨rfl, rfl⟩) z32 [] KL HKL.out rfl 0 none 0 0 w1 (noWood_stand _) noWood_sep hN1 (fun h => absurd h (by simp)) rfl (by simp)) ?_
  rintro e w2 ⟨rfl, p, M1, hle2, hS2, hsep2, hA2, hR2, hO2⟩
  have hb2 : Below a w w2 := hb1.trans (hO2.below (Nat.le_of_lt hlt) (fun k hk => by omega))
  have hlt2 : a < w2.heap.size := hA2.lt
  clear hO2 hN1 hb1
  dsimp only
  go_wp2_with fail
  obtain ⟨cp, hcp⟩ : ∃ cp, (Question.appendCap 67 2 5).cut (w2.tape w2.drawn (.appendCap 67 2 5)) = cp := ⟨_, rfl⟩
  have hc1 : 67 ≤ cp := by rw [← hcp]; exact grownCap_ge w2 67 2 5
  have hc2 : cp ≤ maxLen := by rw [← hcp]; exact grownCap_le_maxLen w2 67 2 5 (by unfold maxLen; omega)
  rw [hcp]
  obtain ⟨W3, hW3⟩ : ∃ W3, W3 = ((w2.alloc (.cells #[.int .u8 0, .int .u8 64] 5)).alloc (.cells (#[.int .u8 0, .int .u8 64] ++ (Builtin.zeroCells #[.int .u8 0] 65 ++ Builtin.zeroCells #[.int .u8 0] (cp - 67))) 5)).drew := ⟨_, rfl⟩
  have hb3 : Below w2.heap.size w2 W3 := by rw [hW3]; exact Below.dN ((((Below.refl _ w2).alloc (Nat.le_refl _) _)).alloc (by simp) _) 1
  have hbs : Bs W3 W3.heap.size (some ⟨w2.heap.size + 1, 0, none⟩) spkB := fun _ => ⟨w2.heap.size + 1, 0, rfl, by rw [hW3]; simp, fun j hj => by
    have hq : W3.heap[w2.heap.size + 1]? = some (.cells (#[.int .u8 0, .int .u8 64] ++ (Builtin.zeroCells #[.int .u8 0] 65 ++ Builtin.zeroCells #[.int .u8 0] (cp - 67))) 5 (0, 0)) := by
      rw [hW3]
      have h := World.alloc_heap_new (w2.alloc (.cells #[.int .u8 0, .int .u8 64] 5)) (.cells (#[.int .u8 0, .int .u8 64] ++ (Builtin.zeroCells #[.int .u8 0] 65 ++ Builtin.zeroCells #[.int .u8 0] (cp - 67))) 5)
      rw [World.size_alloc] at h
      exact h
    have e : (#[.int .u8 0, .int .u8 64] ++ (Builtin.zeroCells #[.int .u8 0] 65 ++ Builtin.zeroCells #[.int .u8 0] (cp - 67)) : Array Value) = (Lib.byteCells spkB).toArray ++ Builtin.zeroCells #[.int .u8 0] (cp - 67) := by
      rw [← Array.append_assoc]
      congr 1
      kernel_rfl
    rw [e] at hq
    have hl : j < (Lib.byteCells spkB).length := by rw [Lib.byteCells_length]; exact hj
    have : W3.cell? ⟨w2.heap.size + 1, 0 + j, none⟩ = ((Lib.byteCells spkB).toArray ++ Builtin.zeroCells #[.int .u8 0] (cp - 67))[j]? := by simp [World.cell?, hq]
    rw [this, Array.getElem?_append_left (by simpa using hl), List.getElem?_toArray]
    exact byteCells_get hj⟩
  rw [← hW3]
  have hS3 := hS2.up hb3
  have hA3 : Arr W3 a 62 [.pointer p] := hA2.below hb3 hlt2
  have hB3 : Below a w W3 := hb2.trans (hb3.mono (Nat.le_of_lt hlt2))
  have hgt := gt32
  have heX : ∀ w, (Op.equalIn 10000 24 (.agg XL.toArray) (.agg XL.toArray)).run Tryz.prog w = .ok true w := fun w => by
    rw [eqv_at Tryz.underlying24 _ _ (shaF_length _) (shaF_length _) XL XL HXL.out HXL.out w]; simp
  have heY : ∀ w, (Op.equalIn 10000 24 (.agg YL.toArray) (.agg YL.toArray)).run Tryz.prog w = .ok true w := fun w => by
    rw [eqv_at Tryz.underlying24 _ _ (shaF_length _) (shaF_length _) YL YL HYL.out HYL.out w]; simp
  have hnd : ∀ k, M1.ndF 0 k → k < w2.heap.size := fun k ⟨m, hm, _⟩ => (hS2 k m hm).lt
  have hnt : ∀ k, M1.ndF 0 k → w.heap.size ≤ k ∨ w.heap.size ≤ k := fun k ⟨m, hm, _⟩ => by
    rw [Ha.out]
    rcases hle2.2 k m hm with h | h
    · cases h
    · exact .inl (by have := h.1; omega)
  have Hnd := Lib.hid hnd
  have Hnt := Lib.hid hnt
  clear hW3 hS2 hA2 hb3 hcp hnd hnt
  refine Calls.mono (troot_run a p M1 _ hR2 XL (by rw [spk_root]; exact HXL.out) W3 hS3 hsep2 hA3) ?_
  rintro e w4 ⟨rfl, hS4, hA4, hO4⟩
  have hbs4 : Bs w4 w4.heap.size (some ⟨w2.heap.size + 1, 0, none⟩) spkB := (hbs.onlyT hO4 (fun ad e _ q => by injection e with e; subst e; have h1 : w2.heap.size + 1 < w2.heap.size := Hnd.out _ q; omega) (Nat.le_refl _)).more hO4.size
  have hO : Only (fun k => w.heap.size ≤ k) w w4 := (Only.of_below (by rw [Ha.out]; exact hB3)).then hO4 Hnt.out
  have hrow := nd_rows_one (w := w4) (B := w4.heap.size) 38 (n := 67) (c := cp) rfl hc1 hc2 hbs4 (Nat.le_refl _)
  dsimp only
  go_wp2_with fail
  go_at_call 24
  refine Calls.mono (rtag_at 4 4 [spkB] XL _ 1 1 _ rfl HXL.out rfl (by omega) (hrow.more (Nat.le_of_eq (by simp))) (tag_one_le _ (by decide))) ?_
  rintro e w5 ⟨rfl, hb5⟩
  have hO5 : Only (fun k => w.heap.size ≤ k) w w5 := hO.trans (Only.of_below (((Below.refl _ w4).alloc (Nat.le_refl _) _).trans (hb5.mono (by simp))))
  clear hb5 hrow hbs4 hO4 hO
  dsimp only
  go_wp2_with fail
  go_at_call 20
  refine Calls.mono (new_run w5) ?_
  rintro e w6 ⟨rfl, hN6, hb6⟩
  have hO6 : Only (fun k => w.heap.size ≤ k) w w6 := hO5.trans (Only.of_below hb6)
  dsimp only
  go_wp2_with fail
  go_at_call 9
  refine Calls.mono (troot_run w5.heap.size none noWood [] (.inl ⟨rfl, rfl⟩) YL HYL.out w6 (noWood_stand _) noWood_sep hN6) ?_
  rintro e w7 ⟨rfl, _, _, hO67⟩
  have hO7 : Only (fun k => w.heap.size ≤ k) w w7 := hO6.then hO67 (fun k ⟨m, hm, _⟩ => by cases hm)
  dsimp only
  go_wp2_with fail
  go_at_call 24
  refine Calls.mono (rtag_at 5 5 [] YL none 0 0 w7 rfl HYL.out rfl (by omega) (fun h => absurd h (by simp)) (by decide)) ?_
  rintro e w8 ⟨rfl, hb8⟩
  have hO8 : Only (fun k => w.heap.size ≤ k) w w8 := hO7.trans (Only.of_below hb8)
  dsimp only
  go_wp2_with fail
  go_ret
  exact ⟨rfl, hO8.below (Nat.le_refl _) (fun _ h => h)⟩

end Go.Proofs.YtblgmnjegkfoaaaGreat

namespace Go.Proofs.YtblgmnjegkfoaaaGreat
open Go.RowKit
set_option linter.unusedVariables false
set_option linter.unusedSimpArgs false

/-- The rows on the way to a key, and where their nodes begin. -/
def wayF (key : List UInt8) : Nat → List It → Nat → List (List It × Nat)
  | 0, _, _ => []
  | f + 1, l, t => if l = [] then [] else (l, t) :: (if l.length = 1 ∨ restF (l.headD ([], [])).1 t (sharedF l t) ≠ restF key t (sharedF l t) then [] else wayF key f (subF l (sharedF l t) (nibF key (sharedF l t))) (sharedF l t + 1))
theorem wayF_none (key : List UInt8) (f t : Nat) : wayF key f [] t = [] := by
  cases f with
  | zero => rfl
  | succ f => unfold wayF; rw [if_pos rfl]
theorem proveF_way (key : List UInt8) : ∀ (f : Nat) (l : List It) (t : Nat), proveF key f l t = (wayF key f l t).map fun p => nodeF 65 p.1 p.2
  | 0, _, _ => rfl
  | f + 1, l, t => by
    unfold proveF wayF
    split
    · rfl
    · rw [List.map_cons]
      congr 1
      split
      · rfl
      · exact proveF_way key f _ _
/-- Items that a row's key leaves at a place, or before it: none is the key's. -/
theorem rest_off {key : List UInt8} {l : List It} {t e : Nat} (hag : ∀ i, i < e → agreeF l i = true) (hne : restF (l.headD ([], [])).1 t e ≠ restF key t e) : ∀ x ∈ l, x.1 ≠ key := by
  intro x hx e2
  apply hne
  cases l with
  | nil => cases hx
  | cons y l =>
    rw [← e2]
    exact restF_congr fun i _ h => agreeF_iff.1 (hag i h) y (by simp) x hx
/-- What the last row on the way tells. -/
def endF (key : List UInt8) (p : Option (List It × Nat)) : Option (List UInt8) :=
  match p with
  | some ([x], _) => if x.1 = key then some x.2 else none
  | _ => none
theorem find_way (key : List UInt8) : ∀ (f : Nat) (l : List It) (t : Nat), Good l → (∀ i, i < t → agreeF l i = true) → t ≤ 64 → 65 - t ≤ f → findF l key = endF key (wayF key f l t).getLast?
  | 0, l, t, _, _, ht, hf => by omega
  | f + 1, l, t, hg, hag, ht, hf => by
    unfold wayF
    by_cases hl : l = []
    · subst hl
      rw [if_pos rfl]
      rfl
    · rw [if_neg hl]
      by_cases h1 : l.length = 1
      · rw [if_pos (.inl h1)]
        obtain ⟨x, rfl⟩ := List.length_eq_one_iff.1 h1
        show _ = endF key (some ([x], t))
        unfold endF findF
        by_cases e : x.1 = key
        · simp [e]
        · simp [e]
      · have h2 : 2 ≤ l.length := by
          have := List.length_pos_iff.2 hl
          omega
        have hs := hg.split h2 ht hag
        have hts := sharedF_ge l t
        have hshag : ∀ i, i < sharedF l t → agreeF l i = true := shared_agree hag
        have hlast : endF key (some (l, t)) = none := by
          match l, h2 with
          | _ :: _ :: _, _ => rfl
        by_cases hr : restF (l.headD ([], [])).1 t (sharedF l t) = restF key t (sharedF l t)
        · rw [if_neg (by rintro (h | h); exact h1 h; exact h hr)]
          rw [← findF_sub l key (sharedF l t), find_way key f _ _ (hg.part _ _) (part_agree hshag) (by omega) (by omega)]
          rw [List.getLast?_cons]
          cases hw : (wayF key f (subF l (sharedF l t) (nibF key (sharedF l t))) (sharedF l t + 1)).getLast? with
          | none => rw [Option.getD_none, hlast]; rfl
          | some p => rfl
        · rw [if_pos (.inr hr), List.getLast?_singleton, hlast, findF_none]
          exact rest_off hshag hr
/-- A row on the way is of items that begin as the key does. -/
theorem way_key (key : List UInt8) : ∀ (f : Nat) (l : List It) (t : Nat), (∀ i, i < t → agreeF l i = true) → (∀ x ∈ l, ∀ i, i < t → nibF x.1 i = nibF key i) → ∀ p ∈ wayF key f l t, p.1 ≠ [] ∧ (∀ x ∈ p.1, x ∈ l) ∧ t ≤ p.2 ∧ (∀ x ∈ p.1, ∀ i, i < p.2 → nibF x.1 i = nibF key i)
  | 0, _, _, _, _ => fun p hp => by cases hp
  | f + 1, l, t, hag, hkey => fun p hp => by
    unfold wayF at hp
    by_cases hl : l = []
    · rw [if_pos hl] at hp; cases hp
    · rw [if_neg hl] at hp
      rcases List.mem_cons.1 hp with rfl | hp
      · exact ⟨hl, fun x hx => hx, Nat.le_refl _, hkey⟩
      · split at hp
        · cases hp
        · rename_i hc
          have hr : restF (l.headD ([], [])).1 t (sharedF l t) = restF key t (sharedF l t) := by
            by_cases e : restF (l.headD ([], [])).1 t (sharedF l t) = restF key t (sharedF l t)
            · exact e
            · exact absurd (.inr e) hc
          have hts := sharedF_ge l t
          have hshag : ∀ i, i < sharedF l t → agreeF l i = true := shared_agree hag
          obtain ⟨q1, q2, q3, q4⟩ := way_key key f _ _ (part_agree hshag) (fun x hx i hi => by
            obtain ⟨hx1, hx2⟩ := mem_subF.1 hx
            by_cases h1 : i = sharedF l t
            · rw [h1, hx2]
            · by_cases h3 : i < t
              · exact hkey x hx1 i h3
              · cases l with
                | nil => cases hx1
                | cons y l =>
                  have h4 := agreeF_iff.1 (hshag i (by omega)) x hx1 y (by simp)
                  have h5 := restF_getT y.1 (t := t) (u := i) (v := sharedF (y :: l) t) (by omega) (by omega)
                  have h6 := restF_getT key (t := t) (u := i) (v := sharedF (y :: l) t) (by omega) (by omega)
                  rw [h4, ← h5, ← h6]
                  rw [show (y :: l).headD ([], []) = y from rfl] at hr
                  rw [hr]) p hp
          exact ⟨q1, fun x hx => (mem_subF.1 (q2 x hx)).1, by omega, q4⟩

end Go.Proofs.YtblgmnjegkfoaaaGreat

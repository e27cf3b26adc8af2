/-
  The law AuditChecks.
-/
import Derived.Test.YtlfddijmanlneaaAuChkAll
import Derived.Test.YtlfddijmanlneaaAuRefAll
import Derived.Test.YtlfddijmanlneaaTagged
import Derived.Test.YtlfddijmanlneaaRowsArg
import Derived.Test.YtlfddijmanlneaaSame
import Derived.Test.YtlfddijmanlneaaDskBase
import Derived.Test.YtlfddijmanlneaaMerkArg
import Derived.Test.YtlfddijmanlneaaLib
namespace Go.Proofs.Ytlfddijmanlneaa
open Go.RowKit Go.Shelf
set_option linter.unusedVariables false
set_option linter.unusedSimpArgs false

theorem yieldsIf_eqlA {P : Program} {ops : Array Oper} {S : World → Prop} {op : Oper} {a : Act} (hw : Region.wanted op (yielded ops a.tmps) = true) (ty ty2 : TypeId) (x y : Operand) (ho : op.op = .binOp .eql ty x y ty2)
    (X Y : List Value) (hx : a.eval x = .agg X.toArray) (hy : a.eval y = .agg Y.toArray) (b : Bool) (he : ∀ w, (Op.equalIn 10000 ty (.agg X.toArray) (.agg Y.toArray)).run P w = .ok b w) (hm : P.eqGuardType P.depth ty = false) : YieldsIf P ops S op (.bool b) a :=
  .inl ⟨hw, fun w _ => by
    unfold execOp
    simp only [ho, hx, hy, Sem.run_bind, Sem.run_pure, Result.andThen_ok, run_eqGuard_agg, run_eql_struct, he, hm]⟩
theorem DRow.oneR {w : World} {B g : Nat} {d : List UInt8} (hA : Arr w g 24 (Lib.byteCells d)) (h32 : d.length = 32) (hB : B ≤ g) : DRow w B (.slice (some ⟨g, 0, none⟩) 1 1) [d] := by
  refine ⟨fun x hx => by rw [List.mem_singleton] at hx; rw [hx]; exact h32, by rw [digC_one, Lib.byteCells_length, h32]; rfl, .inr ⟨g, 1, (Lib.byteCells d).toArray, rfl, hB, hA, Nat.le_refl _, by unfold maxLen; omega, by simp [Lib.byteCells_length, h32], ?_⟩⟩
  rw [digC_one]
  simp [List.take_of_length_le, Lib.byteCells_length, h32]
theorem run_append_digO {w : World} {B : Nat} {v : Value} {ds : List (List UInt8)} (h : DRow w B v ds) (hB : B ≤ w.heap.size) (ty : TypeId) (g c : Nat) (d : List UInt8) (hd : d.length = 32) (hg : Arr w g 24 (Lib.byteCells d)) (hm : ds.length ≤ 1000000) :
    ∃ v' w', (Builtin.append_ #[48, 48] ty #[v, .slice (some ⟨g, 0, none⟩) 1 c]).run Try.prog w = .ok v' w' ∧ DRow w' B v' (ds ++ [d]) ∧ w.grownBy w' v.ownBlock ∧ (v'.ownBlock = v.ownBlock ∨ v'.ownBlock = some w.heap.size) := by
  obtain ⟨i0, hi, hz0, hz1, hz2⟩ := info_parts digAll
  have hadd : ∀ k, (⟨g, 0, none⟩ : Addr).add k = ⟨g, k, none⟩ := fun k => by unfold Addr.add; split <;> simp_all
  obtain ⟨v', w', h1, h2, h3, _, h5⟩ := run_append_own_at (P := Try.prog) w B 48 ty 24 i0 (.agg (Lib.byteCells zeros).toArray) 32 32 Try.underlying48 hi hz0 hz1 hz2 rfl (by decide) v ds.length (digC ds) h.2 ⟨g, 0, none⟩ 1 c (Lib.byteCells d) (by rw [Lib.byteCells_length, hd]) (fun j u hj => by rw [hadd, hg.cell]; exact hj) (byteCells_one d) (by unfold maxLen; omega) (by omega) hB
  refine ⟨v', w', h1, ⟨fun x hx => ?_, ?_⟩, h3, h5⟩
  · rcases List.mem_append.1 hx with hx | hx
    · exact h.1 x hx
    · rw [List.mem_singleton] at hx; rw [hx]; exact hd
  · rw [digC_append, digC_one, List.length_append]
    exact h2
theorem wp_append_digO {o : Oper} {a : Act} {w : World} {K : Act → World → Prop} {Q : Exit → Act → World → Prop} (dd : Option Tmp) (hdd : o.dst = dd) (s x : Operand) (ho : o.op = .call { callee := .builtin .append, args := #[s, x], argTypes := #[48, 48] })
    {B : Nat} {v : Value} {ds : List (List UInt8)} (h : DRow w B v ds) (hB : B ≤ w.heap.size) (hs : a.eval s = v) (g c : Nat) (hx : a.eval x = .slice (some ⟨g, 0, none⟩) 1 c) (d : List UInt8) (hd : d.length = 32) (hg : Arr w g 24 (Lib.byteCells d)) (hm : ds.length ≤ 1000000)
    (hK : ∀ v' w', DRow w' B v' (ds ++ [d]) → w.grownBy w' v.ownBlock → (v'.ownBlock = v.ownBlock ∨ v'.ownBlock = some w.heap.size) → K (a.put dd v') w') : Oper.wp Try.prog o a w K Q := by
  subst hdd
  obtain ⟨v', w', hr, h2, h3, h4⟩ := run_append_digO h hB o.type g c d hd hg hm
  unfold Oper.wp execOp
  simp only [ho, resolve, invoke, builtin, Sem.run_bind, Sem.run_pure, Result.andThen_ok, List.map_toArray, List.map_cons, List.map_nil, hs, hx, hr]
  exact hK v' w' h2 h3 h4
/-- An empty row of rows, laid. -/
theorem wp_build_l0 {o : Oper} {a : Act} {w : World} {K : Act → World → Prop} {Q : Exit → Act → World → Prop} (dd : Option Tmp) (hdd : o.dst = dd) (ho : o.op = .buildSlice 28 0 #[])
    (hK : K (a.put dd (.slice (some ⟨w.heap.size, 0, none⟩) 0 0)) (w.alloc (.cells #[] 33))) : Oper.wp Try.prog o a w K Q := by
  subst hdd
  unfold Oper.wp execOp
  simp only [ho]
  go_simp
  exact hK
/-- Events, whose bytes lie below M and whose row isn't the states'. -/
def EvM (w : World) (M : Nat) (vs : Value) (A : Option Addr) (es : List (List UInt8)) : Prop :=
  0 < es.length → ∃ b o, A = some ⟨b, o, none⟩ ∧ b < w.heap.size ∧ vs.ownBlock ≠ some b ∧ ∀ i, i < es.length → ∃ A' c, w.cell? ⟨b, o + i, none⟩ = some (.slice A' (es.getD i []).length c) ∧ (es.getD i []).length ≤ c ∧ c ≤ maxLen ∧ Bs w M A' (es.getD i [])
/-- What the document's Check leaves. -/
def RChk (ep : Nat) (root : List UInt8) (bs : List (List UInt8)) (w : World) (e : Ending) (w' : World) : Prop :=
  Below w.heap.size w w' ∧ ∃ vs A es ce ok ds M, e = .returned (.tuple #[vs, .slice A (List.length es) ce, .bool ok]) ∧ w.heap.size ≤ M ∧ M ≤ w'.heap.size ∧ DRow w' M vs ds ∧ es.length ≤ ce ∧ ce ≤ maxLen ∧ (EvM w' M vs A es ∧ ∀ a : Addr, A = some a → w.heap.size ≤ a.block) ∧
    (ok = true → ∃ cs, ToldP ep root bs cs ∧ ds = cs.reverse.map (fun c => c.st) ∧ es = cs.reverse.flatMap fun c => c.evs) ∧ (ok = false → ∀ cs, ¬ ToldP ep root bs cs) ∧ ds.length ≤ bs.length ∧ es.length ≤ bs.length * 3000

theorem told_none {root : List UInt8} {cs : List Com} : ToldP 0 root [] cs ↔ cs = [] ∧ root = List.replicate 32 0 := by
  constructor
  · rintro ⟨_, h2, h3⟩
    cases cs with
    | cons => exact h2.elim
    | nil =>
      refine ⟨rfl, ?_⟩
      rw [endR_nil] at h3
      exact congrArg RefF.d h3
  · rintro ⟨rfl, rfl⟩
    exact ⟨rfl, trivial, rfl⟩
theorem told_one {root b : List UInt8} {c : Com} (h : LinkP 1 root b c) : (∀ cs, ToldP 1 root [b] cs → cs = [c] ∧ c.r1 = zR) ∧ (c.r1 = zR → ToldP 1 root [b] [c]) := by
  constructor
  · rintro cs ⟨_, h2, h3⟩
    cases cs with
    | nil => exact h2.elim
    | cons d ds =>
      cases ds with
      | cons => exact h2.2.elim
      | nil =>
        obtain rfl := h.one h2.1
        exact ⟨rfl, h3⟩
  · intro h0
    exact ⟨rfl, ⟨h, trivial⟩, h0⟩
theorem told_cons {n : Nat} {root b : List UInt8} {t : List (List UInt8)} {c : Com} (ht : t ≠ []) (h : LinkP (n + 1) root b c) : (∀ cs, ToldP (n + 1) root (b :: t) cs → ∃ ds, cs = c :: ds ∧ ToldP n c.r1.d t ds) ∧ (∀ ds, ToldP n c.r1.d t ds → ToldP (n + 1) root (b :: t) (c :: ds)) := by
  constructor
  · rintro cs ⟨h1, h2, h3⟩
    cases cs with
    | nil => exact h2.elim
    | cons d ds =>
      obtain rfl := h.one h2.1
      refine ⟨ds, rfl, by simpa using h1, h2.2, ?_⟩
      cases ds with
      | nil => cases t with
        | nil => exact absurd rfl ht
        | cons => exact h2.2.elim
      | cons e es => rw [endR_cons] at h3; exact h3
  · rintro ds ⟨h1, h2, h3⟩
    refine ⟨by simpa using h1, ⟨h, h2⟩, ?_⟩
    cases ds with
    | nil => cases t with
      | nil => exact absurd rfl ht
      | cons => exact h2.elim
    | cons e es => rw [endR_cons]; exact h3
theorem RowsAt.atR {w : World} {B : Nat} {A : Option Addr} {b : List UInt8} {t : List (List UInt8)} (h : RowsAt w B A (b :: t)) : ∃ k o A' c, A = some ⟨k, o, none⟩ ∧ k < B ∧ w.cell? ⟨k, o, none⟩ = some (.slice A' b.length c) ∧ b.length ≤ c ∧ c ≤ maxLen ∧ Bs w B A' b ∧ RowsAt w B (some ⟨k, o + 1, none⟩) t := by
  obtain ⟨k, o, e, hb, hc⟩ := h (by simp)
  obtain ⟨A', c, q1, q2, q3, q4⟩ := hc 0 (by simp)
  refine ⟨k, o, A', c, e, hb, by simpa using q1, by simpa using q2, q3, by simpa using q4, fun _ => ⟨k, o + 1, rfl, hb, fun i hi => ?_⟩⟩
  obtain ⟨A2, c2, r1, r2, r3, r4⟩ := hc (i + 1) (by simpa using hi)
  rw [show o + (i + 1) = o + 1 + i by omega] at r1
  exact ⟨A2, c2, by simpa using r1, by simpa using r2, r3, by simpa using r4⟩
/-- A row of the call's own, as events. -/
theorem LRow.ev {w : World} {M : Nat} {v vs : Value} {rs : List (List UInt8)} (h : LRow w M v rs) (ho : ∀ g, v.ownBlock = some g → vs.ownBlock ≠ some g) : ∃ A c, v = .slice A rs.length c ∧ rs.length ≤ c ∧ c ≤ maxLen ∧ EvM w M vs A rs := by
  obtain ⟨cs, ⟨h1, h2⟩, h3⟩ := h
  rcases h2 with ⟨rfl, hn⟩ | ⟨g, cap, cur, rfl, e1, hg, e2, e3, e4, e5⟩
  · exact ⟨none, 0, by rw [hn], by omega, by unfold maxLen; omega, fun hp => by omega⟩
  · refine ⟨_, cap, rfl, e2, e3, fun hp => ⟨g, 0, rfl, (Array.getElem?_eq_some_iff.1 hg).1, ho g rfl, fun i hi => ?_⟩⟩
    obtain ⟨A, c, k1, k2, k3, k4⟩ := h3 i rs[i] (List.getElem?_eq_getElem hi)
    have hx : rs.getD i [] = rs[i] := by rw [List.getD_eq_getElem?_getD, List.getElem?_eq_getElem hi]; rfl
    rw [hx]
    refine ⟨A, c, ?_, k2, k3, k4⟩
    rw [← e5] at k1
    rw [List.getElem?_take_of_lt (by omega)] at k1
    rw [cell_of_row w g _ cur 33 (0, 0) hg, Nat.zero_add]
    simpa using k1
theorem EvM.keep {w w' : World} {M : Nat} {vs vs' : Value} {A : Option Addr} {es : List (List UInt8)} (h : EvM w M vs A es) (hO : Only (fun k => vs.ownBlock = some k) w w') (hM : ∀ k, vs.ownBlock = some k → M ≤ k) (hMs : M ≤ w.heap.size) (ho : ∀ k, k < w.heap.size → vs.ownBlock ≠ some k → vs'.ownBlock ≠ some k) : EvM w' M vs' A es := fun hp => by
  obtain ⟨b, o, e, h1, h2, h3⟩ := h hp
  refine ⟨b, o, e, Nat.lt_of_lt_of_le h1 hO.size, ho b h1 h2, fun i hi => ?_⟩
  obtain ⟨A', c, k1, k2, k3, k4⟩ := h3 i hi
  refine ⟨A', c, by rw [World.cell?_of_block (a := ⟨b, o + i, none⟩) (hO.block b h1 h2)]; exact k1, k2, k3, fun hq => ?_⟩
  obtain ⟨b2, o2, e2, hb2, hj⟩ := k4 hq
  exact ⟨b2, o2, e2, hb2, fun j hjl => by rw [World.cell?_of_block (a := ⟨b2, o2 + j, none⟩) (hO.block b2 (by omega) (fun e => by have := hM b2 e; omega))]; exact hj j hjl⟩
/-- The cells of events. -/
theorem EvM.cells {w : World} {M : Nat} {vs : Value} {A : Option Addr} {rs : List (List UInt8)} (h : EvM w M vs A rs) : ∃ ecs : List Value, ecs.length = rs.length ∧ (0 < rs.length → ∃ ad, A = some ad ∧ ∀ j u, ecs[j]? = some u → w.cell? (ad.add j) = some u) ∧
    ∀ (i : Nat) (r : List UInt8), rs[i]? = some r → ∃ (A : Option Addr) (c : Nat), ecs[i]? = some (.slice A r.length c) ∧ r.length ≤ c ∧ c ≤ maxLen ∧ Bs w M A r := by
  rcases Nat.eq_zero_or_pos rs.length with h0 | h0
  · exact ⟨[], by rw [h0]; rfl, fun hp => by omega, fun i r hr => by have := (List.getElem?_eq_some_iff.1 hr).1; omega⟩
  obtain ⟨b, o, e, h1, h2, h3⟩ := h h0
  have hadd : ∀ k, (⟨b, o, none⟩ : Addr).add k = ⟨b, o + k, none⟩ := fun k => by unfold Addr.add; split <;> simp_all
  refine ⟨(List.range rs.length).map fun i => (w.cell? ⟨b, o + i, none⟩).getD undef, by simp, fun _ => ⟨_, e, fun j u hj => ?_⟩, fun i r hr => ?_⟩
  · rw [List.getElem?_map] at hj
    have hjl : j < rs.length := by
      rcases Nat.lt_or_ge j rs.length with h | h
      · exact h
      · rw [List.getElem?_eq_none (by simpa using h)] at hj; cases hj
    obtain ⟨A', c, k1, _⟩ := h3 j hjl
    rw [List.getElem?_eq_getElem (by simpa using hjl)] at hj
    simp only [List.getElem_range, Option.map_some, k1, Option.getD_some] at hj
    rw [hadd, k1]
    exact hj
  · have hil := (List.getElem?_eq_some_iff.1 hr).1
    obtain ⟨A', c, k1, k2, k3, k4⟩ := h3 i hil
    have hx : rs.getD i [] = r := by rw [List.getD_eq_getElem?_getD, hr]; rfl
    rw [hx] at k1 k2 k4
    refine ⟨A', c, ?_, k2, k3, k4⟩
    rw [List.getElem?_map, List.getElem?_eq_getElem (by simpa using hil)]
    simp [k1]

theorem RowsAt.evM {w : World} {B M : Nat} {vs : Value} {A : Option Addr} {es : List (List UInt8)} (h : RowsAt w B A es) (hM : B ≤ M) (hs : B ≤ w.heap.size) (ho : ∀ g, vs.ownBlock = some g → B ≤ g) : EvM w M vs A es := fun hp => by
  obtain ⟨b, o, e, hb, hc⟩ := h hp
  refine ⟨b, o, e, by omega, fun e' => by have := ho b e'; omega, fun i hi => ?_⟩
  obtain ⟨A', c, q1, q2, q3, q4⟩ := hc i hi
  exact ⟨A', c, q1, q2, q3, q4.more hM⟩

end Go.Proofs.Ytlfddijmanlneaa

namespace Go.Proofs.Ytlfddijmanlneaa
open Go.RowKit Go.Shelf
set_option linter.unusedVariables false
set_option linter.unusedSimpArgs false

theorem results_tmp3A {P : Program} {fn : Func} {p u v : Tmp} (h : fn.results = #[.tmp p, .tmp u, .tmp v]) (tmps : Array Value) (w : World) (x y z : Value) (hp : tmps.getD p undef = x) (hu : tmps.getD u undef = y) (hv : tmps.getD v undef = z) : (results fn tmps).run P w = .ok (.tuple #[x, y, z]) w := by
  have hp' : tmps[p]?.getD undef = x := by simpa using hp
  have hu' : tmps[u]?.getD undef = y := by simpa using hu
  have hv' : tmps[v]?.getD undef = z := by simpa using hv
  simp [results, h, hp', hu', hv', Sem.run_bind, Sem.run_pure, Result.andThen]
theorem RChk.nil (ep : Nat) (root : List UInt8) (bs : List (List UInt8)) (w w' : World) (hb : Below w.heap.size w w') (h : ∀ cs, ¬ ToldP ep root bs cs) : RChk ep root bs w (.returned (.tuple #[.slice none 0 0, .slice none 0 0, .bool false])) w' :=
  ⟨hb, .slice none 0 0, none, [], 0, false, [], w'.heap.size, rfl, hb.size, Nat.le_refl _, DRow.nil _ _, Nat.le_refl _, by unfold maxLen; omega, ⟨(fun hp => absurd hp (Nat.lt_irrefl 0)), (fun a e => by cases e)⟩, (fun h => by cases h), (fun _ => h), Nat.zero_le _, Nat.zero_le _⟩

set_option maxHeartbeats 4000000 in
set_option maxRecDepth 100000 in
theorem rchk_off (ep n : Nat) (hne : ep ≠ n) (hep : ep < 18446744073709551616) (root : List UInt8) (RL : List Value) (bs : List (List UInt8)) (hn : bs.length = n) (hn40 : n ≤ 40) (A : Option Addr) (c : Nat) (hc : n ≤ c) (hcm : c ≤ maxLen) (w : World) :
    Calls Try.prog 57 #[.int .u64 ep, .agg RL.toArray, .slice A n c] w (RChk ep root bs w) := by
  have hcm' : c ≤ 9223372036854775807 := by unfold maxLen at hcm; exact hcm
  have hw64 : IntKind.u64.wrap (n : Int) = (n : Int) := IntWalk.u64_in _ (by omega)
  have h1 : decide ((n : Int) = (ep : Int)) = false := decide_eq_false (by omega)
  have h2 : ((n : Int) == (ep : Int)) = false := by rw [beq_eq_false_iff_ne]; omega
  have h3 : decide (n = ep) = false := decide_eq_false (fun e => hne e.symm)
  have h4 : (n == ep) = false := by rw [beq_eq_false_iff_ne]; exact fun e => hne e.symm
  have Hno := Lib.hid (show ∀ cs, ¬ ToldP ep root bs cs from fun cs h => hne (by rw [← hn]; exact h.1.symm))
  have Hb := Lib.hid (show Below w.heap.size w (w.alloc (.cells RL.toArray 24)) from (Below.refl _ w).alloc (Nat.le_refl _) _)
  clear hn hne hcm
  go_enter Try.func57, Try.ntmps57
  go_wp2_with fail
  exact bodyPost_ret (results_tmp3A rfl _ _ (.slice none 0 0) (.slice none 0 0) (.bool false) rfl rfl rfl) rfl (RChk.nil _ _ _ _ _ Hb.out Hno.out)

set_option maxHeartbeats 4000000 in
set_option maxRecDepth 100000 in
theorem rchk_zero (root : List UInt8) (hr : root.length = 32) (RL : List Value) (hRL : RL = Lib.byteCells root) (A : Option Addr) (c : Nat) (hcm : c ≤ maxLen) (w : World) :
    Calls Try.prog 57 #[.int .u64 (0 : Nat), .agg RL.toArray, .slice A 0 c] w (RChk 0 root [] w) := by
  have hcm' : c ≤ 9223372036854775807 := by unfold maxLen at hcm; exact hcm
  have hRl : RL.length = 32 := by rw [hRL, Lib.byteCells_length, hr]
  have Hki := Lib.hid (show (Try.prog.info? 24).map (·.size) = some RL.length by rw [hRl]; exact digInfo)
  obtain ⟨ZL, hZL⟩ : ∃ z, z = Lib.byteCells (List.replicate 32 0) := ⟨_, rfl⟩
  have HZb := Lib.hid (show Try.prog.built 24 [] = some ZL.toArray by rw [hZL]; exact dig_b0)
  obtain ⟨r, hr0⟩ : ∃ r, decide (root = List.replicate 32 0) = r := ⟨_, rfl⟩
  have Heq := Lib.hid (fun w : World => show (Op.equalIn 10000 24 (.agg RL.toArray) (.agg ZL.toArray)).run Try.prog w = .ok r w by rw [dig_eqvC hr rfl hRL hZL w, hr0])
  have Hr := Lib.hid hr0
  obtain ⟨W0, hW0⟩ : ∃ z, z = w.alloc (.cells RL.toArray 24) := ⟨_, rfl⟩
  have hA0 : Arr W0 w.heap.size 24 RL := by rw [hW0]; exact Arr.new w _ _
  have HB := Lib.hid (show Below w.heap.size w W0.drew by rw [hW0]; exact ((Below.refl _ w).alloc (Nat.le_refl _) _).drew)
  have HW0 := Lib.hid hW0
  have hw0 : IntKind.u64.wrap (((0 : Nat) : Int)) = (0 : Int) := IntWalk.u64_in _ (by omega)
  clear hW0 hRL hZL hr0 hcm hRl
  go_enter Try.func57, Try.ntmps57
  go_upto_region 4 with fail
  try change Code.wp _ _ _ _ (w.alloc (.cells RL.toArray 24))
  rw [← HW0.out]
  go_wp2_with fail
  refine wp_region_held_drew (S := fun w' => Arr w' w.heap.size 24 RL) (by kernel_rfl) (show Arr W0.drew _ _ _ from hA0) (fun hHeld => ?_)
  refine anyH_take (i := 0) (v := .agg RL.toArray) (some 21) rfl rfl (by kernel_rfl) (by kernel_rfl) (by kernel_rfl) (fun _ _ _ h => h) (yieldsIf_load_mid (by rfl) 24 (.tmp 4) rfl w.heap.size 0 rfl RL _ (fun w' h => Arr.range h) Try.underlying24 rfl Hki.out) (by assumption) ?_
  simp only [Act.put, List.setIfInBounds_toArray, List.set_cons_zero, List.set_cons_succ]
  refine anyH_take (i := 1) (v := .agg ZL.toArray) (some 22) rfl rfl (by kernel_rfl) (by kernel_rfl) (by kernel_rfl) (fun _ _ _ h => h) (yieldsIf_build (by rfl) 24 #[] rfl [] rfl ZL.toArray HZb.out) (by assumption) ?_
  simp only [Act.put, List.setIfInBounds_toArray, List.set_cons_zero, List.set_cons_succ]
  refine anyH_take (i := 2) (v := .bool r) (some 23) rfl rfl (by kernel_rfl) (by kernel_rfl) (by kernel_rfl) (fun _ _ _ h => h) (Or.inl ⟨by rfl, fun w' hw => by (have he := Heq.out w'; go_simp)⟩) (by assumption) ?_
  simp only [Act.put, List.setIfInBounds_toArray, List.set_cons_zero, List.set_cons_succ]
  refine anyH_take (i := 3) (v := .slice none 0 0) (some 6) rfl rfl (by kernel_rfl) (by kernel_rfl) (by kernel_rfl) (fun _ _ _ h => h) (Or.inl ⟨by rfl, fun w' hw => by rfl⟩) (by assumption) ?_
  simp only [Act.put, List.setIfInBounds_toArray, List.set_cons_zero, List.set_cons_succ]
  refine anyH_take (i := 4) (v := .slice none 0 0) (some 7) rfl rfl (by kernel_rfl) (by kernel_rfl) (by kernel_rfl) (fun _ _ _ h => h) (Or.inl ⟨by rfl, fun w' hw => by rfl⟩) (by assumption) ?_
  simp only [Act.put, List.setIfInBounds_toArray, List.set_cons_zero, List.set_cons_succ]
  refine anyH_take (i := 5) (v := .bool r) (some 8) rfl rfl (by kernel_rfl) (by kernel_rfl) (by kernel_rfl) (fun _ _ _ h => h) (Or.inl ⟨by rfl, fun w' hw => by rfl⟩) (by assumption) ?_
  simp only [Act.put, List.setIfInBounds_toArray, List.set_cons_zero, List.set_cons_succ]
  refine wpAnyH_done (by kernel_rfl) ?_ _
  go_wp2_with fail
  refine bodyPost_ret (results_tmp3A rfl _ _ (.slice none 0 0) (.slice none 0 0) (.bool r) rfl rfl rfl) rfl ?_
  cases r with
  | false =>
    refine RChk.nil _ _ _ _ _ HB.out fun cs h => ?_
    have := (told_none.1 h).2
    exact absurd this (of_decide_eq_false Hr.out)
  | true =>
    have hz : root = List.replicate 32 0 := of_decide_eq_true Hr.out
    exact ⟨HB.out, .slice none 0 0, none, [], 0, true, [], W0.drew.heap.size, rfl, HB.out.size, Nat.le_refl _, DRow.nil _ _, Nat.le_refl _, by unfold maxLen; omega, ⟨(fun hp => absurd hp (Nat.lt_irrefl 0)), (fun a e => by cases e)⟩, (fun _ => ⟨[], told_none.2 ⟨rfl, hz⟩, rfl, rfl⟩), (fun h => by cases h), Nat.zero_le _, Nat.zero_le _⟩

set_option maxHeartbeats 16000000 in
set_option maxRecDepth 100000 in
theorem rchk_step (b : List UInt8) (t : List (List UInt8)) (n : Nat) (hn : t.length + 1 = n) (hn40 : n ≤ 40)
    (IH : ∀ (root : List UInt8) (RL : List Value) (A : Option Addr) (c : Nat) (w : World), root.length = 32 → RL = Lib.byteCells root → t.length ≤ c → c ≤ maxLen → RowsAt w w.heap.size A t → Calls Try.prog 57 #[.int .u64 (t.length : Nat), .agg RL.toArray, .slice A t.length c] w (RChk t.length root t w))
    (root : List UInt8) (hr : root.length = 32) (RL : List Value) (hRL : RL = Lib.byteCells root) (A : Option Addr) (c : Nat) (hc : n ≤ c) (hcm : c ≤ maxLen) (h3000 : ∀ x ∈ b :: t, x.length ≤ 3000) (w : World) (hrows : RowsAt w w.heap.size A (b :: t)) :
    Calls Try.prog 57 #[.int .u64 n, .agg RL.toArray, .slice A n c] w (RChk n root (b :: t) w) := by
  have hcm' : c ≤ 9223372036854775807 := by unfold maxLen at hcm; exact hcm
  have hw64 : IntKind.u64.wrap (n : Int) = (n : Int) := IntWalk.u64_in _ (by omega)
  have z1 : decide ((n : Int) = 0) = false := decide_eq_false (by omega)
  have z2 : ((n : Int) == 0) = false := by rw [beq_eq_false_iff_ne]; omega
  have z3 : decide (n = 0) = false := decide_eq_false (by omega)
  have n1 : ((n : Int) != (n : Int)) = false := by simp
  have hn1 : 0 < n := by omega
  have hRl : RL.length = 32 := by rw [hRL, Lib.byteCells_length, hr]
  have Hki := Lib.hid (show (Try.prog.info? 24).map (·.size) = some RL.length by rw [hRl]; exact digInfo)
  have Hrr := Lib.hid (show root.length = 32 ∧ RL = Lib.byteCells root from ⟨hr, hRL⟩)
  have Hn := Lib.hid hn
  have Hcm := Lib.hid hcm
  have H3 := Lib.hid h3000
  have Hih := Lib.hid IH
  obtain ⟨ba, oa, A1, c1, rfl, hba, hxc, hx1, hx2, hxb, hrt⟩ := hrows.atR
  obtain ⟨nx, hnx⟩ : ∃ z, z = b.length := ⟨_, rfl⟩
  rw [← hnx] at hxc hx1
  have hx3 : nx ≤ 3000 := by rw [hnx]; exact h3000 b (by simp)
  have Hnx := Lib.hid hnx
  have hm1 : c1 ≤ 9223372036854775807 := by unfold maxLen at hx2; exact hx2
  obtain ⟨W0, hW0⟩ : ∃ z, z = w.alloc (.cells RL.toArray 24) := ⟨_, rfl⟩
  have hA0 : Arr W0 w.heap.size 24 RL := by rw [hW0]; exact Arr.new w _ _
  have hB0 : Below w.heap.size w W0 := by rw [hW0]; exact (Below.refl _ w).alloc (Nat.le_refl _) _
  have hxc0 : W0.cell? ⟨ba, oa, none⟩ = some (.slice A1 nx c1) := (hB0.cell (p := ⟨ba, oa, none⟩) hba).trans hxc
  have Hxb := Lib.hid hxb
  have Hrt := Lib.hid hrt
  have HW0 := Lib.hid hW0
  have Hc1 := Lib.hid hx2
  obtain ⟨CZ, hCZ⟩ : ∃ z, z = comZ := ⟨_, rfl⟩
  have HCZ := Lib.hid (fun w : World => show (zeroValue 30).run Try.prog w = .ok (.agg CZ.toArray) w by rw [hCZ]; exact comZero w)
  have HCl := Lib.hid (show CZ.length = 137 by rw [hCZ]; rfl)
  clear hCZ hW0 hRL hRl hcm IH h3000 hrows hxb hrt hxc hr hx2 hnx hn
  go_enter Try.func57, Try.ntmps57
  go_upto_region 5 with fail
  try change Code.wp _ _ _ _ (w.alloc (.cells RL.toArray 24))
  rw [← HW0.out]
  go_wp2_with fail
  refine Calls.mono (rdec_low A1 nx c1 b Hnx.out.symm hx1 Hc1.out (by omega) W0 ((Hxb.out.below hB0 (Nat.le_refl _)).more hB0.size)) ?_
  rintro e w1 ⟨hb1, hdec⟩
  obtain ⟨x, er, rfl, hxw, hx⟩ : ∃ x er, e = .returned (.tuple #[.agg (comC x).toArray, .int .i64 er]) ∧ CxW x ∧ ((er = 0 ∧ (CxOk w1 w1.heap.size x ∧ ∀ a : Addr, x.Ae = some a → W0.heap.size ≤ a.block) ∧ IsDec b x.c ∧ Good b) ∨ (er = 3 ∧ ¬ Good b)) := by
    rcases hdec with ⟨x, h1, h2, h3, h4⟩ | ⟨h1, h2⟩
    · exact ⟨x, 0, h1, h2.1.w, .inl ⟨rfl, h2, h3, h4⟩⟩
    · exact ⟨zCx, 3, by rw [h1, comZ_zCx], zCx_w, .inr ⟨rfl, h2⟩⟩
  obtain ⟨XL, hXL⟩ : ∃ z, z = comC x := ⟨_, rfl⟩
  rw [← hXL]
  have hXl : XL.length = 137 := by rw [hXL]; exact hxw.length
  have HXi := Lib.hid (show (Try.prog.info? 30).map (·.size) = some XL.toArray.size ∧ CZ.toArray.size = XL.toArray.size by rw [List.size_toArray, List.size_toArray, hXl, HCl.out]; exact ⟨comSize, rfl⟩)
  have HX1 := Lib.hid (show XL.toArray.all (·.oneCell') = true by rw [hXL]; exact all_oneC (comC_one _))
  obtain ⟨w2, hw2⟩ : ∃ z, z = (w1.alloc (.cells CZ.toArray 30)).setRow w1.heap.size XL.toArray := ⟨_, rfl⟩
  obtain ⟨hX2, hb2⟩ := alloc_row w1 30 CZ.toArray XL
  rw [← hw2] at hX2 hb2
  have HW2 := Lib.hid hw2
  have hB1 := hB0.trans (hb1.mono hB0.size)
  have hB2 := hB1.trans (hb2.mono hB1.size)
  have hR2 : Arr w2 w.heap.size 24 RL := (hA0.up hb1).up hb2
  have hxc2 : w2.cell? ⟨ba, oa, none⟩ = some (.slice A1 nx c1) := (hb2.cell (p := ⟨ba, oa, none⟩) (by have := hB1.size; show ba < w1.heap.size; omega)).trans ((hb1.cell (p := ⟨ba, oa, none⟩) (by have := hB0.size; show ba < W0.heap.size; omega)).trans hxc0)
  have Hx := Lib.hid hx
  have Hb2 := Lib.hid hb2
  have hs1 : w.heap.size + 1 ≤ w1.heap.size := by have := hb1.size; have := hA0.lt; omega
  have Hw0 := Lib.hid (show w.heap.size ≤ W0.heap.size from hB0.size)
  have HB2 := Lib.hid hB2
  have HX := Lib.hid hXL
  have Hxw := Lib.hid hxw
  have hs2 : w1.heap.size < w2.heap.size := hX2.lt
  have her : er = 0 ∨ er = 3 := by rcases hx with ⟨h, _⟩ | ⟨h, _⟩; exact .inl h; exact .inr h
  clear hw2 hb1 hb2 hdec hx hXL hxw hA0 hB0 hxc0 hB1 hB2
  go_upto_region 6 with (first | ((with_reducible refine wpList_atA 9 (by rfl) ?_); refine wpList_allocZA rfl 30 rfl CZ.toArray (HCZ.out _) ?_) | (change wpList _ _ _ _ _ (w1.alloc (.cells CZ.toArray 30)); refine wpList_store_row rfl _ _ _ rfl w1.heap.size XL.toArray rfl rfl 30 CZ.toArray (heap_alloc_new w1 _) HXi.out.1 HXi.out.2 HX1.out ?_; rw [← HW2.out]))
  obtain ⟨g9, hg9⟩ : ∃ z, z = w1.heap.size := ⟨_, rfl⟩
  rw [← hg9] at hX2 hs2 ⊢
  have Hg9 := Lib.hid hg9
  have hs1' : w.heap.size + 1 ≤ g9 := by rw [hg9]; exact hs1
  clear hg9 hs1
  refine wp_region_held_drew (S := fun w' => Arr w' g9 30 XL ∧ Arr w' w.heap.size 24 RL ∧ w'.cell? ⟨ba, oa, none⟩ = some (.slice A1 nx c1)) (by kernel_rfl) ⟨show Arr w2.drew _ _ _ from hX2, show Arr w2.drew _ _ _ from hR2, hxc2⟩ (fun hHeld => ?_)
  obtain ⟨xe, hxe⟩ : ∃ z, z = x.c.ep := ⟨_, rfl⟩
  have HX0 := Lib.hid (show XL[0]? = some (.int .u64 xe) by rw [HX.out, hxe]; rfl)
  have Hxe := Lib.hid hxe
  have hxe64 : xe < 18446744073709551616 := by rw [hxe]; exact Hxw.out.ep
  clear hxe
  rcases her with rfl | rfl
  case inr =>
    refine anyH_take (i := 0) (v := .int .i64 3) (some 31) rfl rfl (by kernel_rfl) (by kernel_rfl) (by kernel_rfl) (fun _ _ _ h => h) (Or.inl ⟨by rfl, fun w' hw => by rfl⟩) (by assumption) ?_
    simp only [Act.put, List.setIfInBounds_toArray, List.set_cons_zero, List.set_cons_succ]
    refine anyH_take (i := 1) (v := .bool true) (some 32) rfl rfl (by kernel_rfl) (by kernel_rfl) (by kernel_rfl) (fun _ _ _ h => h) (Or.inl ⟨by rfl, fun w' hw => by go_simp⟩) (by assumption) ?_
    simp only [Act.put, List.setIfInBounds_toArray, List.set_cons_zero, List.set_cons_succ]
    refine anyH_take (i := 2) (v := .bool true) (some 33) rfl rfl (by kernel_rfl) (by kernel_rfl) (by kernel_rfl) (fun _ _ _ h => h) (Or.inl ⟨by rfl, fun w' hw => by rfl⟩) (by assumption) ?_
    simp only [Act.put, List.setIfInBounds_toArray, List.set_cons_zero, List.set_cons_succ]
    refine anyH_take (i := 3) (v := undef) (some 34) rfl rfl (by kernel_rfl) (by kernel_rfl) (by kernel_rfl) (fun _ _ _ h => h) (Or.inr ⟨by rfl, rfl⟩) (by assumption) ?_
    simp only [Act.put, List.setIfInBounds_toArray, List.set_cons_zero, List.set_cons_succ]
    refine anyH_take (i := 4) (v := undef) (some 35) rfl rfl (by kernel_rfl) (by kernel_rfl) (by kernel_rfl) (fun _ _ _ h => h) (Or.inr ⟨by rfl, rfl⟩) (by assumption) ?_
    simp only [Act.put, List.setIfInBounds_toArray, List.set_cons_zero, List.set_cons_succ]
    refine anyH_take (i := 5) (v := undef) (some 36) rfl rfl (by kernel_rfl) (by kernel_rfl) (by kernel_rfl) (fun _ _ _ h => h) (Or.inr ⟨by rfl, rfl⟩) (by assumption) ?_
    simp only [Act.put, List.setIfInBounds_toArray, List.set_cons_zero, List.set_cons_succ]
    refine anyH_take (i := 6) (v := undef) (some 37) rfl rfl (by kernel_rfl) (by kernel_rfl) (by kernel_rfl) (fun _ _ _ h => h) (Or.inr ⟨by rfl, rfl⟩) (by assumption) ?_
    simp only [Act.put, List.setIfInBounds_toArray, List.set_cons_zero, List.set_cons_succ]
    refine anyH_take (i := 7) (v := .bool true) (some 38) rfl rfl (by kernel_rfl) (by kernel_rfl) (by kernel_rfl) (fun _ _ _ h => h) (Or.inl ⟨by rfl, fun w' hw => by go_simp⟩) (by assumption) ?_
    simp only [Act.put, List.setIfInBounds_toArray, List.set_cons_zero, List.set_cons_succ]
    refine anyH_take (i := 8) (v := .bool true) (some 39) rfl rfl (by kernel_rfl) (by kernel_rfl) (by kernel_rfl) (fun _ _ _ h => h) (Or.inl ⟨by rfl, fun w' hw => by rfl⟩) (by assumption) ?_
    simp only [Act.put, List.setIfInBounds_toArray, List.set_cons_zero, List.set_cons_succ]
    refine anyH_take (i := 9) (v := undef) (some 40) rfl rfl (by kernel_rfl) (by kernel_rfl) (by kernel_rfl) (fun _ _ _ h => h) (Or.inr ⟨by rfl, rfl⟩) (by assumption) ?_
    simp only [Act.put, List.setIfInBounds_toArray, List.set_cons_zero, List.set_cons_succ]
    refine anyH_take (i := 10) (v := undef) (some 41) rfl rfl (by kernel_rfl) (by kernel_rfl) (by kernel_rfl) (fun _ _ _ h => h) (Or.inr ⟨by rfl, rfl⟩) (by assumption) ?_
    simp only [Act.put, List.setIfInBounds_toArray, List.set_cons_zero, List.set_cons_succ]
    refine anyH_take (i := 11) (v := undef) (some 42) rfl rfl (by kernel_rfl) (by kernel_rfl) (by kernel_rfl) (fun _ _ _ h => h) (Or.inr ⟨by rfl, rfl⟩) (by assumption) ?_
    simp only [Act.put, List.setIfInBounds_toArray, List.set_cons_zero, List.set_cons_succ]
    refine anyH_take (i := 12) (v := undef) (some 43) rfl rfl (by kernel_rfl) (by kernel_rfl) (by kernel_rfl) (fun _ _ _ h => h) (Or.inr ⟨by rfl, rfl⟩) (by assumption) ?_
    simp only [Act.put, List.setIfInBounds_toArray, List.set_cons_zero, List.set_cons_succ]
    refine anyH_take (i := 13) (v := undef) (some 44) rfl rfl (by kernel_rfl) (by kernel_rfl) (by kernel_rfl) (fun _ _ _ h => h) (Or.inr ⟨by rfl, rfl⟩) (by assumption) ?_
    simp only [Act.put, List.setIfInBounds_toArray, List.set_cons_zero, List.set_cons_succ]
    refine anyH_take (i := 14) (v := undef) (some 45) rfl rfl (by kernel_rfl) (by kernel_rfl) (by kernel_rfl) (fun _ _ _ h => h) (Or.inr ⟨by rfl, rfl⟩) (by assumption) ?_
    simp only [Act.put, List.setIfInBounds_toArray, List.set_cons_zero, List.set_cons_succ]
    refine anyH_take (i := 15) (v := undef) (some 46) rfl rfl (by kernel_rfl) (by kernel_rfl) (by kernel_rfl) (fun _ _ _ h => h) (Or.inr ⟨by rfl, rfl⟩) (by assumption) ?_
    simp only [Act.put, List.setIfInBounds_toArray, List.set_cons_zero, List.set_cons_succ]
    refine anyH_take (i := 16) (v := .bool true) (some 47) rfl rfl (by kernel_rfl) (by kernel_rfl) (by kernel_rfl) (fun _ _ _ h => h) (Or.inl ⟨by rfl, fun w' hw => by go_simp⟩) (by assumption) ?_
    simp only [Act.put, List.setIfInBounds_toArray, List.set_cons_zero, List.set_cons_succ]
    refine wpAnyH_done (by kernel_rfl) ?_ _
    go_wp2_with fail
    refine bodyPost_ret (results_tmp3A rfl _ _ (.slice none 0 0) (.slice none 0 0) (.bool false) rfl rfl rfl) rfl ?_
    refine RChk.nil _ _ _ _ _ (show Below w.heap.size w w2.drew from HB2.out.drew) fun cs h => ?_
    have hng : ¬ Good b := by rcases Hx.out with ⟨h, _⟩ | ⟨_, h⟩; exact absurd h (by omega); exact h
    cases cs with
    | nil => exact h.2.1.elim
    | cons d ds => exact hng h.2.1.1.2.1
  case inl =>
    have hx0 := Lib.hid (show (CxOk w1 w1.heap.size x ∧ ∀ a : Addr, x.Ae = some a → W0.heap.size ≤ a.block) ∧ IsDec b x.c ∧ Good b by rcases Hx.out with ⟨_, h⟩ | ⟨h, _⟩; exact h; exact absurd h (by omega))
    refine anyH_take (i := 0) (v := .int .i64 0) (some 31) rfl rfl (by kernel_rfl) (by kernel_rfl) (by kernel_rfl) (fun _ _ _ h => h) (Or.inl ⟨by rfl, fun w' hw => by rfl⟩) (by assumption) ?_
    simp only [Act.put, List.setIfInBounds_toArray, List.set_cons_zero, List.set_cons_succ]
    refine anyH_take (i := 1) (v := .bool false) (some 32) rfl rfl (by kernel_rfl) (by kernel_rfl) (by kernel_rfl) (fun _ _ _ h => h) (Or.inl ⟨by rfl, fun w' hw => by go_simp⟩) (by assumption) ?_
    simp only [Act.put, List.setIfInBounds_toArray, List.set_cons_zero, List.set_cons_succ]
    refine anyH_take (i := 2) (v := .bool false) (some 33) rfl rfl (by kernel_rfl) (by kernel_rfl) (by kernel_rfl) (fun _ _ _ h => h) (Or.inl ⟨by rfl, fun w' hw => by rfl⟩) (by assumption) ?_
    simp only [Act.put, List.setIfInBounds_toArray, List.set_cons_zero, List.set_cons_succ]
    by_cases hep : xe = n
    case neg =>
      have q1 : decide ((xe : Int) = (n : Int)) = false := decide_eq_false (by omega)
      have q2 : ((xe : Int) == (n : Int)) = false := by rw [beq_eq_false_iff_ne]; omega
      have q3 : decide (xe = n) = false := decide_eq_false hep
      have q4 : (xe == n) = false := by rw [beq_eq_false_iff_ne]; exact hep
      have q5 : ((xe : Int) != (n : Int)) = true := by simp; omega
      refine anyH_take (i := 3) (v := .pointer (some ⟨g9, 0, none⟩)) (some 34) rfl rfl (by kernel_rfl) (by kernel_rfl) (by kernel_rfl) (fun _ _ _ h => h) (Or.inl ⟨by rfl, fun w' hw => by go_simp⟩) (by assumption) ?_
      simp only [Act.put, List.setIfInBounds_toArray, List.set_cons_zero, List.set_cons_succ]
      refine anyH_take (i := 4) (v := .int .u64 xe) (some 35) rfl rfl (by kernel_rfl) (by kernel_rfl) (by kernel_rfl) (fun _ _ _ h => h) (Or.inl ⟨by rfl, fun w' hw => by (have hc := (hw.1.cell 0).trans HX0.out; go_simp)⟩) (by assumption) ?_
      simp only [Act.put, List.setIfInBounds_toArray, List.set_cons_zero, List.set_cons_succ]
      refine anyH_take (i := 5) (v := .int .u64 n) (some 36) rfl rfl (by kernel_rfl) (by kernel_rfl) (by kernel_rfl) (fun _ _ _ h => h) (Or.inl ⟨by rfl, fun w' hw => by rfl⟩) (by assumption) ?_
      simp only [Act.put, List.setIfInBounds_toArray, List.set_cons_zero, List.set_cons_succ]
      refine anyH_take (i := 6) (v := .bool true) (some 37) rfl rfl (by kernel_rfl) (by kernel_rfl) (by kernel_rfl) (fun _ _ _ h => h) (Or.inl ⟨by rfl, fun w' hw => by go_simp⟩) (by assumption) ?_
      simp only [Act.put, List.setIfInBounds_toArray, List.set_cons_zero, List.set_cons_succ]
      refine anyH_take (i := 7) (v := .bool true) (some 38) rfl rfl (by kernel_rfl) (by kernel_rfl) (by kernel_rfl) (fun _ _ _ h => h) (Or.inl ⟨by rfl, fun w' hw => by go_simp⟩) (by assumption) ?_
      simp only [Act.put, List.setIfInBounds_toArray, List.set_cons_zero, List.set_cons_succ]
      refine anyH_take (i := 8) (v := .bool true) (some 39) rfl rfl (by kernel_rfl) (by kernel_rfl) (by kernel_rfl) (fun _ _ _ h => h) (Or.inl ⟨by rfl, fun w' hw => by rfl⟩) (by assumption) ?_
      simp only [Act.put, List.setIfInBounds_toArray, List.set_cons_zero, List.set_cons_succ]
      refine anyH_take (i := 9) (v := undef) (some 40) rfl rfl (by kernel_rfl) (by kernel_rfl) (by kernel_rfl) (fun _ _ _ h => h) (Or.inr ⟨by rfl, rfl⟩) (by assumption) ?_
      simp only [Act.put, List.setIfInBounds_toArray, List.set_cons_zero, List.set_cons_succ]
      refine anyH_take (i := 10) (v := undef) (some 41) rfl rfl (by kernel_rfl) (by kernel_rfl) (by kernel_rfl) (fun _ _ _ h => h) (Or.inr ⟨by rfl, rfl⟩) (by assumption) ?_
      simp only [Act.put, List.setIfInBounds_toArray, List.set_cons_zero, List.set_cons_succ]
      refine anyH_take (i := 11) (v := undef) (some 42) rfl rfl (by kernel_rfl) (by kernel_rfl) (by kernel_rfl) (fun _ _ _ h => h) (Or.inr ⟨by rfl, rfl⟩) (by assumption) ?_
      simp only [Act.put, List.setIfInBounds_toArray, List.set_cons_zero, List.set_cons_succ]
      refine anyH_take (i := 12) (v := undef) (some 43) rfl rfl (by kernel_rfl) (by kernel_rfl) (by kernel_rfl) (fun _ _ _ h => h) (Or.inr ⟨by rfl, rfl⟩) (by assumption) ?_
      simp only [Act.put, List.setIfInBounds_toArray, List.set_cons_zero, List.set_cons_succ]
      refine anyH_take (i := 13) (v := undef) (some 44) rfl rfl (by kernel_rfl) (by kernel_rfl) (by kernel_rfl) (fun _ _ _ h => h) (Or.inr ⟨by rfl, rfl⟩) (by assumption) ?_
      simp only [Act.put, List.setIfInBounds_toArray, List.set_cons_zero, List.set_cons_succ]
      refine anyH_take (i := 14) (v := undef) (some 45) rfl rfl (by kernel_rfl) (by kernel_rfl) (by kernel_rfl) (fun _ _ _ h => h) (Or.inr ⟨by rfl, rfl⟩) (by assumption) ?_
      simp only [Act.put, List.setIfInBounds_toArray, List.set_cons_zero, List.set_cons_succ]
      refine anyH_take (i := 15) (v := undef) (some 46) rfl rfl (by kernel_rfl) (by kernel_rfl) (by kernel_rfl) (fun _ _ _ h => h) (Or.inr ⟨by rfl, rfl⟩) (by assumption) ?_
      simp only [Act.put, List.setIfInBounds_toArray, List.set_cons_zero, List.set_cons_succ]
      refine anyH_take (i := 16) (v := .bool true) (some 47) rfl rfl (by kernel_rfl) (by kernel_rfl) (by kernel_rfl) (fun _ _ _ h => h) (Or.inl ⟨by rfl, fun w' hw => by go_simp⟩) (by assumption) ?_
      simp only [Act.put, List.setIfInBounds_toArray, List.set_cons_zero, List.set_cons_succ]
      refine wpAnyH_done (by kernel_rfl) ?_ _
      go_wp2_with fail
      refine bodyPost_ret (results_tmp3A rfl _ _ (.slice none 0 0) (.slice none 0 0) (.bool false) rfl rfl rfl) rfl ?_
      refine RChk.nil _ _ _ _ _ (show Below w.heap.size w w2.drew from HB2.out.drew) fun cs h => ?_
      cases cs with
      | nil => exact h.2.1.elim
      | cons d ds =>
        obtain ⟨l1, l2, l3, l4⟩ := h.2.1.1
        have := dec_one l1 hx0.out.2.1
        rw [this, ← Hxe.out] at l3
        exact hep l3
    case pos =>
      subst hep
      refine anyH_take (i := 3) (v := .pointer (some ⟨g9, 0, none⟩)) (some 34) rfl rfl (by kernel_rfl) (by kernel_rfl) (by kernel_rfl) (fun _ _ _ h => h) (Or.inl ⟨by rfl, fun w' hw => by go_simp⟩) (by assumption) ?_
      simp only [Act.put, List.setIfInBounds_toArray, List.set_cons_zero, List.set_cons_succ]
      refine anyH_take (i := 4) (v := .int .u64 xe) (some 35) rfl rfl (by kernel_rfl) (by kernel_rfl) (by kernel_rfl) (fun _ _ _ h => h) (Or.inl ⟨by rfl, fun w' hw => by (have hc := (hw.1.cell 0).trans HX0.out; go_simp)⟩) (by assumption) ?_
      simp only [Act.put, List.setIfInBounds_toArray, List.set_cons_zero, List.set_cons_succ]
      refine anyH_take (i := 5) (v := .int .u64 xe) (some 36) rfl rfl (by kernel_rfl) (by kernel_rfl) (by kernel_rfl) (fun _ _ _ h => h) (Or.inl ⟨by rfl, fun w' hw => by rfl⟩) (by assumption) ?_
      simp only [Act.put, List.setIfInBounds_toArray, List.set_cons_zero, List.set_cons_succ]
      refine anyH_take (i := 6) (v := .bool false) (some 37) rfl rfl (by kernel_rfl) (by kernel_rfl) (by kernel_rfl) (fun _ _ _ h => h) (Or.inl ⟨by rfl, fun w' hw => by go_simp⟩) (by assumption) ?_
      simp only [Act.put, List.setIfInBounds_toArray, List.set_cons_zero, List.set_cons_succ]
      refine anyH_take (i := 7) (v := .bool false) (some 38) rfl rfl (by kernel_rfl) (by kernel_rfl) (by kernel_rfl) (fun _ _ _ h => h) (Or.inl ⟨by rfl, fun w' hw => by go_simp⟩) (by assumption) ?_
      simp only [Act.put, List.setIfInBounds_toArray, List.set_cons_zero, List.set_cons_succ]
      refine anyH_take (i := 8) (v := .bool false) (some 39) rfl rfl (by kernel_rfl) (by kernel_rfl) (by kernel_rfl) (fun _ _ _ h => h) (Or.inl ⟨by rfl, fun w' hw => by rfl⟩) (by assumption) ?_
      simp only [Act.put, List.setIfInBounds_toArray, List.set_cons_zero, List.set_cons_succ]
      refine anyH_take (i := 9) (v := .slice (some ⟨ba, oa, none⟩) xe c) (some 40) rfl rfl (by kernel_rfl) (by kernel_rfl) (by kernel_rfl) (fun _ _ _ h => h) (Or.inl ⟨by rfl, fun w' hw => by rfl⟩) (by assumption) ?_
      simp only [Act.put, List.setIfInBounds_toArray, List.set_cons_zero, List.set_cons_succ]
      refine anyH_take (i := 10) (v := .pointer (some ⟨ba, oa, none⟩)) (some 41) rfl rfl (by kernel_rfl) (by kernel_rfl) (by kernel_rfl) (fun _ _ _ h => h) (Or.inl ⟨by rfl, fun w' hw => by go_simp⟩) (by assumption) ?_
      simp only [Act.put, List.setIfInBounds_toArray, List.set_cons_zero, List.set_cons_succ]
      refine anyH_take (i := 11) (v := .slice A1 nx c1) (some 42) rfl rfl (by kernel_rfl) (by kernel_rfl) (by kernel_rfl) (fun _ _ _ h => h) (Or.inl ⟨by rfl, fun w' hw => by (have hc := hw.2.2; go_simp)⟩) (by assumption) ?_
      simp only [Act.put, List.setIfInBounds_toArray, List.set_cons_zero, List.set_cons_succ]
      refine anyH_take (i := 14) (v := .agg RL.toArray) (some 45) rfl rfl (by kernel_rfl) (by kernel_rfl) (by kernel_rfl) (fun _ _ _ h => h) (yieldsIf_load_mid (by rfl) 24 (.tmp 4) rfl w.heap.size 0 rfl RL _ (fun w' h => Arr.range h.2.1) Try.underlying24 rfl Hki.out) (by assumption) ?_
      simp only [Act.put, List.setIfInBounds_toArray, List.set_cons_zero, List.set_cons_succ]
      obtain ⟨F1, hF1⟩ : ∃ z, z = refC (blobDig b) (0 : Nat) nx := ⟨_, rfl⟩
      obtain ⟨D1, hD1⟩ : ∃ z, z = Lib.byteCells (blobDig b) := ⟨_, rfl⟩
      have hfd1 : ∀ w, (Instr.field 26 (.agg F1.toArray) 0).run Try.prog w = .ok (.agg D1.toArray) w := fun w => ref_field0 (blobDig_length _) _ _ F1 D1 hF1 hD1 w
      obtain ⟨q, hq⟩ : ∃ q, decide (blobDig b = root) = q := ⟨_, rfl⟩
      have Hdq := Lib.hid (fun w : World => show (Op.equalIn 10000 24 (.agg D1.toArray) (.agg RL.toArray)).run Try.prog w = .ok q w by rw [dig_eqvC (blobDig_length _) Hrr.out.1 hD1 Hrr.out.2 w, hq])
      have Hq := Lib.hid hq
      have HO1 := Lib.hid (rof_any 0 b F1 A1 nx c1 w2.drew Hnx.out.symm (by omega) hx1 Hc1.out ((Hxb.out.below HB2.out.drew (Nat.le_refl _)).more HB2.out.drew.size) (by omega) (by omega) hF1)
      clear hF1 hD1 hq
      refine wpAnyH_ready (rs := [12]) (by kernel_rfl) (by simp) ?_
      refine AllReadyH.cons rfl (fun K hK => ?_) AllReadyH.nil
      go_simp
      go_at_call 16
      refine Calls.mono HO1.out ?_
      rintro e w3 ⟨rfl, hb3⟩
      have hX3 : Arr w3 g9 30 XL := (show Arr w2.drew g9 30 XL from hX2).up hb3
      have hR3 : Arr w3 w.heap.size 24 RL := (show Arr w2.drew w.heap.size 24 RL from hR2).up hb3
      have hxc3 : w3.cell? ⟨ba, oa, none⟩ = some (.slice A1 nx c1) := (hb3.cell (p := ⟨ba, oa, none⟩) (by show ba < w2.heap.size; omega)).trans hxc2
      have HB3 := Lib.hid (show Below w.heap.size w w3 from HB2.out.drew.trans (hb3.mono HB2.out.drew.size))
      have HB23 := Lib.hid (show Below w2.heap.size w2 w3 from (Below.refl w2.heap.size w2).drew.trans hb3)
      have hs3 : w2.heap.size ≤ w3.heap.size := hb3.size
      go_wp2_with fail
      refine hK.out _ _ ⟨hX3, hR3, hxc3⟩ (fun hHeldx => ?_)
      clear hK K HO1
      try simp only [Act.put, List.setIfInBounds_toArray, List.set_cons_zero, List.set_cons_succ]
      refine anyH_take (i := 13) (v := .agg D1.toArray) (some 44) rfl rfl (by kernel_rfl) (by kernel_rfl) (by kernel_rfl) (fun _ _ _ h => h) (Or.inl ⟨by rfl, fun w' hw => by go_simp⟩) (by assumption) ?_
      simp only [Act.put, List.setIfInBounds_toArray, List.set_cons_zero, List.set_cons_succ]
      refine anyH_take (i := 15) (v := .bool (!q)) (some 46) rfl rfl (by kernel_rfl) (by kernel_rfl) (by kernel_rfl) (fun _ _ _ h => h) (Or.inl ⟨by rfl, fun w' hw => by (have hd := Hdq.out w'; go_simp)⟩) (by assumption) ?_
      simp only [Act.put, List.setIfInBounds_toArray, List.set_cons_zero, List.set_cons_succ]
      refine anyH_take (i := 16) (v := .bool (!q)) (some 47) rfl rfl (by kernel_rfl) (by kernel_rfl) (by kernel_rfl) (fun _ _ _ h => h) (Or.inl ⟨by rfl, fun w' hw => by go_simp⟩) (by assumption) ?_
      simp only [Act.put, List.setIfInBounds_toArray, List.set_cons_zero, List.set_cons_succ]
      refine wpAnyH_done (by kernel_rfl) ?_ _
      cases q with
      | false =>
        go_wp2_with fail
        refine bodyPost_ret (results_tmp3A rfl _ _ (.slice none 0 0) (.slice none 0 0) (.bool false) rfl rfl rfl) rfl ?_
        refine RChk.nil _ _ _ _ _ HB3.out fun cs h => ?_
        cases cs with
        | nil => exact h.2.1.elim
        | cons d ds =>
          have := h.2.1.1.2.2.2
          exact absurd this (of_decide_eq_false Hq.out)
      | true =>
        have Hlk := Lib.hid (show LinkP xe root b x.c from ⟨hx0.out.2.1, hx0.out.2.2, Hxe.out.symm, of_decide_eq_true Hq.out⟩)
        have Hel := Lib.hid (show x.c.evs.length ≤ 3000 from Nat.le_trans (evs_le hx0.out.2.1 hx0.out.2.2) (by rw [← Hnx.out]; exact hx3))
        clear Hq Hdq hfd1 hHeldx hHeld
        obtain ⟨SL, hSL⟩ : ∃ z, z = Lib.byteCells x.c.st := ⟨_, rfl⟩
        have hSl : SL.length = 32 := by rw [hSL, Lib.byteCells_length]; exact Hxw.out.st
        have HSi := Lib.hid (show (Try.prog.info? 24).map (·.size) = some SL.length by rw [hSl]; exact digInfo)
        have Hcom := Lib.hid (fun (w' : World) (h : Arr w' g9 30 XL) => Arr.com (HX.out ▸ h) (rC_length Hxw.out.r1) (rC_length Hxw.out.r2) (rC_length Hxw.out.r3) (by rw [Lib.byteCells_length, Hxw.out.st]))
        have Hst := Lib.hid (fun (w' : World) (h : Arr w' g9 30 XL) => show w'.rangeAt g9 104 SL by rw [hSL]; exact (Hcom.out w' h).st)
        have Hec := Lib.hid (fun (w' : World) (h : Arr w' g9 30 XL) => show w'.cell? ⟨g9, 136, none⟩ = some (.slice x.Ae x.c.evs.length x.ce) from (Hcom.out w' h).evs)
        obtain ⟨PL, hPL⟩ : ∃ z, z = rC x.c.r1 := ⟨_, rfl⟩
        have hPl : PL.length = 34 := by rw [hPL]; exact rC_length Hxw.out.r1
        have Hr1 := Lib.hid (fun (w' : World) (h : Arr w' g9 30 XL) => show w'.rangeAt g9 1 PL by rw [hPL]; exact (Hcom.out w' h).r1)
        have HPi := Lib.hid (show (Try.prog.info? 26).map (·.size) = some PL.length by rw [hPl]; exact refSize)
        have HPL := Lib.hid hPL
        have HSL := Lib.hid hSL
        have hw12 : w1.heap.size ≤ w2.heap.size := Hb2.out.size
        have Hev3 := Lib.hid (show RowsAt w3 w1.heap.size x.Ae x.c.evs from (hx0.out.1.1.evs.below Hb2.out (Nat.le_refl _)).below HB23.out hw12)
        clear hPL hSL Hcom hPl
        by_cases h1 : xe = 1
        case pos =>
          subst h1
          obtain ⟨ZL, hZL⟩ : ∃ z, z = refZ := ⟨_, rfl⟩
          have HZb := Lib.hid (show Try.prog.built 26 [] = some ZL.toArray by rw [hZL]; kernel_rfl)
          obtain ⟨rz, hrz1, hrz2⟩ := refs_eqv_all Hxw.out.r1.d (show zR.d.length = 32 from rfl) HPL.out (show ZL = rC zR by rw [hZL]; rfl)
          have Hrz1 := Lib.hid hrz1
          have Hrz2 := Lib.hid hrz2
          have Ht := Lib.hid (show t = [] from List.eq_nil_of_length_eq_zero (by have := Hn.out; omega))
          clear hrz1 hrz2 hZL
          go_wp2_with fail
          refine wp_region_held_drew (S := fun w' => Arr w' g9 30 XL) (by kernel_rfl) (show Arr w3.drew _ _ _ from hX3) (fun hHeld => ?_)
          refine anyH_take (i := 0) (v := .pointer (some ⟨g9, 104, none⟩)) (some 50) rfl rfl (by kernel_rfl) (by kernel_rfl) (by kernel_rfl) (fun _ _ _ h => h) (Or.inl ⟨by rfl, fun w' hw => by go_simp⟩) (by assumption) ?_
          simp only [Act.put, List.setIfInBounds_toArray, List.set_cons_zero, List.set_cons_succ]
          refine anyH_take (i := 1) (v := .agg SL.toArray) (some 51) rfl rfl (by kernel_rfl) (by kernel_rfl) (by kernel_rfl) (fun _ _ _ h => h) (yieldsIf_load_mid (by rfl) 24 (.tmp 50) rfl g9 104 rfl SL _ (fun w' h => Hst.out _ h) Try.underlying24 rfl HSi.out) (by assumption) ?_
          simp only [Act.put, List.setIfInBounds_toArray, List.set_cons_zero, List.set_cons_succ]
          refine anyH_take (i := 3) (v := .pointer (some ⟨g9, 136, none⟩)) (some 53) rfl rfl (by kernel_rfl) (by kernel_rfl) (by kernel_rfl) (fun _ _ _ h => h) (Or.inl ⟨by rfl, fun w' hw => by go_simp⟩) (by assumption) ?_
          simp only [Act.put, List.setIfInBounds_toArray, List.set_cons_zero, List.set_cons_succ]
          refine anyH_take (i := 4) (v := .slice x.Ae x.c.evs.length x.ce) (some 54) rfl rfl (by kernel_rfl) (by kernel_rfl) (by kernel_rfl) (fun _ _ _ h => h) (Or.inl ⟨by rfl, fun w' hw => by (have hc := Hec.out _ hw; go_simp)⟩) (by assumption) ?_
          simp only [Act.put, List.setIfInBounds_toArray, List.set_cons_zero, List.set_cons_succ]
          refine anyH_take (i := 5) (v := .pointer (some ⟨g9, 1, none⟩)) (some 55) rfl rfl (by kernel_rfl) (by kernel_rfl) (by kernel_rfl) (fun _ _ _ h => h) (Or.inl ⟨by rfl, fun w' hw => by go_simp⟩) (by assumption) ?_
          simp only [Act.put, List.setIfInBounds_toArray, List.set_cons_zero, List.set_cons_succ]
          refine anyH_take (i := 6) (v := .agg PL.toArray) (some 56) rfl rfl (by kernel_rfl) (by kernel_rfl) (by kernel_rfl) (fun _ _ _ h => h) (yieldsIf_load_mid (by rfl) 26 (.tmp 55) rfl g9 1 rfl PL _ (fun w' h => Hr1.out _ h) Try.underlying26 rfl HPi.out) (by assumption) ?_
          simp only [Act.put, List.setIfInBounds_toArray, List.set_cons_zero, List.set_cons_succ]
          refine anyH_take (i := 7) (v := .agg ZL.toArray) (some 57) rfl rfl (by kernel_rfl) (by kernel_rfl) (by kernel_rfl) (fun _ _ _ h => h) (yieldsIf_build (by rfl) 26 #[] rfl [] rfl ZL.toArray HZb.out) (by assumption) ?_
          simp only [Act.put, List.setIfInBounds_toArray, List.set_cons_zero, List.set_cons_succ]
          refine anyH_take (i := 8) (v := .bool rz) (some 58) rfl rfl (by kernel_rfl) (by kernel_rfl) (by kernel_rfl) (fun _ _ _ h => h) (yieldsIf_eqlA (by rfl) 26 _ _ _ rfl PL ZL rfl rfl rz Hrz1.out gtR) (by assumption) ?_
          simp only [Act.put, List.setIfInBounds_toArray, List.set_cons_zero, List.set_cons_succ]
          refine wpAnyH_ready (rs := [2]) (by kernel_rfl) (by simp) ?_
          refine AllReadyH.cons rfl (fun K hK => ?_) AllReadyH.nil
          rw [if_pos (by rfl)]
          refine wp_build_dig (some 52) rfl _ rfl SL hSl rfl ?_
          obtain ⟨w4, hw4⟩ : ∃ z, z = w3.drew.alloc (.cells SL.toArray 24) := ⟨_, rfl⟩
          rw [← hw4]
          have hb4 : Below w3.heap.size w3 w4 := by rw [hw4]; exact ((Below.refl w3.heap.size w3).drew).alloc (Nat.le_refl _) _
          have hD4 : Arr w4 w3.heap.size 24 (Lib.byteCells x.c.st) := by rw [hw4, ← HSL.out]; exact Arr.new w3.drew _ _
          refine hK.out _ _ (hX3.up hb4) (fun hHeldx => ?_)
          clear hK K hw4
          try simp only [Act.put, List.setIfInBounds_toArray, List.set_cons_zero, List.set_cons_succ]
          refine anyH_take (i := 9) (v := .slice (some ⟨w3.heap.size, 0, none⟩) 1 1) (some 6) rfl rfl (by kernel_rfl) (by kernel_rfl) (by kernel_rfl) (fun _ _ _ h => h) (Or.inl ⟨by rfl, fun w' hw => by rfl⟩) (by assumption) ?_
          simp only [Act.put, List.setIfInBounds_toArray, List.set_cons_zero, List.set_cons_succ]
          refine anyH_take (i := 10) (v := .slice x.Ae x.c.evs.length x.ce) (some 7) rfl rfl (by kernel_rfl) (by kernel_rfl) (by kernel_rfl) (fun _ _ _ h => h) (Or.inl ⟨by rfl, fun w' hw => by rfl⟩) (by assumption) ?_
          simp only [Act.put, List.setIfInBounds_toArray, List.set_cons_zero, List.set_cons_succ]
          refine anyH_take (i := 11) (v := .bool rz) (some 8) rfl rfl (by kernel_rfl) (by kernel_rfl) (by kernel_rfl) (fun _ _ _ h => h) (Or.inl ⟨by rfl, fun w' hw => by rfl⟩) (by assumption) ?_
          simp only [Act.put, List.setIfInBounds_toArray, List.set_cons_zero, List.set_cons_succ]
          refine wpAnyH_done (by kernel_rfl) ?_ _
          go_wp2_with fail
          refine bodyPost_ret (results_tmp3A rfl _ _ (.slice (some ⟨w3.heap.size, 0, none⟩) 1 1) (.slice x.Ae x.c.evs.length x.ce) (.bool rz) rfl rfl rfl) rfl ?_
          have hs4 := hb4.size
          have hs03 := HB3.out.size
          refine ⟨HB3.out.trans (hb4.mono HB3.out.size), _, x.Ae, x.c.evs, x.ce, rz, [x.c.st], w3.heap.size, rfl, hs03, hs4, DRow.oneR hD4 Hxw.out.st (Nat.le_refl _), Hxw.out.le, Hxw.out.me, ⟨(Hev3.out.below hb4 (by omega)).evM (by omega) (by omega) (fun g hg => by simp [Value.ownBlock] at hg; omega), fun a ha => Nat.le_trans Hw0.out (hx0.out.1.2 a ha)⟩, ?_, ?_, by simp, by have := Hel.out; simp; omega⟩
          · intro h
            refine ⟨[x.c], ?_, rfl, by simp⟩
            rw [Ht.out]
            exact (told_one Hlk.out).2 (Hrz2.out.1 h)
          · intro h cs hcs
            rw [Ht.out] at hcs
            have := ((told_one Hlk.out).1 cs hcs).2
            exact absurd (Hrz2.out.2 this) (by rw [h]; simp)
        case neg =>
          have e1 : decide ((xe : Int) = 1) = false := decide_eq_false (by omega)
          have e2 : ((xe : Int) == 1) = false := by rw [beq_eq_false_iff_ne]; omega
          have e3 : decide (xe = 1) = false := decide_eq_false h1
          obtain ⟨DL, hDL⟩ : ∃ z, z = Lib.byteCells x.c.r1.d := ⟨_, rfl⟩
          have hDl : DL.length = 32 := by rw [hDL, Lib.byteCells_length]; exact Hxw.out.r1.d
          have HDi := Lib.hid (show (Try.prog.info? 24).map (·.size) = some DL.length by rw [hDl]; exact digInfo)
          have HDr := Lib.hid (fun (w' : World) (h : Arr w' g9 30 XL) => show w'.rangeAt g9 1 DL from fun j v hj => by
            refine Hr1.out w' h j v ?_
            rw [HPL.out]
            unfold rC refC
            rw [← hDL, List.getElem?_append_left (List.getElem?_eq_some_iff.1 hj).1]
            exact hj)
          have HDL := Lib.hid hDL
          obtain ⟨tl, htl⟩ : ∃ z, z = t.length := ⟨_, rfl⟩
          have Htl := Lib.hid htl
          have hxt : xe = tl + 1 := by have := Hn.out; omega
          have H64 := Lib.hid (show IntKind.u64.wrap ((xe : Int) - 1) = (tl : Int) by rw [IntWalk.u64_in _ (by omega)]; omega)
          have hfr : ∀ w', (Instr.sliceAt 28 (.slice (some ⟨ba, oa, none⟩) xe c) (some (.int .i64 1)) none none).run Try.prog w' = .ok (.slice (some ⟨ba, oa + 1, none⟩) tl (c - 1)) w' := fun w' => by
            rw [run_from 28 Try.underlying28 (by kernel_rfl) _ xe c 1 .i64 1 rfl (by omega) w', show xe - 1 = tl by omega]
            unfold cutA
            rw [if_neg (by omega)]
            simp [Addr.add]
          have HIH := Lib.hid (Hih.out x.c.r1.d DL (some ⟨ba, oa + 1, none⟩) (c - 1) w3.drew Hxw.out.r1.d hDL (by omega) (by have := Hcm.out; omega) ((Hrt.out.below HB3.out.drew (Nat.le_refl _)).more HB3.out.drew.size))
          rw [← htl] at HIH
          have Hxt := Lib.hid hxt
          have h64t : IntKind.u64.wrap (tl : Int) = (tl : Int) := IntWalk.u64_in _ (by omega)
          clear hDL htl hDl hxt
          go_wp2_with fail
          refine wp_region_held_drew (S := fun w' => Arr w' g9 30 XL) (by kernel_rfl) (show Arr w3.drew _ _ _ from hX3) (fun hHeld => ?_)
          refine anyH_take (i := 0) (v := .int .u64 xe) (some 60) rfl rfl (by kernel_rfl) (by kernel_rfl) (by kernel_rfl) (fun _ _ _ h => h) (Or.inl ⟨by rfl, fun w' hw => by rfl⟩) (by assumption) ?_
          simp only [Act.put, List.setIfInBounds_toArray, List.set_cons_zero, List.set_cons_succ]
          refine anyH_take (i := 1) (v := .int .u64 tl) (some 61) rfl rfl (by kernel_rfl) (by kernel_rfl) (by kernel_rfl) (fun _ _ _ h => h) (Or.inl ⟨by rfl, fun w' hw => by (have hh := H64.out; go_simp)⟩) (by assumption) ?_
          simp only [Act.put, List.setIfInBounds_toArray, List.set_cons_zero, List.set_cons_succ]
          refine anyH_take (i := 2) (v := .pointer (some ⟨g9, 1, none⟩)) (some 62) rfl rfl (by kernel_rfl) (by kernel_rfl) (by kernel_rfl) (fun _ _ _ h => h) (Or.inl ⟨by rfl, fun w' hw => by go_simp⟩) (by assumption) ?_
          simp only [Act.put, List.setIfInBounds_toArray, List.set_cons_zero, List.set_cons_succ]
          refine anyH_take (i := 3) (v := .pointer (some ⟨g9, 1, none⟩)) (some 63) rfl rfl (by kernel_rfl) (by kernel_rfl) (by kernel_rfl) (fun _ _ _ h => h) (Or.inl ⟨by rfl, fun w' hw => by go_simp⟩) (by assumption) ?_
          simp only [Act.put, List.setIfInBounds_toArray, List.set_cons_zero, List.set_cons_succ]
          refine anyH_take (i := 4) (v := .agg DL.toArray) (some 64) rfl rfl (by kernel_rfl) (by kernel_rfl) (by kernel_rfl) (fun _ _ _ h => h) (yieldsIf_load_mid (by rfl) 24 (.tmp 63) rfl g9 1 rfl DL _ (fun w' h => HDr.out _ h) Try.underlying24 rfl HDi.out) (by assumption) ?_
          simp only [Act.put, List.setIfInBounds_toArray, List.set_cons_zero, List.set_cons_succ]
          refine anyH_take (i := 5) (v := .slice (some ⟨ba, oa, none⟩) xe c) (some 65) rfl rfl (by kernel_rfl) (by kernel_rfl) (by kernel_rfl) (fun _ _ _ h => h) (Or.inl ⟨by rfl, fun w' hw => by rfl⟩) (by assumption) ?_
          simp only [Act.put, List.setIfInBounds_toArray, List.set_cons_zero, List.set_cons_succ]
          refine anyH_take (i := 6) (v := .slice (some ⟨ba, oa + 1, none⟩) tl (c - 1)) (some 66) rfl rfl (by kernel_rfl) (by kernel_rfl) (by kernel_rfl) (fun _ _ _ h => h) (Or.inl ⟨by rfl, fun w' hw => by (have hh := hfr w'; go_simp)⟩) (by assumption) ?_
          simp only [Act.put, List.setIfInBounds_toArray, List.set_cons_zero, List.set_cons_succ]
          refine wpAnyH_ready (rs := [7]) (by kernel_rfl) (by simp) ?_
          refine AllReadyH.cons rfl (fun K hK => ?_) AllReadyH.nil
          go_simp
          go_at_call 57
          refine Calls.mono HIH.out ?_
          rintro e w4 ⟨hb4, vs, As, es, ce, ok, ds, MM, rfl, hM1, hM2, hdr, hce1, hce2, ⟨hev, _⟩, hok1, hok2, hdl, hel⟩
          have hs04 := HB3.out.size
          have hsd : w3.drew.heap.size = w3.heap.size := rfl
          have HB4 := Lib.hid (show Below w.heap.size w w4 from HB3.out.drew.trans (hb4.mono HB3.out.drew.size))
          have hX4 : Arr w4 g9 30 XL := (show Arr w3.drew g9 30 XL from hX3).up hb4
          have hEv4 : RowsAt w4 w1.heap.size x.Ae x.c.evs := (Hev3.out.below (Below.refl w3.heap.size w3).drew (by omega)).below hb4 (by omega)
          have Hok1 := Lib.hid hok1
          have Hok2 := Lib.hid hok2
          have Hel2 := Lib.hid hel
          obtain ⟨el, hell⟩ : ∃ z, z = es.length := ⟨_, rfl⟩
          rw [← hell] at hce1 ⊢
          have Hell := Lib.hid hell
          clear hok1 hok2 hel hell HIH
          go_wp2_with fail
          refine hK.out _ _ hX4 (fun hHeldx => ?_)
          clear hK K
          try simp only [Act.put, List.setIfInBounds_toArray, List.set_cons_zero, List.set_cons_succ]
          refine anyH_take (i := 8) (v := .tuple #[vs, .slice As el ce, .bool ok]) (some 59) rfl rfl (by kernel_rfl) (by kernel_rfl) (by kernel_rfl) (fun _ _ _ h => h) (Or.inl ⟨by rfl, fun w' hw => by rfl⟩) (by assumption) ?_
          simp only [Act.put, List.setIfInBounds_toArray, List.set_cons_zero, List.set_cons_succ]
          refine anyH_take (i := 9) (v := vs) (some 68) rfl rfl (by kernel_rfl) (by kernel_rfl) (by kernel_rfl) (fun _ _ _ h => h) (Or.inl ⟨by rfl, fun w' hw => by go_simp⟩) (by assumption) ?_
          simp only [Act.put, List.setIfInBounds_toArray, List.set_cons_zero, List.set_cons_succ]
          refine anyH_take (i := 10) (v := .slice As el ce) (some 69) rfl rfl (by kernel_rfl) (by kernel_rfl) (by kernel_rfl) (fun _ _ _ h => h) (Or.inl ⟨by rfl, fun w' hw => by go_simp⟩) (by assumption) ?_
          simp only [Act.put, List.setIfInBounds_toArray, List.set_cons_zero, List.set_cons_succ]
          refine anyH_take (i := 11) (v := .bool ok) (some 70) rfl rfl (by kernel_rfl) (by kernel_rfl) (by kernel_rfl) (fun _ _ _ h => h) (Or.inl ⟨by rfl, fun w' hw => by go_simp⟩) (by assumption) ?_
          simp only [Act.put, List.setIfInBounds_toArray, List.set_cons_zero, List.set_cons_succ]
          refine anyH_take (i := 12) (v := vs) (some 11) rfl rfl (by kernel_rfl) (by kernel_rfl) (by kernel_rfl) (fun _ _ _ h => h) (Or.inl ⟨by rfl, fun w' hw => by rfl⟩) (by assumption) ?_
          simp only [Act.put, List.setIfInBounds_toArray, List.set_cons_zero, List.set_cons_succ]
          refine anyH_take (i := 13) (v := .slice As el ce) (some 12) rfl rfl (by kernel_rfl) (by kernel_rfl) (by kernel_rfl) (fun _ _ _ h => h) (Or.inl ⟨by rfl, fun w' hw => by rfl⟩) (by assumption) ?_
          simp only [Act.put, List.setIfInBounds_toArray, List.set_cons_zero, List.set_cons_succ]
          refine anyH_take (i := 14) (v := .bool ok) (some 13) rfl rfl (by kernel_rfl) (by kernel_rfl) (by kernel_rfl) (fun _ _ _ h => h) (Or.inl ⟨by rfl, fun w' hw => by rfl⟩) (by assumption) ?_
          simp only [Act.put, List.setIfInBounds_toArray, List.set_cons_zero, List.set_cons_succ]
          refine wpAnyH_done (by kernel_rfl) ?_ _
          clear hHeldx hHeld
          obtain ⟨w5, hw5⟩ : ∃ z, z = w4.drew := ⟨_, rfl⟩
          have hb5 : Below w4.heap.size w4 w5 := by rw [hw5]; exact (Below.refl w4.heap.size w4).drew
          have hX5 := hX4.up hb5
          have hd5 : DRow w5 MM vs ds := hdr.up hb5
          have hs5 : w5.heap.size = w4.heap.size := by rw [hw5]; rfl
          have hev5 : EvM w5 MM vs As es := hev.keep (Only.of_below hb5) (fun k hk => (hdr.lt k hk).1) hM2 (fun k _ h => h)
          have hEv5 : RowsAt w5 w1.heap.size x.Ae x.c.evs := hEv4.below hb5 (by have := hb4.size; omega)
          have HB5 := Lib.hid (show Below w.heap.size w w5 from HB4.out.trans (hb5.mono HB4.out.size))
          have hov := fun k hk => (hd5.lt k hk)
          have hg9M : g9 < MM := by omega
          have hw1M : w1.heap.size ≤ MM := by omega
          have HXo := Lib.hid (fun (W : World) (hO : Only (fun k => vs.ownBlock = some k) w5 W) => show Arr W g9 30 XL from (hO.block g9 hX5.lt (fun e => by have := (hov g9 e).1; omega)).trans hX5)
          have hM5 : MM ≤ w5.heap.size := by omega
          have hdl2 : ds.length ≤ 39 := by have := Htl.out; have := Hxt.out; omega
          clear hb5 hdr hev hEv4 hX4 hb4
          go_wp2_with fail
          refine wp_region_held_drew (S := fun w' => Arr w' g9 30 XL) (by kernel_rfl) (show Arr w4.drew _ _ _ by rw [← hw5]; exact hX5) (fun hHeld => ?_)
          rw [← hw5] at hHeld ⊢
          clear hw5
          refine anyH_take (i := 0) (v := vs) (some 71) rfl rfl (by kernel_rfl) (by kernel_rfl) (by kernel_rfl) (fun _ _ _ h => h) (Or.inl ⟨by rfl, fun w' hw => by rfl⟩) (by assumption) ?_
          simp only [Act.put, List.setIfInBounds_toArray, List.set_cons_zero, List.set_cons_succ]
          refine anyH_take (i := 1) (v := .pointer (some ⟨g9, 104, none⟩)) (some 72) rfl rfl (by kernel_rfl) (by kernel_rfl) (by kernel_rfl) (fun _ _ _ h => h) (Or.inl ⟨by rfl, fun w' hw => by go_simp⟩) (by assumption) ?_
          simp only [Act.put, List.setIfInBounds_toArray, List.set_cons_zero, List.set_cons_succ]
          refine anyH_take (i := 2) (v := .agg SL.toArray) (some 73) rfl rfl (by kernel_rfl) (by kernel_rfl) (by kernel_rfl) (fun _ _ _ h => h) (yieldsIf_load_mid (by rfl) 24 (.tmp 72) rfl g9 104 rfl SL _ (fun w' h => Hst.out _ h) Try.underlying24 rfl HSi.out) (by assumption) ?_
          simp only [Act.put, List.setIfInBounds_toArray, List.set_cons_zero, List.set_cons_succ]
          refine anyH_take (i := 6) (v := .slice As el ce) (some 77) rfl rfl (by kernel_rfl) (by kernel_rfl) (by kernel_rfl) (fun _ _ _ h => h) (Or.inl ⟨by rfl, fun w' hw => by rfl⟩) (by assumption) ?_
          simp only [Act.put, List.setIfInBounds_toArray, List.set_cons_zero, List.set_cons_succ]
          refine anyH_take (i := 8) (v := .pointer (some ⟨g9, 136, none⟩)) (some 79) rfl rfl (by kernel_rfl) (by kernel_rfl) (by kernel_rfl) (fun _ _ _ h => h) (Or.inl ⟨by rfl, fun w' hw => by go_simp⟩) (by assumption) ?_
          simp only [Act.put, List.setIfInBounds_toArray, List.set_cons_zero, List.set_cons_succ]
          refine anyH_take (i := 9) (v := .slice x.Ae x.c.evs.length x.ce) (some 80) rfl rfl (by kernel_rfl) (by kernel_rfl) (by kernel_rfl) (fun _ _ _ h => h) (Or.inl ⟨by rfl, fun w' hw => by (have hc := Hec.out _ hw; go_simp)⟩) (by assumption) ?_
          simp only [Act.put, List.setIfInBounds_toArray, List.set_cons_zero, List.set_cons_succ]
          refine anyH_take (i := 11) (v := .bool ok) (some 82) rfl rfl (by kernel_rfl) (by kernel_rfl) (by kernel_rfl) (fun _ _ _ h => h) (Or.inl ⟨by rfl, fun w' hw => by rfl⟩) (by assumption) ?_
          simp only [Act.put, List.setIfInBounds_toArray, List.set_cons_zero, List.set_cons_succ]
          have hOw5 : Only (fun k => vs.ownBlock = some k) w5 w5 := Only.refl _ _
          refine wpAnyH_ready (rs := [3, 5]) (by kernel_rfl) (by simp) ?_
          refine (AllReadyH.cons rfl (fun K3 hK3 => ?_) (AllReadyH.cons rfl (fun K5 hK5 => ?_) AllReadyH.nil))
          · rw [if_pos (by rfl)]
            refine wp_build_dig (some 74) rfl _ rfl SL hSl rfl ?_
            obtain ⟨w6, hww6⟩ : ∃ z, z = w5.alloc (.cells SL.toArray 24) := ⟨_, rfl⟩
            rw [← hww6]
            have hbw6 : Below w5.heap.size w5 w6 := by rw [hww6]; exact (Below.refl _ _).alloc (Nat.le_refl _) _
            have hDw6 : Arr w6 w5.heap.size 24 (Lib.byteCells x.c.st) := by rw [hww6, ← HSL.out]; exact Arr.new _ _ _
            have hOw6 : Only (fun k => vs.ownBlock = some k) w5 w6 := hOw5.trans (Only.of_below hbw6)
            clear hww6
            refine hK3.out _ _ (HXo.out w6 hOw6) (fun hHeldx => ?_)
            try simp only [Act.put, List.setIfInBounds_toArray, List.set_cons_zero, List.set_cons_succ]
            have hd6 := hd5.up hbw6
            refine wpAnyH_ready (rs := [4, 5]) (by kernel_rfl) (by simp) ?_
            refine (AllReadyH.cons rfl (fun K4 hK4 => ?_) (AllReadyH.cons rfl (fun K5 hK5 => ?_) AllReadyH.nil))
            · rw [if_pos (by rfl)]
              refine wp_append_digO (some 75) rfl _ _ rfl hd6 (by have := hOw6.size; omega) rfl w5.heap.size 1 rfl x.c.st Hxw.out.st hDw6 (by omega) (fun vw7 w7 hdw7 hgw7 how7 => ?_)
              have hOw7 : Only (fun k => vs.ownBlock = some k) w5 w7 := hOw6.trans (World.grownBy.only hgw7 fun _ h => h)
              refine hK4.out _ _ (HXo.out w7 hOw7) (fun hHeldx => ?_)
              try simp only [Act.put, List.setIfInBounds_toArray, List.set_cons_zero, List.set_cons_succ]
              refine wpAnyH_ready (rs := [5]) (by kernel_rfl) (by simp) ?_
              refine (AllReadyH.cons rfl (fun K5 hK5 => ?_) AllReadyH.nil)
              rw [if_pos (by rfl)]
              refine wp_build_l0 (some 76) rfl rfl ?_
              have hLw8 := LRow.empty w7 MM (by have := hOw7.size; omega)
              obtain ⟨w8, hww8⟩ : ∃ z, z = w7.alloc (.cells #[] 33) := ⟨_, rfl⟩
              rw [← hww8] at hLw8 ⊢
              have hbw8 : Below w7.heap.size w7 w8 := by rw [hww8]; exact (Below.refl _ _).alloc (Nat.le_refl _) _
              have hOw8 : Only (fun k => vs.ownBlock = some k) w5 w8 := hOw7.trans (Only.of_below hbw8)
              clear hww8
              refine hK5.out _ _ (HXo.out w8 hOw8) (fun hHeldx => ?_)
              try simp only [Act.put, List.setIfInBounds_toArray, List.set_cons_zero, List.set_cons_succ]
              have hsWa := hOw6.size
              have hsW8 := hOw8.size
              have hgl : w5.heap.size ≤ w7.heap.size := by first | exact Nat.le_refl _ | exact hOw6.size | exact hOw7.size
              have hown : ∀ k, k < w5.heap.size → vs.ownBlock ≠ some k → vw7.ownBlock ≠ some k := fun k h1 h2 h3 => by
                rcases how7 with e | e
                · exact h2 (e ▸ h3)
                · rw [e] at h3; injection h3 with h3; omega
              have hL8 : LRow w8 MM (.slice (some ⟨w7.heap.size, 0, none⟩) 0 0) [] := hLw8
              have hd8 := hdw7.up hbw8
              have hX8 := HXo.out w8 hOw8
              have hev8 : EvM w8 MM vw7 As es := hev5.keep hOw8 (fun k hk => (hov k hk).1) hM5 hown
              obtain ⟨ecs, hecl, hecc, hece⟩ := hev8.cells
              have hE8 : RowsAt w8 w1.heap.size x.Ae x.c.evs := hEv5.below (hOw8.below (B := w1.heap.size) (by omega) (fun k hk => by have := (hov k hk).1; omega)) (Nat.le_refl _)
              have hb8 : Below w.heap.size w w8 := HB5.out.trans (hOw8.below HB5.out.size (fun k hk => by have := (hov k hk).1; omega))
              have hlim : es.length ≤ 120000 ∧ t.length ≤ 39 := by have := Hel2.out; have := Htl.out; have := Hxt.out; omega
              refine wpAnyH_ready (rs := [7]) (by kernel_rfl) (by simp) ?_
              refine AllReadyH.cons rfl (fun K hK => ?_) AllReadyH.nil
              rw [if_pos (by rfl)]
              refine wp_append_l (some 78) rfl _ _ rfl hL8 (by omega) rfl As el ce rfl es ecs Hell.out.symm (by rw [hecl]; exact Hell.out.symm) (fun h => hecc (by rw [← Hell.out]; exact h)) hece (by have := Hell.out; simp only [List.length_nil]; omega) (fun v9 w9 hl9 hg9 => ?_)
              rw [List.nil_append] at hl9
              have hs89 := hg9.size
              have hX9 : Arr w9 g9 30 XL := (hg9.block g9 (by omega) (fun e => by simp only [Value.ownBlock, Option.some.injEq] at e; omega)).trans hX8
              have hd9 := hd8.keptA (W' := w9) fun g hg => hg9.block g (hd8.lt g hg).2 (fun e => by obtain ⟨_, hLo, _⟩ := hL8; exact own_apart hd8.2 hLo (by decide) hg e.symm)
              have hb9 : Below w.heap.size w w9 := hb8.trans ((World.grownBy.only hg9 fun g h => h).below hb8.size (fun g h => by have := (hL8.lt g h).1; omega))
              have hE9 : RowsAt w9 w1.heap.size x.Ae x.c.evs := hE8.below ((World.grownBy.only hg9 fun g h => h).below (B := w1.heap.size) (by omega) (fun g h => by have := (hL8.lt g h).1; omega)) (Nat.le_refl _)
              obtain ⟨ecs2, hecl2, hecc2, hece2⟩ := rows_cells (hE9.more hw1M)
              refine hK.out _ _ hX9 (fun hHeldx => ?_)
              clear hK K
              try simp only [Act.put, List.setIfInBounds_toArray, List.set_cons_zero, List.set_cons_succ]
              refine wpAnyH_ready (rs := [10]) (by kernel_rfl) (by simp) ?_
              refine AllReadyH.cons rfl (fun K hK => ?_) AllReadyH.nil
              rw [if_pos (by rfl)]
              refine wp_append_l (some 81) rfl _ _ rfl hl9 (by omega) rfl x.Ae x.c.evs.length x.ce rfl x.c.evs ecs2 rfl hecl2 hecc2 hece2 (by have := Hel.out; omega) (fun v10 w10 hl10 hg10 => ?_)
              have hs910 := hg10.size
              have hX10 : Arr w10 g9 30 XL := (hg10.block g9 (by omega) (fun e => by have := (hl9.lt g9 e.symm).1; omega)).trans hX9
              have hd10 := hd9.keptA (W' := w10) fun g hg => hg10.block g (hd9.lt g hg).2 (fun e => by obtain ⟨_, hLo, _⟩ := hl9; exact own_apart hd9.2 hLo (by decide) hg e.symm)
              have hb10 : Below w.heap.size w w10 := hb9.trans ((World.grownBy.only hg10 fun g h => h).below hb9.size (fun g h => by have := (hl9.lt g h).1; omega))
              obtain ⟨A10, c10, rfl, hl1, hl2, hev10⟩ := hl10.ev (vs := vw7) (fun g hg => by obtain ⟨_, hLo, _⟩ := hl10; exact own_apart hLo hd10.2 (by decide) hg)
              refine hK.out _ _ hX10 (fun hHeldx => ?_)
              clear hK K
              try simp only [Act.put, List.setIfInBounds_toArray, List.set_cons_zero, List.set_cons_succ]
              refine anyH_take (i := 12) (v := vw7) (some 6) rfl rfl (by kernel_rfl) (by kernel_rfl) (by kernel_rfl) (fun _ _ _ h => h) (Or.inl ⟨by rfl, fun w' hw => by rfl⟩) (by assumption) ?_
              simp only [Act.put, List.setIfInBounds_toArray, List.set_cons_zero, List.set_cons_succ]
              refine anyH_take (i := 13) (v := .slice A10 (es ++ x.c.evs).length c10) (some 7) rfl rfl (by kernel_rfl) (by kernel_rfl) (by kernel_rfl) (fun _ _ _ h => h) (Or.inl ⟨by rfl, fun w' hw => by rfl⟩) (by assumption) ?_
              simp only [Act.put, List.setIfInBounds_toArray, List.set_cons_zero, List.set_cons_succ]
              refine anyH_take (i := 14) (v := .bool ok) (some 8) rfl rfl (by kernel_rfl) (by kernel_rfl) (by kernel_rfl) (fun _ _ _ h => h) (Or.inl ⟨by rfl, fun w' hw => by rfl⟩) (by assumption) ?_
              simp only [Act.put, List.setIfInBounds_toArray, List.set_cons_zero, List.set_cons_succ]
              refine wpAnyH_done (by kernel_rfl) ?_ _
              go_wp2_with fail
              refine bodyPost_ret (results_tmp3A rfl _ _ vw7 (.slice A10 (es ++ x.c.evs).length c10) (.bool ok) rfl rfl rfl) rfl ?_
              have Hlk2 : LinkP (tl + 1) root b x.c := by rw [← Hxt.out]; exact Hlk.out
              have hxt2 : xe = tl + 1 := Hxt.out
              have htn : t ≠ [] := fun e => by have := Htl.out; rw [e] at this; simp at this; omega
              refine ⟨hb10, vw7, A10, es ++ x.c.evs, c10, ok, ds ++ [x.c.st], MM, rfl, by omega, by omega, hd10, hl1, hl2, ⟨hev10, fun a ha => by have := (hl10.lt a.block (by rw [ha]; rfl)).1; omega⟩, ?_, ?_, ?_, ?_⟩
              · intro h
                obtain ⟨cs, hcs, e1, e2⟩ := Hok1.out h
                refine ⟨x.c :: cs, ?_, by simp [e1], by simp [e2]⟩
                rw [hxt2]
                exact (told_cons htn Hlk2).2 cs hcs
              · intro h cs hcs
                rw [hxt2] at hcs
                obtain ⟨ds', _, h'⟩ := (told_cons htn Hlk2).1 cs hcs
                exact Hok2.out h ds' h'
              · simp only [List.length_append, List.length_cons, List.length_nil]; omega
              · have := Hel.out
                have := Hel2.out
                simp only [List.length_append, List.length_cons]
                omega
            · rw [if_pos (by rfl)]
              refine wp_build_l0 (some 76) rfl rfl ?_
              have hLw7 := LRow.empty w6 MM (by have := hOw6.size; omega)
              obtain ⟨w7, hww7⟩ : ∃ z, z = w6.alloc (.cells #[] 33) := ⟨_, rfl⟩
              rw [← hww7] at hLw7 ⊢
              have hbw7 : Below w6.heap.size w6 w7 := by rw [hww7]; exact (Below.refl _ _).alloc (Nat.le_refl _) _
              have hOw7 : Only (fun k => vs.ownBlock = some k) w5 w7 := hOw6.trans (Only.of_below hbw7)
              clear hww7
              refine hK5.out _ _ (HXo.out w7 hOw7) (fun hHeldx => ?_)
              try simp only [Act.put, List.setIfInBounds_toArray, List.set_cons_zero, List.set_cons_succ]
              refine wpAnyH_ready (rs := [4]) (by kernel_rfl) (by simp) ?_
              refine (AllReadyH.cons rfl (fun K4 hK4 => ?_) AllReadyH.nil)
              rw [if_pos (by rfl)]
              refine wp_append_digO (some 75) rfl _ _ rfl (hd6.up hbw7) (by have := hOw7.size; omega) rfl w5.heap.size 1 rfl x.c.st Hxw.out.st (hDw6.up hbw7) (by omega) (fun vw8 w8 hdw8 hgw8 how8 => ?_)
              have hOw8 : Only (fun k => vs.ownBlock = some k) w5 w8 := hOw7.trans (World.grownBy.only hgw8 fun _ h => h)
              refine hK4.out _ _ (HXo.out w8 hOw8) (fun hHeldx => ?_)
              try simp only [Act.put, List.setIfInBounds_toArray, List.set_cons_zero, List.set_cons_succ]
              have hsWa := hOw7.size
              have hsW8 := hOw8.size
              have hgl : w5.heap.size ≤ w6.heap.size := by first | exact Nat.le_refl _ | exact hOw6.size | exact hOw7.size
              have hown : ∀ k, k < w5.heap.size → vs.ownBlock ≠ some k → vw8.ownBlock ≠ some k := fun k h1 h2 h3 => by
                rcases how8 with e | e
                · exact h2 (e ▸ h3)
                · rw [e] at h3; injection h3 with h3; omega
              have hL8 : LRow w8 MM (.slice (some ⟨w6.heap.size, 0, none⟩) 0 0) [] := (hLw7.keptA (fun g hg => hgw8.block g (hLw7.lt g hg).2 (fun e => by have := (hov g e.symm).2; have := hg; simp only [Value.ownBlock, Option.some.injEq] at this; omega)) fun b o z hb hc => by rw [World.cell?_of_block (a := ⟨b, o, none⟩) (hgw8.block b (cell_ltA hc) (fun e => by have := (hov b e.symm).1; omega))]; exact hc)
              have hd8 := hdw8
              have hX8 := HXo.out w8 hOw8
              have hev8 : EvM w8 MM vw8 As es := hev5.keep hOw8 (fun k hk => (hov k hk).1) hM5 hown
              obtain ⟨ecs, hecl, hecc, hece⟩ := hev8.cells
              have hE8 : RowsAt w8 w1.heap.size x.Ae x.c.evs := hEv5.below (hOw8.below (B := w1.heap.size) (by omega) (fun k hk => by have := (hov k hk).1; omega)) (Nat.le_refl _)
              have hb8 : Below w.heap.size w w8 := HB5.out.trans (hOw8.below HB5.out.size (fun k hk => by have := (hov k hk).1; omega))
              have hlim : es.length ≤ 120000 ∧ t.length ≤ 39 := by have := Hel2.out; have := Htl.out; have := Hxt.out; omega
              refine wpAnyH_ready (rs := [7]) (by kernel_rfl) (by simp) ?_
              refine AllReadyH.cons rfl (fun K hK => ?_) AllReadyH.nil
              rw [if_pos (by rfl)]
              refine wp_append_l (some 78) rfl _ _ rfl hL8 (by omega) rfl As el ce rfl es ecs Hell.out.symm (by rw [hecl]; exact Hell.out.symm) (fun h => hecc (by rw [← Hell.out]; exact h)) hece (by have := Hell.out; simp only [List.length_nil]; omega) (fun v9 w9 hl9 hg9 => ?_)
              rw [List.nil_append] at hl9
              have hs89 := hg9.size
              have hX9 : Arr w9 g9 30 XL := (hg9.block g9 (by omega) (fun e => by simp only [Value.ownBlock, Option.some.injEq] at e; omega)).trans hX8
              have hd9 := hd8.keptA (W' := w9) fun g hg => hg9.block g (hd8.lt g hg).2 (fun e => by obtain ⟨_, hLo, _⟩ := hL8; exact own_apart hd8.2 hLo (by decide) hg e.symm)
              have hb9 : Below w.heap.size w w9 := hb8.trans ((World.grownBy.only hg9 fun g h => h).below hb8.size (fun g h => by have := (hL8.lt g h).1; omega))
              have hE9 : RowsAt w9 w1.heap.size x.Ae x.c.evs := hE8.below ((World.grownBy.only hg9 fun g h => h).below (B := w1.heap.size) (by omega) (fun g h => by have := (hL8.lt g h).1; omega)) (Nat.le_refl _)
              obtain ⟨ecs2, hecl2, hecc2, hece2⟩ := rows_cells (hE9.more hw1M)
              refine hK.out _ _ hX9 (fun hHeldx => ?_)
              clear hK K
              try simp only [Act.put, List.setIfInBounds_toArray, List.set_cons_zero, List.set_cons_succ]
              refine wpAnyH_ready (rs := [10]) (by kernel_rfl) (by simp) ?_
              refine AllReadyH.cons rfl (fun K hK => ?_) AllReadyH.nil
              rw [if_pos (by rfl)]
              refine wp_append_l (some 81) rfl _ _ rfl hl9 (by omega) rfl x.Ae x.c.evs.length x.ce rfl x.c.evs ecs2 rfl hecl2 hecc2 hece2 (by have := Hel.out; omega) (fun v10 w10 hl10 hg10 => ?_)
              have hs910 := hg10.size
              have hX10 : Arr w10 g9 30 XL := (hg10.block g9 (by omega) (fun e => by have := (hl9.lt g9 e.symm).1; omega)).trans hX9
              have hd10 := hd9.keptA (W' := w10) fun g hg => hg10.block g (hd9.lt g hg).2 (fun e => by obtain ⟨_, hLo, _⟩ := hl9; exact own_apart hd9.2 hLo (by decide) hg e.symm)
              have hb10 : Below w.heap.size w w10 := hb9.trans ((World.grownBy.only hg10 fun g h => h).below hb9.size (fun g h => by have := (hl9.lt g h).1; omega))
              obtain ⟨A10, c10, rfl, hl1, hl2, hev10⟩ := hl10.ev (vs := vw8) (fun g hg => by obtain ⟨_, hLo, _⟩ := hl10; exact own_apart hLo hd10.2 (by decide) hg)
              refine hK.out _ _ hX10 (fun hHeldx => ?_)
              clear hK K
              try simp only [Act.put, List.setIfInBounds_toArray, List.set_cons_zero, List.set_cons_succ]
              refine anyH_take (i := 12) (v := vw8) (some 6) rfl rfl (by kernel_rfl) (by kernel_rfl) (by kernel_rfl) (fun _ _ _ h => h) (Or.inl ⟨by rfl, fun w' hw => by rfl⟩) (by assumption) ?_
              simp only [Act.put, List.setIfInBounds_toArray, List.set_cons_zero, List.set_cons_succ]
              refine anyH_take (i := 13) (v := .slice A10 (es ++ x.c.evs).length c10) (some 7) rfl rfl (by kernel_rfl) (by kernel_rfl) (by kernel_rfl) (fun _ _ _ h => h) (Or.inl ⟨by rfl, fun w' hw => by rfl⟩) (by assumption) ?_
              simp only [Act.put, List.setIfInBounds_toArray, List.set_cons_zero, List.set_cons_succ]
              refine anyH_take (i := 14) (v := .bool ok) (some 8) rfl rfl (by kernel_rfl) (by kernel_rfl) (by kernel_rfl) (fun _ _ _ h => h) (Or.inl ⟨by rfl, fun w' hw => by rfl⟩) (by assumption) ?_
              simp only [Act.put, List.setIfInBounds_toArray, List.set_cons_zero, List.set_cons_succ]
              refine wpAnyH_done (by kernel_rfl) ?_ _
              go_wp2_with fail
              refine bodyPost_ret (results_tmp3A rfl _ _ vw8 (.slice A10 (es ++ x.c.evs).length c10) (.bool ok) rfl rfl rfl) rfl ?_
              have Hlk2 : LinkP (tl + 1) root b x.c := by rw [← Hxt.out]; exact Hlk.out
              have hxt2 : xe = tl + 1 := Hxt.out
              have htn : t ≠ [] := fun e => by have := Htl.out; rw [e] at this; simp at this; omega
              refine ⟨hb10, vw8, A10, es ++ x.c.evs, c10, ok, ds ++ [x.c.st], MM, rfl, by omega, by omega, hd10, hl1, hl2, ⟨hev10, fun a ha => by have := (hl10.lt a.block (by rw [ha]; rfl)).1; omega⟩, ?_, ?_, ?_, ?_⟩
              · intro h
                obtain ⟨cs, hcs, e1, e2⟩ := Hok1.out h
                refine ⟨x.c :: cs, ?_, by simp [e1], by simp [e2]⟩
                rw [hxt2]
                exact (told_cons htn Hlk2).2 cs hcs
              · intro h cs hcs
                rw [hxt2] at hcs
                obtain ⟨ds', _, h'⟩ := (told_cons htn Hlk2).1 cs hcs
                exact Hok2.out h ds' h'
              · simp only [List.length_append, List.length_cons, List.length_nil]; omega
              · have := Hel.out
                have := Hel2.out
                simp only [List.length_append, List.length_cons]
                omega
          · rw [if_pos (by rfl)]
            refine wp_build_l0 (some 76) rfl rfl ?_
            have hLw6 := LRow.empty w5 MM (by have := hOw5.size; omega)
            obtain ⟨w6, hww6⟩ : ∃ z, z = w5.alloc (.cells #[] 33) := ⟨_, rfl⟩
            rw [← hww6] at hLw6 ⊢
            have hbw6 : Below w5.heap.size w5 w6 := by rw [hww6]; exact (Below.refl _ _).alloc (Nat.le_refl _) _
            have hOw6 : Only (fun k => vs.ownBlock = some k) w5 w6 := hOw5.trans (Only.of_below hbw6)
            clear hww6
            refine hK5.out _ _ (HXo.out w6 hOw6) (fun hHeldx => ?_)
            try simp only [Act.put, List.setIfInBounds_toArray, List.set_cons_zero, List.set_cons_succ]
            refine wpAnyH_ready (rs := [3]) (by kernel_rfl) (by simp) ?_
            refine (AllReadyH.cons rfl (fun K3 hK3 => ?_) AllReadyH.nil)
            rw [if_pos (by rfl)]
            refine wp_build_dig (some 74) rfl _ rfl SL hSl rfl ?_
            obtain ⟨w7, hww7⟩ : ∃ z, z = w6.alloc (.cells SL.toArray 24) := ⟨_, rfl⟩
            rw [← hww7]
            have hbw7 : Below w6.heap.size w6 w7 := by rw [hww7]; exact (Below.refl _ _).alloc (Nat.le_refl _) _
            have hDw7 : Arr w7 w6.heap.size 24 (Lib.byteCells x.c.st) := by rw [hww7, ← HSL.out]; exact Arr.new _ _ _
            have hOw7 : Only (fun k => vs.ownBlock = some k) w5 w7 := hOw6.trans (Only.of_below hbw7)
            clear hww7
            refine hK3.out _ _ (HXo.out w7 hOw7) (fun hHeldx => ?_)
            try simp only [Act.put, List.setIfInBounds_toArray, List.set_cons_zero, List.set_cons_succ]
            refine wpAnyH_ready (rs := [4]) (by kernel_rfl) (by simp) ?_
            refine (AllReadyH.cons rfl (fun K4 hK4 => ?_) AllReadyH.nil)
            rw [if_pos (by rfl)]
            refine wp_append_digO (some 75) rfl _ _ rfl ((hd5.up hbw6).up hbw7) (by have := hOw7.size; omega) rfl w6.heap.size 1 rfl x.c.st Hxw.out.st hDw7 (by omega) (fun vw8 w8 hdw8 hgw8 how8 => ?_)
            have hOw8 : Only (fun k => vs.ownBlock = some k) w5 w8 := hOw7.trans (World.grownBy.only hgw8 fun _ h => h)
            refine hK4.out _ _ (HXo.out w8 hOw8) (fun hHeldx => ?_)
            try simp only [Act.put, List.setIfInBounds_toArray, List.set_cons_zero, List.set_cons_succ]
            have hsWa := hOw7.size
            have hsW8 := hOw8.size
            have hgl : w5.heap.size ≤ w5.heap.size := by first | exact Nat.le_refl _ | exact hOw6.size | exact hOw7.size
            have hown : ∀ k, k < w5.heap.size → vs.ownBlock ≠ some k → vw8.ownBlock ≠ some k := fun k h1 h2 h3 => by
              rcases how8 with e | e
              · exact h2 (e ▸ h3)
              · rw [e] at h3; injection h3 with h3; omega
            have hL8 : LRow w8 MM (.slice (some ⟨w5.heap.size, 0, none⟩) 0 0) [] := ((hLw6.up hbw7 (by have := hOw6.size; omega)).keptA (fun g hg => hgw8.block g ((hLw6.up hbw7 (by have := hOw6.size; omega)).lt g hg).2 (fun e => by have := (hov g e.symm).2; have := hg; simp only [Value.ownBlock, Option.some.injEq] at this; omega)) fun b o z hb hc => by rw [World.cell?_of_block (a := ⟨b, o, none⟩) (hgw8.block b (cell_ltA hc) (fun e => by have := (hov b e.symm).1; omega))]; exact hc)
            have hd8 := hdw8
            have hX8 := HXo.out w8 hOw8
            have hev8 : EvM w8 MM vw8 As es := hev5.keep hOw8 (fun k hk => (hov k hk).1) hM5 hown
            obtain ⟨ecs, hecl, hecc, hece⟩ := hev8.cells
            have hE8 : RowsAt w8 w1.heap.size x.Ae x.c.evs := hEv5.below (hOw8.below (B := w1.heap.size) (by omega) (fun k hk => by have := (hov k hk).1; omega)) (Nat.le_refl _)
            have hb8 : Below w.heap.size w w8 := HB5.out.trans (hOw8.below HB5.out.size (fun k hk => by have := (hov k hk).1; omega))
            have hlim : es.length ≤ 120000 ∧ t.length ≤ 39 := by have := Hel2.out; have := Htl.out; have := Hxt.out; omega
            refine wpAnyH_ready (rs := [7]) (by kernel_rfl) (by simp) ?_
            refine AllReadyH.cons rfl (fun K hK => ?_) AllReadyH.nil
            rw [if_pos (by rfl)]
            refine wp_append_l (some 78) rfl _ _ rfl hL8 (by omega) rfl As el ce rfl es ecs Hell.out.symm (by rw [hecl]; exact Hell.out.symm) (fun h => hecc (by rw [← Hell.out]; exact h)) hece (by have := Hell.out; simp only [List.length_nil]; omega) (fun v9 w9 hl9 hg9 => ?_)
            rw [List.nil_append] at hl9
            have hs89 := hg9.size
            have hX9 : Arr w9 g9 30 XL := (hg9.block g9 (by omega) (fun e => by simp only [Value.ownBlock, Option.some.injEq] at e; omega)).trans hX8
            have hd9 := hd8.keptA (W' := w9) fun g hg => hg9.block g (hd8.lt g hg).2 (fun e => by obtain ⟨_, hLo, _⟩ := hL8; exact own_apart hd8.2 hLo (by decide) hg e.symm)
            have hb9 : Below w.heap.size w w9 := hb8.trans ((World.grownBy.only hg9 fun g h => h).below hb8.size (fun g h => by have := (hL8.lt g h).1; omega))
            have hE9 : RowsAt w9 w1.heap.size x.Ae x.c.evs := hE8.below ((World.grownBy.only hg9 fun g h => h).below (B := w1.heap.size) (by omega) (fun g h => by have := (hL8.lt g h).1; omega)) (Nat.le_refl _)
            obtain ⟨ecs2, hecl2, hecc2, hece2⟩ := rows_cells (hE9.more hw1M)
            refine hK.out _ _ hX9 (fun hHeldx => ?_)
            clear hK K
            try simp only [Act.put, List.setIfInBounds_toArray, List.set_cons_zero, List.set_cons_succ]
            refine wpAnyH_ready (rs := [10]) (by kernel_rfl) (by simp) ?_
            refine AllReadyH.cons rfl (fun K hK => ?_) AllReadyH.nil
            rw [if_pos (by rfl)]
            refine wp_append_l (some 81) rfl _ _ rfl hl9 (by omega) rfl x.Ae x.c.evs.length x.ce rfl x.c.evs ecs2 rfl hecl2 hecc2 hece2 (by have := Hel.out; omega) (fun v10 w10 hl10 hg10 => ?_)
            have hs910 := hg10.size
            have hX10 : Arr w10 g9 30 XL := (hg10.block g9 (by omega) (fun e => by have := (hl9.lt g9 e.symm).1; omega)).trans hX9
            have hd10 := hd9.keptA (W' := w10) fun g hg => hg10.block g (hd9.lt g hg).2 (fun e => by obtain ⟨_, hLo, _⟩ := hl9; exact own_apart hd9.2 hLo (by decide) hg e.symm)
            have hb10 : Below w.heap.size w w10 := hb9.trans ((World.grownBy.only hg10 fun g h => h).below hb9.size (fun g h => by have := (hl9.lt g h).1; omega))
            obtain ⟨A10, c10, rfl, hl1, hl2, hev10⟩ := hl10.ev (vs := vw8) (fun g hg => by obtain ⟨_, hLo, _⟩ := hl10; exact own_apart hLo hd10.2 (by decide) hg)
            refine hK.out _ _ hX10 (fun hHeldx => ?_)
            clear hK K
            try simp only [Act.put, List.setIfInBounds_toArray, List.set_cons_zero, List.set_cons_succ]
            refine anyH_take (i := 12) (v := vw8) (some 6) rfl rfl (by kernel_rfl) (by kernel_rfl) (by kernel_rfl) (fun _ _ _ h => h) (Or.inl ⟨by rfl, fun w' hw => by rfl⟩) (by assumption) ?_
            simp only [Act.put, List.setIfInBounds_toArray, List.set_cons_zero, List.set_cons_succ]
            refine anyH_take (i := 13) (v := .slice A10 (es ++ x.c.evs).length c10) (some 7) rfl rfl (by kernel_rfl) (by kernel_rfl) (by kernel_rfl) (fun _ _ _ h => h) (Or.inl ⟨by rfl, fun w' hw => by rfl⟩) (by assumption) ?_
            simp only [Act.put, List.setIfInBounds_toArray, List.set_cons_zero, List.set_cons_succ]
            refine anyH_take (i := 14) (v := .bool ok) (some 8) rfl rfl (by kernel_rfl) (by kernel_rfl) (by kernel_rfl) (fun _ _ _ h => h) (Or.inl ⟨by rfl, fun w' hw => by rfl⟩) (by assumption) ?_
            simp only [Act.put, List.setIfInBounds_toArray, List.set_cons_zero, List.set_cons_succ]
            refine wpAnyH_done (by kernel_rfl) ?_ _
            go_wp2_with fail
            refine bodyPost_ret (results_tmp3A rfl _ _ vw8 (.slice A10 (es ++ x.c.evs).length c10) (.bool ok) rfl rfl rfl) rfl ?_
            have Hlk2 : LinkP (tl + 1) root b x.c := by rw [← Hxt.out]; exact Hlk.out
            have hxt2 : xe = tl + 1 := Hxt.out
            have htn : t ≠ [] := fun e => by have := Htl.out; rw [e] at this; simp at this; omega
            refine ⟨hb10, vw8, A10, es ++ x.c.evs, c10, ok, ds ++ [x.c.st], MM, rfl, by omega, by omega, hd10, hl1, hl2, ⟨hev10, fun a ha => by have := (hl10.lt a.block (by rw [ha]; rfl)).1; omega⟩, ?_, ?_, ?_, ?_⟩
            · intro h
              obtain ⟨cs, hcs, e1, e2⟩ := Hok1.out h
              refine ⟨x.c :: cs, ?_, by simp [e1], by simp [e2]⟩
              rw [hxt2]
              exact (told_cons htn Hlk2).2 cs hcs
            · intro h cs hcs
              rw [hxt2] at hcs
              obtain ⟨ds', _, h'⟩ := (told_cons htn Hlk2).1 cs hcs
              exact Hok2.out h ds' h'
            · simp only [List.length_append, List.length_cons, List.length_nil]; omega
            · have := Hel.out
              have := Hel2.out
              simp only [List.length_append, List.length_cons]
              omega

theorem rchk_eq : ∀ (bs : List (List UInt8)), bs.length ≤ 40 → (∀ x ∈ bs, x.length ≤ 3000) → ∀ (root : List UInt8) (RL : List Value) (A : Option Addr) (c : Nat) (w : World), root.length = 32 → RL = Lib.byteCells root → bs.length ≤ c → c ≤ maxLen → RowsAt w w.heap.size A bs →
    Calls Try.prog 57 #[.int .u64 (bs.length : Nat), .agg RL.toArray, .slice A bs.length c] w (RChk bs.length root bs w)
  | [], _, _, root, RL, A, c, w, hr, hRL, _, hcm, _ => rchk_zero root hr RL hRL A c hcm w
  | b :: t, h40, h3, root, RL, A, c, w, hr, hRL, hc, hcm, hrows =>
    rchk_step b t (t.length + 1) rfl (by simpa using h40) (rchk_eq t (by simp at h40; omega) (fun x hx => h3 x (by simp [hx]))) root hr RL hRL A c (by simpa using hc) hcm h3 w hrows
theorem rchk_any (ep : Nat) (hep : ep < 18446744073709551616) (root : List UInt8) (hr : root.length = 32) (RL : List Value) (hRL : RL = Lib.byteCells root) (bs : List (List UInt8)) (h40 : bs.length ≤ 40) (A : Option Addr) (n c : Nat) (hn : bs.length = n) (hc : n ≤ c) (hcm : c ≤ maxLen) (h3000 : ∀ b ∈ bs, b.length ≤ 3000) (w : World) (hrows : RowsAt w w.heap.size A bs) :
    Calls Try.prog 57 #[.int .u64 ep, .agg RL.toArray, .slice A n c] w (RChk ep root bs w) := by
  by_cases he : ep = n
  · subst he
    subst hn
    exact rchk_eq bs h40 h3000 root RL A c w hr hRL hc hcm hrows
  · exact rchk_off ep n he hep root RL bs hn (by omega) A c hc hcm w

end Go.Proofs.Ytlfddijmanlneaa

namespace Go.Proofs.Ytlfddijmanlneaa
open Go.RowKit
set_option linter.unusedVariables false

def greatA (rs : List (List UInt8)) : Bool := decide (40 < rs.length) || rs.any fun r => decide (3000 < r.length)
theorem greatA_no {rs : List (List UInt8)} (h : greatA rs = false) : rs.length ≤ 40 ∧ ∀ r ∈ rs, r.length ≤ 3000 := by
  unfold greatA at h
  simp only [Bool.or_eq_false_iff, decide_eq_false_iff_not, List.any_eq_false, decide_eq_true_eq] at h
  exact ⟨by omega, fun r hr => by have := h.2 r hr; omega⟩
theorem greatA_many {rs : List (List UInt8)} (h : 40 < rs.length) : greatA rs = true := by unfold greatA; rw [decide_eq_true h, Bool.true_or]
theorem greatA_long {rs : List (List UInt8)} {k : Nat} (hk : k < rs.length) (h : 3000 < (rs.getD k []).length) : greatA rs = true := by
  unfold greatA
  rw [Bool.or_eq_true]
  refine .inr (List.any_eq_true.2 ⟨rs.getD k [], by simp [List.getD, hk], decide_eq_true h⟩)
theorem greatA_none {rs : List (List UInt8)} (h : rs.length ≤ 40) (hr : ∀ k, k < rs.length → (rs.getD k []).length ≤ 3000) : greatA rs = false := by
  unfold greatA
  rw [Bool.or_eq_false_iff]
  refine ⟨decide_eq_false (by omega), List.any_eq_false.2 fun r hm => ?_⟩
  obtain ⟨k, hk, rfl⟩ := List.getElem_of_mem hm
  have := hr k hk
  simp [List.getD, hk] at this
  simp
  omega

set_option maxHeartbeats 4000000 in
theorem greatA_any (B : Nat) (rs : List (List UInt8)) (A : Option Addr) (n c : Nat) (w : World) (hn : rs.length = n) (hc : n ≤ c) (hm : c ≤ 9223372036854775807) (hrs : RowsAt w B A rs) :
    Calls Try.prog 19 #[.slice A n c] w fun e w' => e = .returned (.bool (greatA rs)) ∧ w' = w := by
  by_cases h70 : 40 < n
  · have hd : decide ((40 : Int) < (n : Int)) = true := by simp; omega
    have hg := Lib.hid (greatA_many (rs := rs) (by omega))
    have Hn := Lib.hid hn
    clear hn
    go_enter Try.func19, Try.ntmps19
    go_wp2
    go_ret
    exact ⟨by rw [hg.out]; rfl, rfl⟩
  · have hd : decide ((40 : Int) < (n : Int)) = false := by simp; omega
    have Hn := Lib.hid hn
    clear hn
    go_enter Try.func19, Try.ntmps19
    go_wp2
    go_loop [10] (fun i => ∃ k : Nat, k ≤ n ∧ i = .int .i64 k ∧ Hid (∀ j, j < k → (rs.getD j []).length ≤ 3000)) (fun i => n - (intOf i).toNat)
    case atStart => exact ⟨0, Nat.zero_le _, rfl, fun j hj => by omega⟩
    case round =>
      obtain ⟨k, hk, rfl, Hr⟩ := hrel
      by_cases hlt : k < n
      · have hkr : k < rs.length := by rw [Hn.out]; exact hlt
        obtain ⟨blk, off, rfl, hblk, hrow⟩ := hrs (by omega)
        obtain ⟨A', c', hcell, hlc, hcm, hbs⟩ := hrow k hkr
        obtain ⟨l, hl⟩ : ∃ l, (rs.getD k []).length = l := ⟨_, rfl⟩
        rw [hl] at hcell hlc
        have Hl := Lib.hid hl
        clear hl hrow hbs
        by_cases hlong : 3000 < l
        · have hd2 : decide ((3000 : Int) < (l : Int)) = true := by simp; omega
          have hg := Lib.hid (greatA_long hkr (by rw [Hl.out]; exact hlong))
          go_wp2
          go_ret
          exact ⟨by rw [hg.out]; rfl, rfl⟩
        · have hd2 : decide ((3000 : Int) < (l : Int)) = false := by simp; omega
          have Hr' := Lib.hid (show ∀ j, j < k + 1 → (rs.getD j []).length ≤ 3000 from fun j hj => by
            by_cases e : j = k
            · subst e; rw [Hl.out]; omega
            · exact Hr.out j (by omega))
          go_wp2
          go_round
          case rel => exact ⟨k + 1, by omega, by go_num, Hr'.out⟩
          case measure => simp [intOf]; omega
      · have hg := Lib.hid (greatA_none (rs := rs) (by rw [Hn.out]; omega) (fun j hj => Hr.out j (by rw [Hn.out] at hj; omega)))
        go_wp2
        go_ret
        exact ⟨by rw [hg.out]; rfl, rfl⟩

end Go.Proofs.Ytlfddijmanlneaa

namespace Go.Proofs.Ytlfddijmanlneaa
open Go.RowKit Go.Shelf
set_option linter.unusedVariables false
set_option linter.unusedSimpArgs false

/-- What a Check answers, ra a row of cells and a number. -/
theorem chk_parts {ep : Nat} {root : List UInt8} {bs : List (List UInt8)} {w W' : World} {e : Ending} (h : ChkPost ep root bs w e W') : ∃ (SL : List Value) (k : Int), e = .returned (.tuple #[.agg SL.toArray, .int .i64 k]) ∧ SL.length = 3 ∧ SL.toArray.all (·.oneCell') = true ∧ ((k = 0 ∧ ∃ cs, ToldP ep root bs cs) ∨ k = 3) ∧ Below w.heap.size w W' := by
  obtain ⟨hb, ⟨cs, vs, ve, B, h1, rfl, _, h2, h3⟩ | ⟨h1, rfl⟩⟩ := h
  · refine ⟨[.int .u64 ep, vs, ve], 0, rfl, rfl, ?_, .inl ⟨rfl, cs, h1⟩, hb⟩
    obtain ⟨A1, c1, rfl, _⟩ := h2.slice
    obtain ⟨A2, c2, rfl, _⟩ := h3.sliceA
    rw [List.all_toArray, List.all_eq_true]
    intro v hv
    simp only [List.mem_cons, List.not_mem_nil, or_false] at hv
    rcases hv with rfl | rfl | rfl <;> rfl
  · refine ⟨stZ, 3, rfl, rfl, ?_, .inr rfl, hb⟩
    rw [List.all_toArray, List.all_eq_true]
    intro v hv
    simp only [stZ, List.mem_cons, List.not_mem_nil, or_false] at hv
    rcases hv with rfl | rfl | rfl <;> rfl
theorem RowsAt.at_ {w : World} {B : Nat} {A : Option Addr} {rs : List (List UInt8)} (h : RowsAt w B A rs) {i : Nat} (hi : i < rs.length) : ∃ b o A' c x, A = some ⟨b, o, none⟩ ∧ b < B ∧ rs.getD i [] = x ∧ x ∈ rs ∧ w.cell? ⟨b, o + i, none⟩ = some (.slice A' x.length c) ∧ x.length ≤ c ∧ c ≤ maxLen ∧ Bs w B A' x := by
  obtain ⟨b, o, e, hb, hc⟩ := h (by omega)
  obtain ⟨A', c, q1, q2, q3, q4⟩ := hc i hi
  have hx : rs.getD i [] = rs[i] := by rw [List.getD_eq_getElem?_getD, List.getElem?_eq_getElem hi]; rfl
  exact ⟨b, o, A', c, rs.getD i [], e, hb, rfl, by rw [hx]; exact List.getElem_mem hi, q1, q2, q3, q4⟩
theorem storySize {SL : List Value} (h : SL.length = 3) : (Try.prog.info? 50).map (·.size) = some SL.toArray.size ∧ stZ.toArray.size = SL.toArray.size := by
  refine ⟨?_, by rw [List.size_toArray, List.size_toArray, h]; rfl⟩
  rw [List.size_toArray, h]
  kernel_rfl

set_option maxHeartbeats 16000000 in
set_option maxRecDepth 100000 in
theorem afork_walk (ep : Nat) (hep : ep < 18446744073709551616) (root : List UInt8) (hr : root.length = 32) (RL : List Value) (hRL : RL = Lib.byteCells root) (ra bs : List (List UInt8)) (Aa Ab : Option Addr) (na ca nb cb : Nat) (hna : ra.length = na) (hca : na ≤ ca) (hma : ca ≤ maxLen) (hnb : bs.length = nb) (hcb : nb ≤ cb) (hmb : cb ≤ maxLen) (w : World) (ha : RowsAt w w.heap.size Aa ra) (hb : RowsAt w w.heap.size Ab bs) :
    Calls Try.prog 6 #[.int .u64 ep, .agg RL.toArray, .slice Aa na ca, .slice Ab nb cb] w fun e w' => e = .returned (.bool true) ∧ Below w.heap.size w w' := by
  have hma' : ca ≤ 9223372036854775807 := by unfold maxLen at hma; exact hma
  have hmb' : cb ≤ 9223372036854775807 := by unfold maxLen at hmb; exact hmb
  have hRl : RL.length = 32 := by rw [hRL, Lib.byteCells_length, hr]
  have Hki := Lib.hid (show (Try.prog.info? 24).map (·.size) = some RL.toArray.size by rw [List.size_toArray, hRl]; exact digInfo)
  have HR1 := Lib.hid (show RL.toArray.all (·.oneCell') = true by rw [hRL]; exact dig_one _)
  have Hrr := Lib.hid (show root.length = 32 ∧ RL = Lib.byteCells root from ⟨hr, hRL⟩)
  have Hna := Lib.hid hna
  have Hnb := Lib.hid hnb
  have Hm := Lib.hid (show ca ≤ maxLen ∧ cb ≤ maxLen from ⟨hma, hmb⟩)
  obtain ⟨W0, hW0⟩ : ∃ z, z = w.alloc (.cells RL.toArray 24) := ⟨_, rfl⟩
  have hA0 : Arr W0 w.heap.size 24 RL := by rw [hW0]; exact Arr.new w _ _
  have hB0 : Below w.heap.size w W0 := by rw [hW0]; exact (Below.refl _ w).alloc (Nat.le_refl _) _
  have HW0 := Lib.hid hW0
  have Ha := Lib.hid ha
  have Hb := Lib.hid hb
  clear hW0 hma hmb hRL hr hna hnb hRl ha hb
  go_enter Try.func6, Try.ntmps6
  go_wp2_with fail
  change Calls _ _ _ (w.alloc (.cells RL.toArray 24)) _
  rw [← HW0.out]
  refine Calls.mono (speaks17_any _) ?_
  rintro e w1 ⟨rfl, hb1⟩
  have hB1 := hB0.trans (hb1.mono hB0.size)
  have hA1 := hA0.up hb1
  go_wp2_with fail
  refine Calls.mono (greatA_any w.heap.size ra Aa na ca w1 Hna.out hca hma' (Ha.out.below hB1 (Nat.le_refl _))) ?_
  rintro e w2 ⟨rfl, rfl⟩
  cases hga : greatA ra with
  | true =>
    clear hb1 hA1 hA0 hB0
    go_wp2_with fail
    go_ret
    exact ⟨rfl, hB1⟩
  | false =>
  go_wp2_with fail
  refine Calls.mono (greatA_any w.heap.size bs Ab nb cb w2 Hnb.out hcb hmb' (Hb.out.below hB1 (Nat.le_refl _))) ?_
  rintro e w1 ⟨rfl, rfl⟩
  cases hgb : greatA bs with
  | true =>
    clear hb1 hA1 hA0 hB0
    go_wp2_with fail
    go_ret
    exact ⟨rfl, hB1⟩
  | false =>
  obtain ⟨ha40, ha3⟩ := greatA_no hga
  obtain ⟨hb40, hb3⟩ := greatA_no hgb
  have Hla := Lib.hid ha3
  have Hlb := Lib.hid hb3
  have H40 := Lib.hid (show ra.length ≤ 40 ∧ bs.length ≤ 40 from ⟨ha40, hb40⟩)
  clear hga hgb ha40 hb40 ha3 hb3 hb1 hA0 hB0
  obtain ⟨g0, hg0⟩ : ∃ z, z = w.heap.size := ⟨_, rfl⟩
  have hA1' : w1.heap[w.heap.size]? = some (.cells RL.toArray 24 (0, 0)) := hA1
  have Hs1 := Lib.hid hB1.size
  go_wp2_with (first | ((with_reducible refine wpList_atA 24 (by rfl) ?_); refine wpList_load_row rfl _ _ rfl w.heap.size rfl 24 RL.toArray (0, 0) _ hA1' Try.underlying24 rfl Hki.out ?_))
  refine Calls.mono (check_any ep hep root Hrr.out.1 RL Hrr.out.2 ra H40.out.1 Aa na ca Hna.out hca Hm.out.1 Hla.out w1 ((Ha.out.below hB1 (Nat.le_refl _)).more hB1.size)) ?_
  intro e w3 hp
  obtain ⟨S1, k1, rfl, hS1l, hS1o, hk1, hb3⟩ := chk_parts hp
  clear hp
  have HS1 := Lib.hid (storySize hS1l)
  obtain ⟨w4, hw4⟩ : ∃ z, z = (w3.alloc (.cells stZ.toArray 50)).setRow w3.heap.size S1.toArray := ⟨_, rfl⟩
  obtain ⟨hR4, hb4⟩ := alloc_row w3 50 stZ.toArray S1
  rw [← hw4] at hR4 hb4
  have HW4 := Lib.hid hw4
  have HB4 := Lib.hid (show Below w.heap.size w w4 from (hB1.trans (hb3.mono hB1.size)).trans (hb4.mono (Nat.le_trans hB1.size hb3.size)))
  have hA4 : w4.heap[w.heap.size]? = some (.cells RL.toArray 24 (0, 0)) := (hA1.up hb3).up hb4
  have hk1' : k1 = 0 ∨ k1 = 3 := by rcases hk1 with ⟨h, _⟩ | h; exact .inl h; exact .inr h
  have Hk1 := Lib.hid hk1
  clear hw4 hb3 hb4 hR4 hA1 hA1' hB1 hk1
  go_upto_region 6 with (change wpList _ _ _ _ _ (w3.alloc (.cells stZ.toArray 50)); refine wpList_store_row rfl _ _ _ rfl w3.heap.size S1.toArray rfl rfl 50 stZ.toArray (heap_alloc_new w3 _) HS1.out.1 HS1.out.2 hS1o ?_; rw [← HW4.out])
  have hk1i : -9223372036854775808 ≤ k1 ∧ k1 ≤ 9223372036854775807 := by rcases hk1' with rfl | rfl <;> omega
  go_wp2_with (first | ((with_reducible refine wpList_atA 31 (by rfl) ?_); refine wpList_load_row rfl _ _ rfl w.heap.size rfl 24 RL.toArray (0, 0) _ hA4 Try.underlying24 rfl Hki.out ?_))
  refine Calls.mono (check_any ep hep root Hrr.out.1 RL Hrr.out.2 bs H40.out.2 Ab nb cb Hnb.out hcb Hm.out.2 Hlb.out w4 ((Hb.out.below HB4.out (Nat.le_refl _)).more HB4.out.size)) ?_
  intro e w5 hp
  obtain ⟨S2, k2, rfl, hS2l, hS2o, hk2, hb5⟩ := chk_parts hp
  clear hp
  have HS2 := Lib.hid (storySize hS2l)
  obtain ⟨w6, hw6⟩ : ∃ z, z = (w5.alloc (.cells stZ.toArray 50)).setRow w5.heap.size S2.toArray := ⟨_, rfl⟩
  obtain ⟨hR6, hb6⟩ := alloc_row w5 50 stZ.toArray S2
  rw [← hw6] at hR6 hb6
  have HW6 := Lib.hid hw6
  have HB6 := Lib.hid (show Below w.heap.size w w6 from (HB4.out.trans (hb5.mono HB4.out.size)).trans (hb6.mono (Nat.le_trans HB4.out.size hb5.size)))
  have hk2' : k2 = 0 ∨ k2 = 3 := by rcases hk2 with ⟨h, _⟩ | h; exact .inl h; exact .inr h
  have Hk2 := Lib.hid hk2
  clear hw6 hb5 hb6 hR6 hA4 hk2
  go_upto_region 7 with (change wpList _ _ _ _ _ (w5.alloc (.cells stZ.toArray 50)); refine wpList_store_row rfl _ _ _ rfl w5.heap.size S2.toArray rfl rfl 50 stZ.toArray (heap_alloc_new w5 _) HS2.out.1 HS2.out.2 hS2o ?_; rw [← HW6.out])
  by_cases hk0 : k1 = 3 ∨ k2 = 3
  · have q0 : ((0 : Int) != 0) = false := by simp
    have q3 : ((3 : Int) != 0) = true := by simp
    clear hk1i Hk1 Hk2
    rcases hk1' with rfl | rfl
    · obtain rfl : k2 = 3 := by rcases hk0 with h | h; exact absurd h (by omega); exact h
      clear hk0 hk2'
      go_wp2_with fail
      go_ret
      exact ⟨rfl, HB6.out⟩
    · clear hk0
      rcases hk2' with rfl | rfl
      all_goals
        go_wp2_with fail
        go_ret
        exact ⟨rfl, HB6.out⟩
  obtain rfl : k1 = 0 := by omega
  obtain rfl : k2 = 0 := by omega
  clear hk0 hk1' hk2' hk1i
  obtain ⟨cs, hcs⟩ : ∃ cs, ToldP ep root ra cs := by rcases Hk1.out with ⟨_, h⟩ | h; exact h; omega
  obtain ⟨ds, hds⟩ : ∃ cs, ToldP ep root bs cs := by rcases Hk2.out with ⟨_, h⟩ | h; exact h; omega
  obtain rfl : na = nb := by rw [← Hna.out, ← Hnb.out, hcs.1, hds.1]
  have Hfk := Lib.hid (fun (i : Nat) (h1 : i < ra.length) (h2 : i < bs.length) h => chain_fork i hcs.2.1 hds.2.1 h1 h2 h)
  clear hcs hds cs ds Hk1 Hk2
  have q0 : ((0 : Int) != 0) = false := by simp
  have q1 : ((na : Int) != (na : Int)) = false := by simp
  obtain ⟨Ra, hRa⟩ : ∃ z, z = Ha.out.below HB6.out (Nat.le_refl _) := ⟨_, rfl⟩
  clear hRa
  obtain ⟨Rb, hRb⟩ : ∃ z, z = Hb.out.below HB6.out (Nat.le_refl _) := ⟨_, rfl⟩
  clear hRb
  have Hra := Lib.hid Ra
  have Hrb := Lib.hid Rb
  clear Ra Rb
  have HBs := Lib.hid (Below.refl w6.heap.size w6)
  go_wp2_with fail
  go_loopw [49] (fun p wr => ∃ i : Nat, i ≤ na ∧ p = .int .i64 i ∧ (∀ j, j < i → ra.getD j [] = bs.getD j []) ∧ Below w6.heap.size w6 wr) (fun p _ => na - (intOf p).toNat)
  case atStart => exact ⟨0, Nat.zero_le _, rfl, (fun j hj => absurd hj (Nat.not_lt_zero _)), HBs.out⟩
  case round =>
    obtain ⟨i, hi, rfl, hall, hbw⟩ := hrel
    by_cases hlt : i < na
    · have hia : i < ra.length := by rw [Hna.out]; exact hlt
      have hib : i < bs.length := by rw [Hnb.out]; exact hlt
      have HBw := Lib.hid (HB6.out.trans (hbw.mono HB6.out.size))
      obtain ⟨ba, oa, A1, c1, x, rfl, hba, hx, hxm, hxc, hx1, hx2, hxb⟩ := (Hra.out.below hbw HB6.out.size).at_ hia
      obtain ⟨bb, ob, A2, c2, y, rfl, hbb, hy, hym, hyc, hy1, hy2, hyb⟩ := (Hrb.out.below hbw HB6.out.size).at_ hib
      have Hx := Lib.hid hx
      have Hy := Lib.hid hy
      have hx3 : x.length ≤ 3000 := Hla.out x hxm
      have hy3 : y.length ≤ 3000 := Hlb.out y hym
      have hdg := Lib.hid (show blobDig x = blobDig y from by
        have h := Hfk.out i hia hib hall
        rw [hx, hy] at h
        exact h)
      have Hall := Lib.hid hall
      have Hbw := Lib.hid hbw
      have hws := hbw.size
      have hw6 := HB6.out.size
      obtain ⟨nx, hnx⟩ : ∃ z, z = x.length := ⟨_, rfl⟩
      obtain ⟨ny, hny⟩ : ∃ z, z = y.length := ⟨_, rfl⟩
      have HSm := Lib.hid (fun wz : World => same_any w.heap.size w.heap.size A1 A2 c1 c2 x y wz)
      rw [← hnx] at hxc hx1 hx3 HSm
      rw [← hny] at hyc hy1 hy3 HSm
      have Hnx := Lib.hid hnx
      have Hny := Lib.hid hny
      have hi1 : (i : Int) < (na : Int) := by omega
      have hm1 : c1 ≤ 9223372036854775807 := by unfold maxLen at hx2; exact hx2
      have hm2 : c2 ≤ 9223372036854775807 := by unfold maxLen at hy2; exact hy2
      have Hc := Lib.hid (show c1 ≤ maxLen ∧ c2 ≤ maxLen from ⟨hx2, hy2⟩)
      have Hbx := Lib.hid hxb
      have Hby := Lib.hid hyb
      clear hx hy hxm hym hall hbw hnx hny hx2 hy2 hxb hyb
      go_wp2_with fail
      have hxc' : wr.drew.cell? ⟨ba, oa + i, none⟩ = some (.slice A1 nx c1) := hxc
      have hyc' : wr.drew.cell? ⟨bb, ob + i, none⟩ = some (.slice A2 ny c2) := hyc
      refine wp_region_held_drew (S := fun w' => w'.cell? ⟨ba, oa + i, none⟩ = some (.slice A1 nx c1) ∧ w'.cell? ⟨bb, ob + i, none⟩ = some (.slice A2 ny c2)) (by kernel_rfl) ⟨hxc', hyc'⟩ (fun hHeld => ?_)
      refine anyH_take (i := 0) (v := .slice (some ⟨ba, oa, none⟩) na ca) (some 52) rfl rfl (by kernel_rfl) (by kernel_rfl) (by kernel_rfl) (fun _ _ _ h => h) (Or.inl ⟨by rfl, fun w' hw => by rfl⟩) (by assumption) ?_
      simp only [Act.put, List.setIfInBounds_toArray, List.set_cons_zero, List.set_cons_succ]
      refine anyH_take (i := 1) (v := .int .i64 (i : Nat)) (some 53) rfl rfl (by kernel_rfl) (by kernel_rfl) (by kernel_rfl) (fun _ _ _ h => h) (Or.inl ⟨by rfl, fun w' hw => by rfl⟩) (by assumption) ?_
      simp only [Act.put, List.setIfInBounds_toArray, List.set_cons_zero, List.set_cons_succ]
      refine anyH_take (i := 2) (v := .pointer (some ⟨ba, oa + i, none⟩)) (some 54) rfl rfl (by kernel_rfl) (by kernel_rfl) (by kernel_rfl) (fun _ _ _ h => h) (Or.inl ⟨by rfl, fun w' hw => by go_simp⟩) (by assumption) ?_
      simp only [Act.put, List.setIfInBounds_toArray, List.set_cons_zero, List.set_cons_succ]
      refine anyH_take (i := 3) (v := .slice A1 nx c1) (some 55) rfl rfl (by kernel_rfl) (by kernel_rfl) (by kernel_rfl) (fun _ _ _ h => h) (Or.inl ⟨by rfl, fun w' hw => by (have hc := hw.1; go_simp)⟩) (by assumption) ?_
      simp only [Act.put, List.setIfInBounds_toArray, List.set_cons_zero, List.set_cons_succ]
      refine anyH_take (i := 4) (v := .slice (some ⟨bb, ob, none⟩) na cb) (some 56) rfl rfl (by kernel_rfl) (by kernel_rfl) (by kernel_rfl) (fun _ _ _ h => h) (Or.inl ⟨by rfl, fun w' hw => by rfl⟩) (by assumption) ?_
      simp only [Act.put, List.setIfInBounds_toArray, List.set_cons_zero, List.set_cons_succ]
      refine anyH_take (i := 5) (v := .int .i64 (i : Nat)) (some 57) rfl rfl (by kernel_rfl) (by kernel_rfl) (by kernel_rfl) (fun _ _ _ h => h) (Or.inl ⟨by rfl, fun w' hw => by rfl⟩) (by assumption) ?_
      simp only [Act.put, List.setIfInBounds_toArray, List.set_cons_zero, List.set_cons_succ]
      refine anyH_take (i := 6) (v := .pointer (some ⟨bb, ob + i, none⟩)) (some 58) rfl rfl (by kernel_rfl) (by kernel_rfl) (by kernel_rfl) (fun _ _ _ h => h) (Or.inl ⟨by rfl, fun w' hw => by go_simp⟩) (by assumption) ?_
      simp only [Act.put, List.setIfInBounds_toArray, List.set_cons_zero, List.set_cons_succ]
      refine anyH_take (i := 7) (v := .slice A2 ny c2) (some 59) rfl rfl (by kernel_rfl) (by kernel_rfl) (by kernel_rfl) (fun _ _ _ h => h) (Or.inl ⟨by rfl, fun w' hw => by (have hc := hw.2; go_simp)⟩) (by assumption) ?_
      simp only [Act.put, List.setIfInBounds_toArray, List.set_cons_zero, List.set_cons_succ]
      refine wpAnyH_ready (rs := [8]) (by kernel_rfl) (by simp) ?_
      refine AllReadyH.cons rfl (fun K hK => ?_) AllReadyH.nil
      go_simp
      go_at_call 13
      refine Calls.mono (HSm.out wr.drew (Hbx.out.below (below_drewD w.heap.size wr) (Nat.le_refl _)) (Hby.out.below (below_drewD w.heap.size wr) (Nat.le_refl _)) (by have := Hc.out.1; omega) (by have := Hc.out.2; omega)) ?_
      rintro e wd ⟨rfl, kd, rfl⟩
      go_wp2_with fail
      refine hK.out _ _ ⟨hxc', hyc'⟩ (fun hHeldx => ?_)
      clear hK K
      try simp only [Act.put, List.setIfInBounds_toArray, List.set_cons_zero, List.set_cons_succ]
      obtain ⟨q, hq⟩ : ∃ q, decide (x = y) = q := ⟨_, rfl⟩
      rw [hq]
      have Hq := Lib.hid hq
      clear hq
      refine anyH_take (i := 9) (v := .bool (!q)) (some 61) rfl rfl (by kernel_rfl) (by kernel_rfl) (by kernel_rfl) (fun _ _ _ h => h) (Or.inl ⟨by rfl, fun w' hw => by go_simp⟩) (by assumption) ?_
      simp only [Act.put, List.setIfInBounds_toArray, List.set_cons_zero, List.set_cons_succ]
      refine wpAnyH_done (by kernel_rfl) ?_ _
      have HBd := Lib.hid (fun nd => show Below w6.heap.size w6 (wr.drewN nd) from ⟨Hbw.out.os, Hbw.out.tape, Hbw.out.output, Hbw.out.size, Hbw.out.block⟩)
      cases q with
      | true =>
        go_wp2_with fail
        go_roundw
        case rel => exact ⟨i + 1, by omega, by go_num, (fun j hj => by
          rcases Nat.lt_or_ge j i with h | h
          · exact Hall.out j h
          · obtain rfl : j = i := by omega
            rw [Hx.out, Hy.out]
            exact of_decide_eq_true Hq.out), HBd.out _⟩
        case measure => simp [intOf]; omega
      | false =>
        obtain ⟨F1, hF1⟩ : ∃ z, z = refC (blobDig x) (0 : Nat) nx := ⟨_, rfl⟩
        obtain ⟨F2, hF2⟩ : ∃ z, z = refC (blobDig y) (0 : Nat) ny := ⟨_, rfl⟩
        obtain ⟨D1, hD1⟩ : ∃ z, z = Lib.byteCells (blobDig x) := ⟨_, rfl⟩
        have hD2 : D1 = Lib.byteCells (blobDig y) := by rw [hD1, hdg.out]
        have hfd1 : ∀ w, (Instr.field 26 (.agg F1.toArray) 0).run Try.prog w = .ok (.agg D1.toArray) w := fun w => ref_field0 (blobDig_length _) _ _ F1 D1 hF1 hD1 w
        have hfd2 : ∀ w, (Instr.field 26 (.agg F2.toArray) 0).run Try.prog w = .ok (.agg D1.toArray) w := fun w => ref_field0 (blobDig_length _) _ _ F2 D1 hF2 hD2 w
        have Hdq := Lib.hid (fun w : World => show (Op.equalIn 10000 24 (.agg D1.toArray) (.agg D1.toArray)).run Try.prog w = .ok true w by rw [dig_eqvC (blobDig_length _) (blobDig_length _) hD1 hD1 w, decide_eq_true rfl])
        have HO1 := Lib.hid (fun (wz : World) (h : Bs wz wz.heap.size A1 x) => rof_any 0 x F1 A1 nx c1 wz Hnx.out.symm (by omega) hx1 Hc.out.1 h (by omega) (by omega) hF1)
        have HO2 := Lib.hid (fun (wz : World) (h : Bs wz wz.heap.size A2 y) => rof_any 0 y F2 A2 ny c2 wz Hny.out.symm (by omega) hy1 Hc.out.2 h (by omega) (by omega) hF2)
        clear hF1 hF2 hD1 hD2
        go_wp2_with fail
        obtain ⟨wq, hwq⟩ : ∃ z, z = wr.drewN (1 + kd) := ⟨_, rfl⟩
        have hsq : wq.drew.heap.size = wr.heap.size := by rw [hwq]; rfl
        have hxq : wq.drew.cell? ⟨ba, oa + i, none⟩ = some (.slice A1 nx c1) := by rw [hwq]; exact hxc
        have hyq : wq.drew.cell? ⟨bb, ob + i, none⟩ = some (.slice A2 ny c2) := by rw [hwq]; exact hyc
        have Hbq := Lib.hid (show Below w6.heap.size w6 wq.drew by rw [hwq]; exact HBd.out (1 + kd + 1))
        have Hxq := Lib.hid (show Bs wq.drew wq.drew.heap.size A1 x by
          rw [hwq]; exact (Hbx.out.below (show Below w.heap.size wr (wr.drewN (1 + kd + 1)) from ⟨rfl, rfl, rfl, Nat.le_refl _, fun _ _ => rfl⟩) (Nat.le_refl _)).more (by show w.heap.size ≤ wr.heap.size; omega))
        have Hyq := Lib.hid (show Bs wq.drew wq.drew.heap.size A2 y by
          rw [hwq]; exact (Hby.out.below (show Below w.heap.size wr (wr.drewN (1 + kd + 1)) from ⟨rfl, rfl, rfl, Nat.le_refl _, fun _ _ => rfl⟩) (Nat.le_refl _)).more (by show w.heap.size ≤ wr.heap.size; omega))
        try rw [← hwq]
        clear hwq
        refine wp_region_held_drew (S := fun w' => w'.cell? ⟨ba, oa + i, none⟩ = some (.slice A1 nx c1) ∧ w'.cell? ⟨bb, ob + i, none⟩ = some (.slice A2 ny c2)) (by kernel_rfl) ⟨hxq, hyq⟩ (fun hHeld => ?_)
        refine anyH_take (i := 0) (v := .slice (some ⟨ba, oa, none⟩) na ca) (some 62) rfl rfl (by kernel_rfl) (by kernel_rfl) (by kernel_rfl) (fun _ _ _ h => h) (Or.inl ⟨by rfl, fun w' hw => by rfl⟩) (by assumption) ?_
        simp only [Act.put, List.setIfInBounds_toArray, List.set_cons_zero, List.set_cons_succ]
        refine anyH_take (i := 1) (v := .int .i64 (i : Nat)) (some 63) rfl rfl (by kernel_rfl) (by kernel_rfl) (by kernel_rfl) (fun _ _ _ h => h) (Or.inl ⟨by rfl, fun w' hw => by rfl⟩) (by assumption) ?_
        simp only [Act.put, List.setIfInBounds_toArray, List.set_cons_zero, List.set_cons_succ]
        refine anyH_take (i := 2) (v := .pointer (some ⟨ba, oa + i, none⟩)) (some 64) rfl rfl (by kernel_rfl) (by kernel_rfl) (by kernel_rfl) (fun _ _ _ h => h) (Or.inl ⟨by rfl, fun w' hw => by go_simp⟩) (by assumption) ?_
        simp only [Act.put, List.setIfInBounds_toArray, List.set_cons_zero, List.set_cons_succ]
        refine anyH_take (i := 3) (v := .slice A1 nx c1) (some 65) rfl rfl (by kernel_rfl) (by kernel_rfl) (by kernel_rfl) (fun _ _ _ h => h) (Or.inl ⟨by rfl, fun w' hw => by (have hc := hw.1; go_simp)⟩) (by assumption) ?_
        simp only [Act.put, List.setIfInBounds_toArray, List.set_cons_zero, List.set_cons_succ]
        refine anyH_take (i := 6) (v := .slice (some ⟨bb, ob, none⟩) na cb) (some 68) rfl rfl (by kernel_rfl) (by kernel_rfl) (by kernel_rfl) (fun _ _ _ h => h) (Or.inl ⟨by rfl, fun w' hw => by rfl⟩) (by assumption) ?_
        simp only [Act.put, List.setIfInBounds_toArray, List.set_cons_zero, List.set_cons_succ]
        refine anyH_take (i := 7) (v := .int .i64 (i : Nat)) (some 69) rfl rfl (by kernel_rfl) (by kernel_rfl) (by kernel_rfl) (fun _ _ _ h => h) (Or.inl ⟨by rfl, fun w' hw => by rfl⟩) (by assumption) ?_
        simp only [Act.put, List.setIfInBounds_toArray, List.set_cons_zero, List.set_cons_succ]
        refine anyH_take (i := 8) (v := .pointer (some ⟨bb, ob + i, none⟩)) (some 70) rfl rfl (by kernel_rfl) (by kernel_rfl) (by kernel_rfl) (fun _ _ _ h => h) (Or.inl ⟨by rfl, fun w' hw => by go_simp⟩) (by assumption) ?_
        simp only [Act.put, List.setIfInBounds_toArray, List.set_cons_zero, List.set_cons_succ]
        refine anyH_take (i := 9) (v := .slice A2 ny c2) (some 71) rfl rfl (by kernel_rfl) (by kernel_rfl) (by kernel_rfl) (fun _ _ _ h => h) (Or.inl ⟨by rfl, fun w' hw => by (have hc := hw.2; go_simp)⟩) (by assumption) ?_
        simp only [Act.put, List.setIfInBounds_toArray, List.set_cons_zero, List.set_cons_succ]
        refine wpAnyH_ready (rs := [4]) (by kernel_rfl) (by simp) ?_
        refine AllReadyH.cons rfl (fun K hK => ?_) AllReadyH.nil
        go_simp
        go_at_call 16
        refine Calls.mono (HO1.out _ Hxq.out) ?_
        rintro e we ⟨rfl, hbe⟩
        have hxe : we.cell? ⟨ba, oa + i, none⟩ = some (.slice A1 nx c1) := (hbe.cell (p := ⟨ba, _, none⟩) (by show ba < wq.drew.heap.size; omega)).trans hxq
        have hye : we.cell? ⟨bb, ob + i, none⟩ = some (.slice A2 ny c2) := (hbe.cell (p := ⟨bb, _, none⟩) (by show bb < wq.drew.heap.size; omega)).trans hyq
        have Hbe := Lib.hid (Hbq.out.trans (hbe.mono Hbq.out.size))
        have Hye := Lib.hid ((Hyq.out.below hbe (Nat.le_refl _)).more hbe.size)
        have hse := hbe.size
        go_wp2_with fail
        refine hK.out _ _ ⟨hxe, hye⟩ (fun hHeldx => ?_)
        clear hK K
        try simp only [Act.put, List.setIfInBounds_toArray, List.set_cons_zero, List.set_cons_succ]
        refine anyH_take (i := 5) (v := .agg D1.toArray) (some 67) rfl rfl (by kernel_rfl) (by kernel_rfl) (by kernel_rfl) (fun _ _ _ h => h) (Or.inl ⟨by rfl, fun w' hw => by (simp only [Oper.semAt_some, execOp, Sem.run_bind]; go_simp)⟩) (by assumption) ?_
        simp only [Act.put, List.setIfInBounds_toArray, List.set_cons_zero, List.set_cons_succ]
        refine wpAnyH_ready (rs := [10]) (by kernel_rfl) (by simp) ?_
        refine AllReadyH.cons rfl (fun K hK => ?_) AllReadyH.nil
        go_simp
        go_at_call 16
        refine Calls.mono (HO2.out _ Hye.out) ?_
        rintro e wf ⟨rfl, hbf⟩
        have hxf : wf.cell? ⟨ba, oa + i, none⟩ = some (.slice A1 nx c1) := (hbf.cell (p := ⟨ba, _, none⟩) (by show ba < we.heap.size; omega)).trans hxe
        have hyf : wf.cell? ⟨bb, ob + i, none⟩ = some (.slice A2 ny c2) := (hbf.cell (p := ⟨bb, _, none⟩) (by show bb < we.heap.size; omega)).trans hye
        have Hbf := Lib.hid (Hbe.out.trans (hbf.mono Hbe.out.size))
        go_wp2_with fail
        refine hK.out _ _ ⟨hxf, hyf⟩ (fun hHeldx => ?_)
        clear hK K
        try simp only [Act.put, List.setIfInBounds_toArray, List.set_cons_zero, List.set_cons_succ]
        refine anyH_take (i := 11) (v := .agg D1.toArray) (some 73) rfl rfl (by kernel_rfl) (by kernel_rfl) (by kernel_rfl) (fun _ _ _ h => h) (Or.inl ⟨by rfl, fun w' hw => by go_simp⟩) (by assumption) ?_
        simp only [Act.put, List.setIfInBounds_toArray, List.set_cons_zero, List.set_cons_succ]
        refine anyH_take (i := 12) (v := .bool true) (some 74) rfl rfl (by kernel_rfl) (by kernel_rfl) (by kernel_rfl) (fun _ _ _ h => h) (Or.inl ⟨by rfl, fun w' hw => by (have hd := Hdq.out w'; go_simp)⟩) (by assumption) ?_
        simp only [Act.put, List.setIfInBounds_toArray, List.set_cons_zero, List.set_cons_succ]
        refine anyH_take (i := 13) (v := .bool true) (some 8) rfl rfl (by kernel_rfl) (by kernel_rfl) (by kernel_rfl) (fun _ _ _ h => h) (Or.inl ⟨by rfl, fun w' hw => by rfl⟩) (by assumption) ?_
        simp only [Act.put, List.setIfInBounds_toArray, List.set_cons_zero, List.set_cons_succ]
        refine wpAnyH_done (by kernel_rfl) ?_ _
        go_wp2_with fail
        go_ret
        exact ⟨rfl, HB6.out.trans (Hbf.out.mono HB6.out.size)⟩
    · have hin : i = na := by omega
      subst hin
      have HBw := Lib.hid (HB6.out.trans (hbw.mono HB6.out.size))
      have hd : decide ((i : Int) < (i : Int)) = false := decide_eq_false (by omega)
      clear hall hbw
      go_wp2_with fail
      go_ret
      exact ⟨rfl, HBw.out⟩

theorem afork_any (ep : Nat) (hep : ep < 18446744073709551616) (root : List UInt8) (Aa : Option Addr) (na ca : Nat) (ra : List (List UInt8)) (hna : ra.length = na) (hca : na ≤ ca) (hma : ca ≤ maxLen) (Ab : Option Addr) (nb cb : Nat) (bs : List (List UInt8)) (hnb : bs.length = nb) (hcb : nb ≤ cb) (hmb : cb ≤ maxLen) (w : World) (hr : root.length = 32) (ha : RowsAt w w.heap.size Aa ra) (hb : RowsAt w w.heap.size Ab bs) :
    Calls Try.prog 6 #[.int .u64 ep, .agg (Lib.byteCells root).toArray, .slice Aa na ca, .slice Ab nb cb] w fun e w' => e = .returned (.bool true) ∧ Below w.heap.size w w' :=
  afork_walk ep hep root hr _ rfl ra bs Aa Ab na ca nb cb hna hca hma hnb hcb hmb w ha hb

end Go.Proofs.Ytlfddijmanlneaa

namespace Go.Proofs.Ytlfddijmanlneaa
open Go.RowKit Go.Shelf
set_option linter.unusedVariables false
set_option linter.unusedSimpArgs false

theorem RowsAt.atS {w : World} {B : Nat} {A : Option Addr} {rs : List (List UInt8)} (h : RowsAt w B A rs) {i : Nat} (hi : i < rs.length) : ∃ b o A' c, A = some ⟨b, o, none⟩ ∧ w.cell? ⟨b, o + i, none⟩ = some (.slice A' (rs.getD i []).length c) ∧ (rs.getD i []).length ≤ c ∧ c ≤ maxLen ∧ Bs w B A' (rs.getD i []) := by
  obtain ⟨b, o, e, hb, hc⟩ := h (by omega)
  obtain ⟨A', c, q1, q2, q3, q4⟩ := hc i hi
  exact ⟨b, o, A', c, e, q1, q2, q3, q4⟩
set_option maxHeartbeats 4000000 in
set_option maxRecDepth 100000 in
theorem sevents_any (rs : List (List UInt8)) (B B' : Nat) (Aa Ab : Option Addr) (n ca cb : Nat) (hn : rs.length = n) (hca : n ≤ ca) (hma : ca ≤ 9223372036854775807) (hcb : n ≤ cb) (hmb : cb ≤ 9223372036854775807) (w : World) (ha : RowsAt w B Aa rs) (hb : RowsAt w B' Ab rs) :
    Calls Try.prog 59 #[.slice Aa n ca, .slice Ab n cb] w fun e w' => e = .returned (.bool true) ∧ Drawn w w' := by
  have hb0 : ((n : Int) != (n : Int)) = false := by simp
  have Hn := Lib.hid hn
  have Ha := Lib.hid ha
  have Hb := Lib.hid hb
  clear hn ha hb
  go_enter Try.func59, Try.ntmps59
  go_wp2_with fail
  go_loopw [5] (fun p wr => ∃ i : Nat, i ≤ n ∧ p = .int .i64 i ∧ Drawn w wr) (fun p _ => n - (intOf p).toNat)
  case atStart => exact ⟨0, Nat.zero_le _, rfl, Drawn.refl _⟩
  case round =>
    obtain ⟨i, hi, rfl, nd, rfl⟩ := hrel
    by_cases hlt : i < n
    · have hia : i < rs.length := by rw [Hn.out]; exact hlt
      obtain ⟨x, hx⟩ : ∃ x, x = rs.getD i [] := ⟨_, rfl⟩
      obtain ⟨ba, oa, A1, c1, rfl, hxc, hx1, hx2, hxb⟩ := Ha.out.atS hia
      obtain ⟨bb, ob, A2, c2, rfl, hyc, hy1, hy2, hyb⟩ := Hb.out.atS hia
      rw [← hx] at hxc hx1 hxb hyc hy1 hyb
      have HSm := Lib.hid (fun wz : World => same_any B B' A1 A2 c1 c2 x x wz)
      obtain ⟨nx, hnx⟩ : ∃ z, z = x.length := ⟨_, rfl⟩
      rw [← hnx] at hxc hx1 hyc hy1 HSm
      have hi1 : (i : Int) < (n : Int) := by omega
      have hm1 : c1 ≤ 9223372036854775807 := by unfold maxLen at hx2; exact hx2
      have hm2 : c2 ≤ 9223372036854775807 := by unfold maxLen at hy2; exact hy2
      have Hc := Lib.hid (show c1 ≤ maxLen ∧ c2 ≤ maxLen from ⟨hx2, hy2⟩)
      have Hbx := Lib.hid hxb
      have Hby := Lib.hid hyb
      have Hnx := Lib.hid hnx
      clear hx hx2 hy2 hxb hyb hnx
      go_wp2_with fail
      have hxc' : (w.drewN nd).drew.cell? ⟨ba, oa + i, none⟩ = some (.slice A1 nx c1) := hxc
      have hyc' : (w.drewN nd).drew.cell? ⟨bb, ob + i, none⟩ = some (.slice A2 nx c2) := hyc
      refine wp_region_held_drew (S := fun w' => w'.cell? ⟨ba, oa + i, none⟩ = some (.slice A1 nx c1) ∧ w'.cell? ⟨bb, ob + i, none⟩ = some (.slice A2 nx c2)) (by kernel_rfl) ⟨hxc', hyc'⟩ (fun hHeld => ?_)
      refine anyH_take (i := 0) (v := .slice (some ⟨ba, oa, none⟩) n ca) (some 17) rfl rfl (by kernel_rfl) (by kernel_rfl) (by kernel_rfl) (fun _ _ _ h => h) (Or.inl ⟨by rfl, fun w' hw => by rfl⟩) (by assumption) ?_
      simp only [Act.put, List.setIfInBounds_toArray, List.set_cons_zero, List.set_cons_succ]
      refine anyH_take (i := 1) (v := .int .i64 (i : Nat)) (some 18) rfl rfl (by kernel_rfl) (by kernel_rfl) (by kernel_rfl) (fun _ _ _ h => h) (Or.inl ⟨by rfl, fun w' hw => by rfl⟩) (by assumption) ?_
      simp only [Act.put, List.setIfInBounds_toArray, List.set_cons_zero, List.set_cons_succ]
      refine anyH_take (i := 2) (v := .pointer (some ⟨ba, oa + i, none⟩)) (some 19) rfl rfl (by kernel_rfl) (by kernel_rfl) (by kernel_rfl) (fun _ _ _ h => h) (Or.inl ⟨by rfl, fun w' hw => by go_simp⟩) (by assumption) ?_
      simp only [Act.put, List.setIfInBounds_toArray, List.set_cons_zero, List.set_cons_succ]
      refine anyH_take (i := 3) (v := .slice A1 nx c1) (some 20) rfl rfl (by kernel_rfl) (by kernel_rfl) (by kernel_rfl) (fun _ _ _ h => h) (Or.inl ⟨by rfl, fun w' hw => by (have hc := hw.1; go_simp)⟩) (by assumption) ?_
      simp only [Act.put, List.setIfInBounds_toArray, List.set_cons_zero, List.set_cons_succ]
      refine anyH_take (i := 4) (v := .slice (some ⟨bb, ob, none⟩) n cb) (some 21) rfl rfl (by kernel_rfl) (by kernel_rfl) (by kernel_rfl) (fun _ _ _ h => h) (Or.inl ⟨by rfl, fun w' hw => by rfl⟩) (by assumption) ?_
      simp only [Act.put, List.setIfInBounds_toArray, List.set_cons_zero, List.set_cons_succ]
      refine anyH_take (i := 5) (v := .int .i64 (i : Nat)) (some 22) rfl rfl (by kernel_rfl) (by kernel_rfl) (by kernel_rfl) (fun _ _ _ h => h) (Or.inl ⟨by rfl, fun w' hw => by rfl⟩) (by assumption) ?_
      simp only [Act.put, List.setIfInBounds_toArray, List.set_cons_zero, List.set_cons_succ]
      refine anyH_take (i := 6) (v := .pointer (some ⟨bb, ob + i, none⟩)) (some 23) rfl rfl (by kernel_rfl) (by kernel_rfl) (by kernel_rfl) (fun _ _ _ h => h) (Or.inl ⟨by rfl, fun w' hw => by go_simp⟩) (by assumption) ?_
      simp only [Act.put, List.setIfInBounds_toArray, List.set_cons_zero, List.set_cons_succ]
      refine anyH_take (i := 7) (v := .slice A2 nx c2) (some 24) rfl rfl (by kernel_rfl) (by kernel_rfl) (by kernel_rfl) (fun _ _ _ h => h) (Or.inl ⟨by rfl, fun w' hw => by (have hc := hw.2; go_simp)⟩) (by assumption) ?_
      simp only [Act.put, List.setIfInBounds_toArray, List.set_cons_zero, List.set_cons_succ]
      refine wpAnyH_ready (rs := [8]) (by kernel_rfl) (by simp) ?_
      refine AllReadyH.cons rfl (fun K hK => ?_) AllReadyH.nil
      go_simp
      go_at_call 13
      refine Calls.mono (HSm.out (w.drewN nd).drew (Hbx.out.below (show Below B w (w.drewN nd).drew from ⟨rfl, rfl, rfl, Nat.le_refl _, fun _ _ => rfl⟩) (Nat.le_refl _)) (Hby.out.below (show Below B' w (w.drewN nd).drew from ⟨rfl, rfl, rfl, Nat.le_refl _, fun _ _ => rfl⟩) (Nat.le_refl _)) (by have := Hc.out.1; omega) (by have := Hc.out.1; omega)) ?_
      rintro e wd ⟨rfl, kd, rfl⟩
      go_wp2_with fail
      refine hK.out _ _ ⟨hxc', hyc'⟩ (fun hHeldx => ?_)
      clear hK K
      try simp only [Act.put, List.setIfInBounds_toArray, List.set_cons_zero, List.set_cons_succ]
      try rw [decide_eq_true (show x = x from rfl)]
      refine anyH_take (i := 9) (v := .bool false) (some 26) rfl rfl (by kernel_rfl) (by kernel_rfl) (by kernel_rfl) (fun _ _ _ h => h) (Or.inl ⟨by rfl, fun w' hw => by go_simp⟩) (by assumption) ?_
      simp only [Act.put, List.setIfInBounds_toArray, List.set_cons_zero, List.set_cons_succ]
      refine wpAnyH_done (by kernel_rfl) ?_ _
      go_wp2_with fail
      go_roundw
      case rel => exact ⟨i + 1, by omega, by go_num, _, rfl⟩
      case measure => simp [intOf]; omega
    · have hd : decide ((i : Int) < (n : Int)) = false := decide_eq_false (by omega)
      go_wp2_with fail
      go_ret
      exact ⟨rfl, nd, rfl⟩

end Go.Proofs.Ytlfddijmanlneaa

namespace Go.Proofs.Ytlfddijmanlneaa
open Go.RowKit
set_option linter.unusedVariables false
set_option linter.unusedSimpArgs false

set_option maxHeartbeats 4000000 in
set_option maxRecDepth 100000 in
theorem digSame_any (ds : List (List UInt8)) (A A' : Option Addr) (n c c' : Nat) (w : World) (hn : ds.length = n) (hc : n ≤ c) (hm : c ≤ 9223372036854775807) (hc' : n ≤ c') (hm' : c' ≤ 9223372036854775807) (h : DigsAt w A ds) (h' : DigsAt w A' ds) :
    Calls Try.prog 58 #[.slice A n c, .slice A' n c'] w fun e w' => e = .returned (.bool true) ∧ Drawn w w' := by
  have hb0 : ((n : Int) != (n : Int)) = false := by simp
  have Hn := Lib.hid hn
  have hgt := gt32
  clear hn
  go_enter Try.func58, Try.ntmps58
  go_wp2_with fail
  go_loopw [5] (fun i wr => ∃ k : Nat, k ≤ n ∧ i = .int .i64 k ∧ Drawn w wr) (fun i _ => n - (intOf i).toNat)
  case atStart => exact ⟨0, Nat.zero_le _, rfl, Drawn.refl _⟩
  case round =>
    obtain ⟨k, hk, rfl, nd, rfl⟩ := hrel
    by_cases hlt : k < n
    · have hkd : k < ds.length := by rw [Hn.out]; exact hlt
      obtain ⟨b, off, rfl, hb, hd⟩ := h (by omega)
      obtain ⟨b', off', rfl, hb', hd'⟩ := h' (by omega)
      obtain ⟨h32, hr⟩ := hd k hkd
      obtain ⟨_, hr'⟩ := hd' k hkd
      obtain ⟨x, hx⟩ : ∃ x, ds.getD k [] = x := ⟨_, rfl⟩
      rw [hx] at h32 hr hr'
      obtain ⟨VL, hV⟩ : ∃ V, V = Lib.byteCells x := ⟨_, rfl⟩
      rw [← hV] at hr hr'
      have heq := fun w => eqv_at Try.underlying24 x x h32 h32 VL VL hV hV w
      rw [decide_eq_true rfl] at heq
      have HVz := Lib.hid (show (Try.prog.info? 24).map (·.size) = some VL.length by rw [hV, Lib.byteCells_length, h32]; exact digInfo)
      have hki : (k : Int) < (n : Int) := by omega
      have hr2 : (w.drewN nd).drew.rangeAt b (off + k * 32) VL := hr
      have hr3 : (w.drewN nd).drew.rangeAt b' (off' + k * 32) VL := hr'
      clear hx hV hd hd'
      go_wp2_with fail
      refine wp_region_held_drew (S := fun w' => w'.rangeAt b (off + k * 32) VL ∧ w'.rangeAt b' (off' + k * 32) VL) (by kernel_rfl) ⟨hr2, hr3⟩ (fun hHeld => ?_)
      refine anyH_take (i := 0) (v := .slice (some ⟨b, off, none⟩) n c) (some 17) rfl rfl (by kernel_rfl) (by kernel_rfl) (by kernel_rfl) (fun _ _ _ h => h) (Or.inl ⟨by rfl, fun _ hw => by rfl⟩) (by assumption) ?_
      simp only [Act.put, List.setIfInBounds_toArray, List.set_cons_zero, List.set_cons_succ]
      refine anyH_take (i := 1) (v := .int .i64 (k : Nat)) (some 18) rfl rfl (by kernel_rfl) (by kernel_rfl) (by kernel_rfl) (fun _ _ _ h => h) (Or.inl ⟨by rfl, fun _ hw => by rfl⟩) (by assumption) ?_
      simp only [Act.put, List.setIfInBounds_toArray, List.set_cons_zero, List.set_cons_succ]
      refine anyH_take (i := 2) (v := .pointer (some ⟨b, off + k * 32, none⟩)) (some 19) rfl rfl (by kernel_rfl) (by kernel_rfl) (by kernel_rfl) (fun _ _ _ h => h) (Or.inl ⟨by rfl, fun _ hw => by go_simp⟩) (by assumption) ?_
      simp only [Act.put, List.setIfInBounds_toArray, List.set_cons_zero, List.set_cons_succ]
      refine anyH_take (i := 3) (some 20) rfl rfl (by kernel_rfl) (by kernel_rfl) (by kernel_rfl) (fun _ _ _ h => h) (yieldsIf_load_mid (by rfl) 24 (.tmp 19) rfl b (off + k * 32) rfl VL _ (fun _ h => h.1) Try.underlying24 rfl HVz.out) (by assumption) ?_
      simp only [Act.put, List.setIfInBounds_toArray, List.set_cons_zero, List.set_cons_succ]
      refine anyH_take (i := 4) (v := .slice (some ⟨b', off', none⟩) n c') (some 21) rfl rfl (by kernel_rfl) (by kernel_rfl) (by kernel_rfl) (fun _ _ _ h => h) (Or.inl ⟨by rfl, fun _ hw => by rfl⟩) (by assumption) ?_
      simp only [Act.put, List.setIfInBounds_toArray, List.set_cons_zero, List.set_cons_succ]
      refine anyH_take (i := 5) (v := .int .i64 (k : Nat)) (some 22) rfl rfl (by kernel_rfl) (by kernel_rfl) (by kernel_rfl) (fun _ _ _ h => h) (Or.inl ⟨by rfl, fun _ hw => by rfl⟩) (by assumption) ?_
      simp only [Act.put, List.setIfInBounds_toArray, List.set_cons_zero, List.set_cons_succ]
      refine anyH_take (i := 6) (v := .pointer (some ⟨b', off' + k * 32, none⟩)) (some 23) rfl rfl (by kernel_rfl) (by kernel_rfl) (by kernel_rfl) (fun _ _ _ h => h) (Or.inl ⟨by rfl, fun _ hw => by go_simp⟩) (by assumption) ?_
      simp only [Act.put, List.setIfInBounds_toArray, List.set_cons_zero, List.set_cons_succ]
      refine anyH_take (i := 7) (some 24) rfl rfl (by kernel_rfl) (by kernel_rfl) (by kernel_rfl) (fun _ _ _ h => h) (yieldsIf_load_mid (by rfl) 24 (.tmp 23) rfl b' (off' + k * 32) rfl VL _ (fun _ h => h.2) Try.underlying24 rfl HVz.out) (by assumption) ?_
      simp only [Act.put, List.setIfInBounds_toArray, List.set_cons_zero, List.set_cons_succ]
      refine anyH_take (i := 8) (v := .bool false) (some 25) rfl rfl (by kernel_rfl) (by kernel_rfl) (by kernel_rfl) (fun _ _ _ h => h) (Or.inl ⟨by rfl, fun _ hw => by go_simp⟩) (by assumption) ?_
      simp only [Act.put, List.setIfInBounds_toArray, List.set_cons_zero, List.set_cons_succ]
      refine wpAnyH_done (by kernel_rfl) ?_ _
      clear hHeld heq
      go_wp2_with fail
      go_roundw
      case rel => exact ⟨k + 1, by omega, by go_num, nd + 1, rfl⟩
      case measure => simp [intOf]; omega
    · go_wp2_with fail
      go_ret
      exact ⟨rfl, nd, rfl⟩

end Go.Proofs.Ytlfddijmanlneaa

namespace Go.Proofs.Ytlfddijmanlneaa
open Go.RowKit Go.Shelf
set_option linter.unusedVariables false
set_option linter.unusedSimpArgs false

theorem EvM.rows {w : World} {M : Nat} {vs : Value} {A : Option Addr} {es : List (List UInt8)} (h : EvM w M vs A es) (hM : M ≤ w.heap.size) : RowsAt w w.heap.size A es := fun hp => by
  obtain ⟨b, o, e, h1, h2, h3⟩ := h hp
  refine ⟨b, o, e, h1, fun i hi => ?_⟩
  obtain ⟨A', c, q1, q2, q3, q4⟩ := h3 i hi
  exact ⟨A', c, q1, q2, q3, q4.more hM⟩
/-- A story's cells. -/
def stC (ep : Nat) (A : Option Addr) (n c : Nat) (E : Option Addr) (m k : Nat) : List Value := [.int .u64 ep, .slice A n c, .slice E m k]
structure StAt (w : World) (SL : List Value) (ep : Nat) (ds es : List (List UInt8)) (A : Option Addr) (c : Nat) (E : Option Addr) (k : Nat) : Prop where
  eq : SL = stC ep A ds.length c E es.length k
  lc : ds.length ≤ c
  mc : c ≤ maxLen
  lk : es.length ≤ k
  mE : k ≤ maxLen
  digs : DigsAt w A ds
  rows : RowsAt w w.heap.size E es

set_option maxHeartbeats 8000000 in
set_option maxRecDepth 100000 in
theorem asame_any (w : World) (S1 S2 : List Value) (ep : Nat) (ds es : List (List UInt8)) (A1 A2 E1 E2 : Option Addr) (c1 c2 k1 k2 : Nat) (h1 : StAt w S1 ep ds es A1 c1 E1 k1) (h2 : StAt w S2 ep ds es A2 c2 E2 k2) :
    Calls Try.prog 22 #[.agg S1.toArray, .agg S2.toArray] w fun e w' => e = .returned (.bool true) ∧ Below w.heap.size w w' := by
  have hm1 : c1 ≤ 9223372036854775807 := by have := h1.mc; unfold maxLen at this; exact this
  have hm2 : c2 ≤ 9223372036854775807 := by have := h2.mc; unfold maxLen at this; exact this
  have hn1 : k1 ≤ 9223372036854775807 := by have := h1.mE; unfold maxLen at this; exact this
  have hn2 : k2 ≤ 9223372036854775807 := by have := h2.mE; unfold maxLen at this; exact this
  obtain ⟨nd, hnd⟩ : ∃ z, z = ds.length := ⟨_, rfl⟩
  obtain ⟨ne, hne⟩ : ∃ z, z = es.length := ⟨_, rfl⟩
  have hl1 : S1 = stC ep A1 nd c1 E1 ne k1 := by rw [hnd, hne]; exact h1.eq
  have hl2 : S2 = stC ep A2 nd c2 E2 ne k2 := by rw [hnd, hne]; exact h2.eq
  have HS1 := Lib.hid (show S1[0]? = some (.int .u64 ep) ∧ S1[1]? = some (.slice A1 nd c1) ∧ S1[2]? = some (.slice E1 ne k1) by rw [hl1]; exact ⟨rfl, rfl, rfl⟩)
  have HS2 := Lib.hid (show S2[0]? = some (.int .u64 ep) ∧ S2[1]? = some (.slice A2 nd c2) ∧ S2[2]? = some (.slice E2 ne k2) by rw [hl2]; exact ⟨rfl, rfl, rfl⟩)
  obtain ⟨W1, hW1⟩ : ∃ z, z = w.alloc (.cells S1.toArray 50) := ⟨_, rfl⟩
  obtain ⟨W2, hW2⟩ : ∃ z, z = W1.alloc (.cells S2.toArray 50) := ⟨_, rfl⟩
  have s1 : W1.heap.size = w.heap.size + 1 := by rw [hW1]; simp
  have hA2 : Arr W2 w.heap.size 50 S1 := by rw [hW2, hW1]; exact (Arr.new w _ S1).alloc _
  have hB2 : Arr W2 (w.heap.size + 1) 50 S2 := by rw [← s1, hW2]; exact Arr.new W1 _ S2
  have hb : Below w.heap.size w W2 := by rw [hW2, hW1]; exact ((Below.refl _ w).alloc (Nat.le_refl _) _).alloc (by simp) _
  have HW2 := Lib.hid (show W2 = (w.alloc (.cells S1.toArray 50)).alloc (.cells S2.toArray 50) by rw [hW2, hW1])
  have H1 := Lib.hid h1
  have H2 := Lib.hid h2
  have Hnd := Lib.hid hnd
  have Hne := Lib.hid hne
  have Hb := Lib.hid hb
  clear hW1 hW2 hl1 hl2 hnd hne h1 h2 hb s1
  go_enter Try.func22, Try.ntmps22
  go_upto_region 1 with fail
  try change Code.wp _ _ _ _ ((w.alloc (.cells S1.toArray 50)).alloc (.cells S2.toArray 50))
  rw [← HW2.out]
  have hbd : Below w.heap.size w W2 := Hb.out
  have a0 : W2.cell? ⟨w.heap.size, 0, none⟩ = some (.int .u64 ep) := (hA2.cell 0).trans HS1.out.1
  have a1 : W2.cell? ⟨w.heap.size, 1, none⟩ = some (.slice A1 nd c1) := (hA2.cell 1).trans HS1.out.2.1
  have b0 : W2.cell? ⟨w.heap.size + 1, 0, none⟩ = some (.int .u64 ep) := (hB2.cell 0).trans HS2.out.1
  have b1 : W2.cell? ⟨w.heap.size + 1, 1, none⟩ = some (.slice A2 nd c2) := (hB2.cell 1).trans HS2.out.2.1
  go_wp2_with fail
  refine Calls.mono (digSame_any ds A1 A2 nd c1 c2 W2 Hnd.out.symm (by rw [Hnd.out]; exact H1.out.lc) hm1 (by rw [Hnd.out]; exact H2.out.lc) hm2 (H1.out.digs.below hbd) (H2.out.digs.below hbd)) ?_
  rintro e w3 ⟨rfl, nd3, rfl⟩
  have a2 : (W2.drewN nd3).cell? ⟨w.heap.size, 2, none⟩ = some (.slice E1 ne k1) := (hA2.cell 2).trans HS1.out.2.2
  have b2 : (W2.drewN nd3).cell? ⟨w.heap.size + 1, 2, none⟩ = some (.slice E2 ne k2) := (hB2.cell 2).trans HS2.out.2.2
  go_wp2_with fail
  refine Calls.mono (sevents_any es w.heap.size w.heap.size E1 E2 ne k1 k2 Hne.out.symm (by rw [Hne.out]; exact H1.out.lk) hn1 (by rw [Hne.out]; exact H2.out.lk) hn2 _ (H1.out.rows.below (show Below w.heap.size w _ from ⟨hbd.os, hbd.tape, hbd.output, hbd.size, hbd.block⟩) (Nat.le_refl _)) (H2.out.rows.below (show Below w.heap.size w _ from ⟨hbd.os, hbd.tape, hbd.output, hbd.size, hbd.block⟩) (Nat.le_refl _))) ?_
  rintro e w4 ⟨rfl, nd4, rfl⟩
  go_wp2_with fail
  go_ret
  exact ⟨rfl, ⟨hbd.os, hbd.tape, hbd.output, hbd.size, hbd.block⟩⟩


end Go.Proofs.Ytlfddijmanlneaa

namespace Go.Proofs.Ytlfddijmanlneaa
open Go.RowKit Go.Shelf
set_option linter.unusedVariables false
set_option linter.unusedSimpArgs false

theorem wpList_load_row_ifL {P : Program} {ops : Array Oper} {rest : List Oper} {o : Oper} {a : Act} {w : World} {Q : Exit → Act → World → Prop} (hw : Region.wanted o (yielded ops a.tmps) = true) (ty : TypeId) (x : Operand) (ho : o.op = .load ty x) (g : Nat) (hx : a.eval x = .pointer (some ⟨g, 0, none⟩))
    (t : TypeId) (cs : Array Value) (d : TypeDesc) (hg : w.heap[g]? = some (.cells cs t (0, 0))) (hu : P.underlying ty = some d) (hd : (match d with | .struct _ | .array _ _ => true | _ => false) = true) (hi : (P.info? ty).map (·.size) = some cs.size)
    (h : wpList P ops Q rest (a.put o.dst (.agg cs)) w) : wpList P ops Q (o :: rest) a w :=
  wpList_step fun K hK => by
    rw [if_pos hw]
    unfold Oper.wp execOp
    simp only [ho, hx, Sem.run_bind, run_loadAt_row w g t ty cs d hg hu hd hi, Result.andThen_ok]
    exact hK _ _ h
theorem wpList_built_ifL {P : Program} {ops : Array Oper} {rest : List Oper} {o : Oper} {a : Act} {w : World} {Q : Exit → Act → World → Prop} (hw : Region.wanted o (yielded ops a.tmps) = true) (t : TypeId) (parts : Array (Nat × Operand)) (ho : o.op = .build t parts)
    (ps : List (Nat × Value)) (hp : parts.toList.map (fun x => (x.1, a.eval x.2)) = ps) (cells : Array Value) (hf : P.built t ps = some cells)
    (h : wpList P ops Q rest (a.put o.dst (.agg cells)) w) : wpList P ops Q (o :: rest) a w :=
  wpList_step fun K hK => by
    rw [if_pos hw]
    unfold Oper.wp execOp
    simp only [ho, Sem.run_bind, run_build w t _ cells (show P.built t (parts.map fun (i, x) => (i, a.eval x)).toList = some cells by rw [← hf, ← hp]; simp), Result.andThen_ok, Sem.run_pure]
    exact hK _ _ h
theorem Bs.here {w : World} {B : Nat} {A : Option Addr} {l : List UInt8} (h : Bs w B A l) : Bs w w.heap.size A l := fun hp => by
  obtain ⟨b, o, e, hb, hj⟩ := h hp
  exact ⟨b, o, e, cell_ltA (hj 0 hp), hj⟩
theorem LRow.here {w : World} {B : Nat} {v : Value} {rs : List (List UInt8)} (h : LRow w B v rs) : ∃ A c, v = .slice A rs.length c ∧ rs.length ≤ c ∧ c ≤ maxLen ∧ RowsAt w w.heap.size A rs := by
  obtain ⟨A, c, e, h1, h2, h3⟩ := h.ev (vs := .slice none 0 0) (fun g _ e => by simp [Value.ownBlock] at e)
  refine ⟨A, c, e, h1, h2, fun hp => ?_⟩
  obtain ⟨b, o, e, hb, _, hc⟩ := h3 hp
  refine ⟨b, o, e, hb, fun i hi => ?_⟩
  obtain ⟨A', c', q1, q2, q3, q4⟩ := hc i hi
  exact ⟨A', c', q1, q2, q3, q4.here⟩
theorem StAt.below {w w' : World} {SL : List Value} {ep : Nat} {ds es : List (List UInt8)} {A : Option Addr} {c : Nat} {E : Option Addr} {k : Nat} (h : StAt w SL ep ds es A c E k) (hb : Below w.heap.size w w') : StAt w' SL ep ds es A c E k :=
  ⟨h.eq, h.lc, h.mc, h.lk, h.mE, h.digs.below hb, (h.rows.below hb (Nat.le_refl _)).more hb.size⟩
theorem StAt.zero (w : World) : StAt w stZ 0 [] [] none 0 none 0 :=
  ⟨rfl, Nat.le_refl _, by unfold maxLen; omega, Nat.le_refl _, by unfold maxLen; omega, fun h => absurd h (Nat.lt_irrefl 0), fun h => absurd h (Nat.lt_irrefl 0)⟩
theorem stC_one {ep : Nat} {A : Option Addr} {n c : Nat} {E : Option Addr} {m k : Nat} : (stC ep A n c E m k).toArray.all (·.oneCell') = true := by
  rw [List.all_toArray, List.all_eq_true]
  intro v hv
  simp only [stC, List.mem_cons, List.not_mem_nil, or_false] at hv
  rcases hv with rfl | rfl | rfl <;> rfl
theorem stZ_one : stZ.toArray.all (·.oneCell') = true := by
  rw [List.all_toArray, List.all_eq_true]
  intro v hv
  simp only [stZ, List.mem_cons, List.not_mem_nil, or_false] at hv
  rcases hv with rfl | rfl | rfl <;> rfl
theorem chk_story {ep : Nat} {root : List UInt8} {bs : List (List UInt8)} {w W' : World} {e : Ending} (h : ChkPost ep root bs w e W') : ∃ (SL : List Value) (k : Int), e = .returned (.tuple #[.agg SL.toArray, .int .i64 k]) ∧ SL.length = 3 ∧ SL.toArray.all (·.oneCell') = true ∧ ((k = 0 ∧ ∃ cs A c E m, ToldP ep root bs cs ∧ StAt W' SL ep (cs.reverse.map fun c => c.st) (cs.reverse.flatMap fun c => c.evs) A c E m) ∨ (k = 3 ∧ SL = stZ ∧ ∀ cs, ¬ ToldP ep root bs cs)) ∧ Below w.heap.size w W' := by
  obtain ⟨hb, ⟨cs, vs, ve, B, h1, rfl, _, h2, h3⟩ | ⟨h1, rfl⟩⟩ := h
  · obtain ⟨A, c, rfl, a1, a2, a3⟩ := h2.slice
    obtain ⟨E, m, rfl, b1, b2, b3⟩ := h3.here
    exact ⟨stC ep A _ c E _ m, 0, rfl, rfl, stC_one, .inl ⟨rfl, cs, A, c, E, m, h1, ⟨rfl, a1, a2, b1, b2, a3, b3⟩⟩, hb⟩
  · exact ⟨stZ, 3, rfl, rfl, stZ_one, .inr ⟨rfl, rfl, h1⟩, hb⟩
theorem story_built (ep : Nat) (A : Option Addr) (n c : Nat) (E : Option Addr) (m k : Nat) : Try.prog.built 50 [(0, .int .u64 ep), (1, .slice A n c), (2, .slice E m k)] = some (stC ep A n c E m k).toArray := by kernel_rfl
theorem EvM.past {w w' : World} {M g lo : Nat} {vs : Value} {A : Option Addr} {es : List (List UInt8)} (h : EvM w M vs A es) (hM : M ≤ w.heap.size) (hS : Arr w g 50 stZ) (hO : Only (fun k => k = g) w w') (hg : g < lo) (hea : ∀ a : Addr, A = some a → lo ≤ a.block) : RowsAt w' w'.heap.size A es := fun hp => by
  obtain ⟨b, o, e, h1, h2, h3⟩ := h hp
  have hb : lo ≤ b := hea _ e
  refine ⟨b, o, e, Nat.lt_of_lt_of_le h1 hO.size, fun i hi => ?_⟩
  obtain ⟨A', c, q1, q2, q3, q4⟩ := h3 i hi
  refine ⟨A', c, by rw [World.cell?_of_block (a := ⟨b, o + i, none⟩) (hO.block b h1 (by omega))]; exact q1, q2, q3, fun hq => ?_⟩
  obtain ⟨b2, o2, e2, hb2, hj⟩ := q4 hq
  have hne : b2 ≠ g := by
    rintro rfl
    have := hj 0 hq
    rw [hS.cell] at this
    generalize o2 + 0 = k at this
    rcases k with _ | _ | _ | k <;> simp [stZ] at this
  exact ⟨b2, o2, e2, by have := hO.size; omega, fun j hjl => by rw [World.cell?_of_block (a := ⟨b2, o2 + j, none⟩) (hO.block b2 (cell_ltA (hj j hjl)) hne)]; exact hj j hjl⟩
/-- What the law's told answers. -/
def TPost (ep : Nat) (root : List UInt8) (bs : List (List UInt8)) (w : World) (e : Ending) (W' : World) : Prop :=
  Below w.heap.size w W' ∧ ∃ (SL : List Value) (ok : Bool), e = .returned (.tuple #[.agg SL.toArray, .bool ok]) ∧ SL.length = 3 ∧ SL.toArray.all (·.oneCell') = true ∧ ((ok = true ∧ ∃ cs A c E m, ToldP ep root bs cs ∧ StAt W' SL ep (cs.reverse.map fun c => c.st) (cs.reverse.flatMap fun c => c.evs) A c E m) ∨ (ok = false ∧ ∀ cs, ¬ ToldP ep root bs cs))

set_option maxHeartbeats 8000000 in
set_option maxRecDepth 100000 in
theorem told_any (ep : Nat) (hep : ep < 18446744073709551616) (root : List UInt8) (hr : root.length = 32) (RL : List Value) (hRL : RL = Lib.byteCells root) (bs : List (List UInt8)) (h40 : bs.length ≤ 40) (A : Option Addr) (n c : Nat) (hn : bs.length = n) (hc : n ≤ c) (hcm : c ≤ maxLen) (h3000 : ∀ b ∈ bs, b.length ≤ 3000) (w : World) (hrows : RowsAt w w.heap.size A bs) :
    Calls Try.prog 21 #[.int .u64 ep, .agg RL.toArray, .slice A n c] w (TPost ep root bs w) := by
  have hcm' : c ≤ 9223372036854775807 := by unfold maxLen at hcm; exact hcm
  have hRl : RL.length = 32 := by rw [hRL, Lib.byteCells_length, hr]
  have Hki := Lib.hid (show (Try.prog.info? 24).map (·.size) = some RL.toArray.size by rw [List.size_toArray, hRl]; exact digInfo)
  obtain ⟨W0, hW0⟩ : ∃ z, z = w.alloc (.cells RL.toArray 24) := ⟨_, rfl⟩
  obtain ⟨W1, hW1⟩ : ∃ z, z = W0.alloc (.cells #[.int .u64 0, .slice none 0 0, .slice none 0 0] 50) := ⟨_, rfl⟩
  have s0 : W0.heap.size = w.heap.size + 1 := by rw [hW0]; simp
  have hA1 : W1.heap[w.heap.size]? = some (.cells RL.toArray 24 (0, 0)) := by
    have : Arr W1 w.heap.size 24 RL := by rw [hW1, hW0]; exact (Arr.new w _ RL).alloc _
    exact this
  have hS1 : Arr W1 (w.heap.size + 1) 50 stZ := by rw [← s0, hW1]; exact Arr.new W0 _ stZ
  have hb1 : Below w.heap.size w W1 := by rw [hW1, hW0]; exact ((Below.refl _ w).alloc (Nat.le_refl _) _).alloc (by simp) _
  have HW1 := Lib.hid (show W1 = (w.alloc (.cells RL.toArray 24)).alloc (.cells #[.int .u64 0, .slice none 0 0, .slice none 0 0] 50) by rw [hW1, hW0])
  have Hck := Lib.hid (rchk_any ep hep root hr RL hRL bs h40 A n c hn hc hcm h3000 W1 ((hrows.below hb1 (Nat.le_refl _)).more hb1.size))
  have hSi : (Try.prog.info? 50).map (·.size) = some stZ.toArray.size := by kernel_rfl
  have hSb : Try.prog.built 50 [] = some stZ.toArray := by kernel_rfl
  clear hW0 hW1 hRL hRl hr h40 h3000 hrows hcm s0 hn
  go_enter Try.func21, Try.ntmps21
  go_upto_region 1 with fail
  try change Code.wp _ _ _ _ ((w.alloc (.cells RL.toArray 24)).alloc (.cells #[.int .u64 0, .slice none 0 0, .slice none 0 0] 50))
  rw [← HW1.out]
  go_wp2_with (first | ((with_reducible refine wpList_atA 13 (by rfl) ?_); refine wpList_load_row rfl _ _ rfl w.heap.size rfl 24 RL.toArray (0, 0) _ hA1 Try.underlying24 rfl Hki.out ?_))
  refine Calls.mono Hck.out ?_
  rintro e w3 ⟨hb3, vs, As, es, ce, ok, ds, MM, rfl, hM1, hM2, hdr, hce1, hce2, ⟨hev, hea⟩, hok1, hok2, hdl, hel⟩
  obtain ⟨A2, c2, rfl, a1, a2, a3⟩ := hdr.slice
  have hS3 : w3.heap[w.heap.size + 1]? = some (.cells stZ.toArray 50 (0, 0)) := hS1.up hb3
  have hB3 := hb1.trans (hb3.mono hb1.size)
  have HB3 := Lib.hid hB3
  have Hev := Lib.hid hev
  have Hea := Lib.hid hea
  have Hdr := Lib.hid hdr
  have hM3 : w.heap.size + 1 < MM := by have := hS1.lt; omega
  have Hok1 := Lib.hid hok1
  have Hok2 := Lib.hid hok2
  have Hds := Lib.hid a3
  have hw1 := hS1.lt
  have hs3 := hb3.size
  obtain ⟨nd, hnd⟩ : ∃ z, z = ds.length := ⟨_, rfl⟩
  obtain ⟨ne, hne⟩ : ∃ z, z = es.length := ⟨_, rfl⟩
  have Hnd := Lib.hid hnd
  have Hne := Lib.hid hne
  rw [← hnd] at a1 ⊢
  rw [← hne] at hce1 ⊢
  clear hnd hne hb3 hdr hev hea hok1 hok2 hdl hel a3 hB3 hb1 hA1 hS1 Hck HW1
  cases ok with
  | false =>
    have H4 := Lib.hid (((Only.refl (fun k => k = w.heap.size + 1) w3).setRow (g := w.heap.size + 1) (.inl rfl) stZ.toArray).below (B := w.heap.size) HB3.out.size (by rintro k rfl; omega))
    have g4 : Arr (w3.setRow (w.heap.size + 1) stZ.toArray) (w.heap.size + 1) 50 stZ := (show Arr w3 (w.heap.size + 1) 50 stZ from hS3).setRow stZ
    go_wp2_with (first
      | ((with_reducible refine wpList_atA 21 (by rfl) ?_); refine wpList_builtD rfl _ _ rfl _ rfl stZ.toArray hSb ?_)
      | (refine wpList_store_row rfl _ _ _ rfl (w.heap.size + 1) stZ.toArray rfl rfl 50 stZ.toArray hS3 hSi (Eq.refl _) stZ_one ?_))
    refine bodyPost_ret (results_cell2 rfl _ _ (w.heap.size + 1) 50 stZ.toArray (0, 0) _ (by rfl) (.bool false) (by rfl) g4 Try.underlying50 rfl hSi) rfl ?_
    exact ⟨HB3.out.trans H4.out, stZ, false, rfl, rfl, stZ_one, .inr ⟨rfl, by first | exact Hok2.out rfl | exact Hok2.out trivial⟩⟩
  | true =>
    obtain ⟨SL, hSL⟩ : ∃ z, z = stC ep A2 nd c2 As ne ce := ⟨_, rfl⟩
    have hSl : SL.length = 3 := by rw [hSL]; rfl
    have HSb := Lib.hid (show Try.prog.built 50 [(0, .int .u64 ep), (1, .slice A2 nd c2), (2, .slice As ne ce)] = some SL.toArray by rw [hSL]; exact story_built _ _ _ _ _ _ _)
    have HSi := Lib.hid (storySize hSl)
    have HS1 := Lib.hid (show SL.toArray.all (·.oneCell') = true by rw [hSL]; exact stC_one)
    have HSL := Lib.hid hSL
    have H4 := Lib.hid (((Only.refl (fun k => k = w.heap.size + 1) w3).setRow (g := w.heap.size + 1) (.inl rfl) SL.toArray))
    have g4 : Arr (w3.setRow (w.heap.size + 1) SL.toArray) (w.heap.size + 1) 50 SL := (show Arr w3 (w.heap.size + 1) 50 stZ from hS3).setRow SL
    clear hSL
    go_wp2_with (first
      | ((with_reducible refine wpList_atA 25 (by rfl) ?_); refine wpList_builtD rfl _ _ rfl _ rfl SL.toArray HSb.out ?_)
      | (refine wpList_store_row rfl _ _ _ rfl (w.heap.size + 1) SL.toArray rfl rfl 50 stZ.toArray hS3 HSi.out.1 HSi.out.2 HS1.out ?_))
    refine bodyPost_ret (results_cell2 rfl _ _ (w.heap.size + 1) 50 SL.toArray (0, 0) _ (by rfl) (.bool true) (by rfl) g4 Try.underlying50 rfl HSi.out.1) rfl ?_
    have hd4 := Hdr.out.keptA (W' := w3.setRow (w.heap.size + 1) SL.toArray) fun g hg => H4.out.block g (Hdr.out.lt g hg).2 (by have := (Hdr.out.lt g hg).1; omega)
    obtain ⟨A', c', he, _, _, hdg⟩ := hd4.slice
    obtain rfl : A2 = A' := (Value.slice.inj he).1
    obtain ⟨cs, hcs, e1, e2⟩ := Hok1.out (by first | rfl | trivial)
    refine ⟨HB3.out.trans (H4.out.below (B := w.heap.size) HB3.out.size (by rintro k rfl; omega)), SL, true, rfl, hSl, HS1.out, .inl ⟨rfl, cs, A2, c2, As, ce, hcs, ?_⟩⟩
    rw [← e1, ← e2]
    exact ⟨by rw [HSL.out, Hnd.out, Hne.out], by rw [← Hnd.out]; exact a1, a2, by rw [← Hne.out]; exact hce1, hce2, hdg, Hev.out.past hM2 hS3 H4.out hw1 Hea.out⟩

set_option maxHeartbeats 16000000 in
set_option maxRecDepth 100000 in
theorem achecks_walk (ep : Nat) (hep : ep < 18446744073709551616) (root : List UInt8) (Aa : Option Addr) (na ca : Nat) (ra : List (List UInt8)) (hna : ra.length = na) (hca : na ≤ ca) (hma : ca ≤ maxLen) (w : World) (hr : root.length = 32) (ha : RowsAt w w.heap.size Aa ra) :
    Calls Try.prog 5 #[.int .u64 ep, .agg (Lib.byteCells root).toArray, .slice Aa na ca] w fun e w' => e = .returned (.bool true) ∧ Below w.heap.size w w' := by
  have hma' : ca ≤ 9223372036854775807 := by unfold maxLen at hma; exact hma
  obtain ⟨RL, hRL⟩ : ∃ z, z = Lib.byteCells root := ⟨_, rfl⟩
  rw [← hRL]
  have hRl : RL.length = 32 := by rw [hRL, Lib.byteCells_length, hr]
  have Hki := Lib.hid (show (Try.prog.info? 24).map (·.size) = some RL.toArray.size by rw [List.size_toArray, hRl]; exact digInfo)
  have Hrr := Lib.hid (show root.length = 32 ∧ RL = Lib.byteCells root from ⟨hr, hRL⟩)
  have Hna := Lib.hid hna
  have Hm := Lib.hid hma
  obtain ⟨W0, hW0⟩ : ∃ z, z = w.alloc (.cells RL.toArray 24) := ⟨_, rfl⟩
  have hA0 : Arr W0 w.heap.size 24 RL := by rw [hW0]; exact Arr.new w _ _
  have hB0 : Below w.heap.size w W0 := by rw [hW0]; exact (Below.refl _ w).alloc (Nat.le_refl _) _
  have HW0 := Lib.hid hW0
  have Ha := Lib.hid ha
  clear hW0 hma hRL hr hna hRl ha
  go_enter Try.func5, Try.ntmps5
  go_wp2_with fail
  change Calls _ _ _ (w.alloc (.cells RL.toArray 24)) _
  rw [← HW0.out]
  refine Calls.mono (speaks17_any _) ?_
  rintro e w1 ⟨rfl, hb1⟩
  have hB1 := hB0.trans (hb1.mono hB0.size)
  have hA1 := hA0.up hb1
  go_wp2_with fail
  refine Calls.mono (greatA_any w.heap.size ra Aa na ca w1 Hna.out hca hma' (Ha.out.below hB1 (Nat.le_refl _))) ?_
  rintro e w2 ⟨rfl, rfl⟩
  cases hga : greatA ra with
  | true =>
    clear hb1 hA1 hA0 hB0
    go_wp2_with fail
    go_ret
    exact ⟨rfl, hB1⟩
  | false =>
  obtain ⟨ha40, ha3⟩ := greatA_no hga
  have Hla := Lib.hid ha3
  have H40 := Lib.hid ha40
  clear hga ha40 ha3 hb1 hA0 hB0
  have hA1' : w2.heap[w.heap.size]? = some (.cells RL.toArray 24 (0, 0)) := hA1
  go_wp2_with (first | ((with_reducible refine wpList_atA 17 (by rfl) ?_); refine wpList_load_row rfl _ _ rfl w.heap.size rfl 24 RL.toArray (0, 0) _ hA1' Try.underlying24 rfl Hki.out ?_))
  refine Calls.mono (check_any ep hep root Hrr.out.1 RL Hrr.out.2 ra H40.out Aa na ca Hna.out hca Hm.out Hla.out w2 ((Ha.out.below hB1 (Nat.le_refl _)).more hB1.size)) ?_
  intro e w3 hp
  obtain ⟨S1, k1, rfl, hS1l, hS1o, hk1, hb3⟩ := chk_story hp
  clear hp
  have HS1 := Lib.hid (storySize hS1l)
  obtain ⟨w4, hw4⟩ : ∃ z, z = (w3.alloc (.cells stZ.toArray 50)).setRow w3.heap.size S1.toArray := ⟨_, rfl⟩
  obtain ⟨hR4, hb4⟩ := alloc_row w3 50 stZ.toArray S1
  rw [← hw4] at hR4 hb4
  have HW4 := Lib.hid hw4
  have Hb4 := Lib.hid hb4
  have HB4 := Lib.hid (show Below w.heap.size w w4 from (hB1.trans (hb3.mono hB1.size)).trans (hb4.mono (Nat.le_trans hB1.size hb3.size)))
  have hA4 : w4.heap[w.heap.size]? = some (.cells RL.toArray 24 (0, 0)) := (hA1.up hb3).up hb4
  have hk1' : k1 = 0 ∨ k1 = 3 := by rcases hk1 with ⟨h, _⟩ | ⟨h, _⟩; exact .inl h; exact .inr h
  have Hk1 := Lib.hid hk1
  clear hw4 hb3 hb4 hA1 hA1' hB1 hk1
  go_upto_region 6 with (change wpList _ _ _ _ _ (w3.alloc (.cells stZ.toArray 50)); refine wpList_store_row rfl _ _ _ rfl w3.heap.size S1.toArray rfl rfl 50 stZ.toArray (heap_alloc_new w3 _) HS1.out.1 HS1.out.2 hS1o ?_; rw [← HW4.out])
  go_wp2_with (first | ((with_reducible refine wpList_atA 24 (by rfl) ?_); refine wpList_load_row rfl _ _ rfl w.heap.size rfl 24 RL.toArray (0, 0) _ hA4 Try.underlying24 rfl Hki.out ?_))
  refine Calls.mono (told_any ep hep root Hrr.out.1 RL Hrr.out.2 ra H40.out Aa na ca Hna.out hca Hm.out Hla.out w4 ((Ha.out.below HB4.out (Nat.le_refl _)).more HB4.out.size)) ?_
  rintro e w5 ⟨hb5, S2, ok, rfl, hS2l, hS2o, hok⟩
  have HS2 := Lib.hid (storySize hS2l)
  obtain ⟨w6, hw6⟩ : ∃ z, z = (w5.alloc (.cells stZ.toArray 50)).setRow w5.heap.size S2.toArray := ⟨_, rfl⟩
  obtain ⟨hR6, hb6⟩ := alloc_row w5 50 stZ.toArray S2
  rw [← hw6] at hR6 hb6
  have HW6 := Lib.hid hw6
  have Hb6 := Lib.hid hb6
  have Hb46 := Lib.hid (show Below w4.heap.size w4 w6 from hb5.trans (hb6.mono hb5.size))
  have HB6 := Lib.hid (show Below w.heap.size w w6 from HB4.out.trans (Hb46.out.mono HB4.out.size))
  have hR46 : Arr w6 w3.heap.size 50 S1 := hR4.up Hb46.out
  have Hok := Lib.hid hok
  have hw34 := hR4.lt
  have hw36 : w4.heap.size ≤ w5.heap.size := hb5.size
  clear hw6 hb5 hb6 hA4 hok hR4
  go_upto_region 7 with (change wpList _ _ _ _ _ (w5.alloc (.cells stZ.toArray 50)); refine wpList_store_row rfl _ _ _ rfl w5.heap.size S2.toArray rfl rfl 50 stZ.toArray (heap_alloc_new w5 _) HS2.out.1 HS2.out.2 hS2o ?_; rw [← HW6.out])
  have hS1' : w6.heap[w3.heap.size]? = some (.cells S1.toArray 50 (0, 0)) := hR46
  have hS2' : w6.heap[w5.heap.size]? = some (.cells S2.toArray 50 (0, 0)) := hR6
  have q3 : ((3 : Int) == 3) = true := by simp
  have q0 : ((0 : Int) == 0) = true := by simp
  cases ok with
  | false =>
    have hno : ∀ cs, ¬ ToldP ep root ra cs := by rcases Hok.out with ⟨h, _⟩ | ⟨_, h⟩; exact absurd h (by simp); exact h
    obtain ⟨rfl, rfl⟩ : k1 = 3 ∧ S1 = stZ := by
      rcases Hk1.out with ⟨_, cs, A, c, E, m, h, _⟩ | ⟨h1, h2, _⟩
      · exact absurd h (hno cs)
      · exact ⟨h1, h2⟩
    have hSb : Try.prog.built 50 [] = some stZ.toArray := by kernel_rfl
    have Hsm := Lib.hid (asame_any w6 stZ stZ 0 [] [] none none none none 0 0 0 0 (StAt.zero _) (StAt.zero _))
    clear Hk1 Hok hno hk1'
    go_wp2_with (first
      | ((with_reducible refine wpList_atA 34 (by rfl) ?_); refine wpList_load_row_ifL (by rfl) _ _ rfl w3.heap.size rfl 50 stZ.toArray _ hS1' Try.underlying50 rfl HS1.out.1 ?_)
      | ((with_reducible refine wpList_atA 35 (by rfl) ?_); refine wpList_built_ifL (by rfl) _ #[] rfl [] rfl stZ.toArray hSb ?_))
    refine Calls.mono Hsm.out ?_
    rintro e w7 ⟨rfl, hb7⟩
    go_wp2_with fail
    go_ret
    exact ⟨rfl, HB6.out.trans (hb7.mono HB6.out.size)⟩
  | true =>
    obtain ⟨cs, A2, c2, E2, m2, htp, hst2⟩ : ∃ cs A c E m, ToldP ep root ra cs ∧ StAt w5 S2 ep (cs.reverse.map fun c => c.st) (cs.reverse.flatMap fun c => c.evs) A c E m := by
      rcases Hok.out with ⟨_, h⟩ | ⟨h, _⟩
      · exact h
      · exact absurd h (by simp)
    obtain ⟨rfl, A1, c1, E1, m1, hst1⟩ : k1 = 0 ∧ ∃ A c E m, StAt w3 S1 ep (cs.reverse.map fun c => c.st) (cs.reverse.flatMap fun c => c.evs) A c E m := by
      rcases Hk1.out with ⟨h0, cs', A, c, E, m, h, hs⟩ | ⟨_, _, h⟩
      · obtain rfl := h.one htp
        exact ⟨h0, A, c, E, m, hs⟩
      · exact absurd htp (h cs)
    have Hsm := Lib.hid (asame_any w6 S1 S2 ep _ _ A1 A2 E1 E2 c1 c2 m1 m2 ((hst1.below Hb4.out).below Hb46.out) (hst2.below Hb6.out))
    clear Hk1 Hok htp hst1 hst2 hk1'
    go_wp2_with (first
      | ((with_reducible refine wpList_atA 41 (by rfl) ?_); refine wpList_load_row_ifL (by rfl) _ _ rfl w3.heap.size rfl 50 S1.toArray _ hS1' Try.underlying50 rfl HS1.out.1 ?_)
      | ((with_reducible refine wpList_atA 42 (by rfl) ?_); refine wpList_load_row_ifL (by rfl) _ _ rfl w5.heap.size rfl 50 S2.toArray _ hS2' Try.underlying50 rfl HS2.out.1 ?_))
    refine Calls.mono Hsm.out ?_
    rintro e w7 ⟨rfl, hb7⟩
    go_wp2_with fail
    go_ret
    exact ⟨rfl, HB6.out.trans (hb7.mono HB6.out.size)⟩

end Go.Proofs.Ytlfddijmanlneaa

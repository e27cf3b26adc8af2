/-
  Rows of rows of bytes laid anew of others; Root of tries whose blocks lie low; what lies in a row, one after another. No law's own program.
-/
import Derived.Test.YtblgmnjegkfoaaaGreatK17
import Derived.Test.YtblgmnjegkfoaaaGreatLRowsSame
import Derived.Test.YtblgmnjegkfoaaaGreatK14
import Derived.Test.YtblgmnjegkfoaaaGreatLPApartMath
import Derived.Test.YtblgmnjegkfoaaaGreatLPCheck
import Derived.Test.YtblgmnjegkfoaaaGreatLPSpeaks
import Derived.Test.YtblgmnjegkfoaaaGreatLCl8k
import Derived.Test.YtblgmnjegkfoaaaGreatK03
import Derived.Test.YtblgmnjegkfoaaaGreatLDigRow
import Derived.Maps.AppendAt
namespace Go.Proofs.YtblgmnjegkfoaaaGreat
open Go.RowKit
set_option linter.unusedVariables false
set_option linter.unusedSimpArgs false

theorem Cls8.baseA {w w' : World} {A : Option Addr} {cs : List Cl8} (h : Cls8 w w.heap.size A cs) (hb : Below w.heap.size w w') : Cls8 w' w'.heap.size A cs := by
  have := h.below hb (Nat.le_refl _)
  exact ⟨fun x hx => ⟨(this.1 x hx).k32, (this.1 x hx).le, (this.1 x hx).lim, (this.1 x hx).bs.more hb.size⟩, fun hp => by obtain ⟨b, off, e, hlt, hr⟩ := this.2 hp; exact ⟨b, off, e, Nat.lt_of_lt_of_le hlt hb.size, hr⟩⟩
theorem proveF_lenA (key : List UInt8) : ∀ (f : Nat) (l : List It) (t : Nat), Good l → (∀ x ∈ l, x.2.length ≤ 1000) → (∀ i, i < t → agreeF l i = true) → t ≤ 64 → ∀ a ∈ proveF key f l t, a.length ≤ 1900
  | 0, _, _, _, _, _, _ => fun a ha => by simp [proveF] at ha
  | f + 1, l, t, hg, hv, hag, ht => fun a ha => by
    unfold proveF at ha
    by_cases hl : l = []
    · rw [if_pos hl] at ha; cases ha
    · rw [if_neg hl] at ha
      have hp : 0 < l.length := List.length_pos_iff.2 hl
      rcases List.mem_cons.1 ha with rfl | ha
      · exact nodeF_len 65 l t hv ht hp
      · split at ha
        · cases ha
        · rename_i hc
          have h2 : 2 ≤ l.length := by
            have : l.length ≠ 1 := fun e => hc (.inl e)
            omega
          have hs := hg.split h2 ht hag
          exact proveF_lenA key f _ _ (hg.part _ _) (fun z hz => hv z (mem_subF.1 hz).1) (part_agree (shared_agree hag)) (by omega) a ha
theorem putF_valsA {key val : List UInt8} (hk : key.length = 32) {l : List It} (h32 : ∀ x ∈ l, x.1.length = 32) (hv : ∀ x ∈ l, x.2.length ≤ 1000) (hs : val.length ≤ 1000) : ∀ x ∈ putF key val l, x.2.length ≤ 1000 := fun x hx => by
  rcases (mem_putF hk h32 x).1 hx with e | h
  · rw [e]; exact hs
  · exact hv x h.1
/-- Root of tries whose blocks lie below n0 turns nothing from n0 on. -/
theorem forestN_root (n0 B : Nat) (a : Nat) (l : List It) (ts : List (Nat × List It)) (SL : List Value) (hSL : SL = Lib.byteCells (rootF l)) (w : World) (h : ForestN n0 B ((a, l) :: ts) w) :
    Calls Tryz.prog 9 #[.pointer (some ⟨a, 0, none⟩)] w fun e w' => e = .returned (.agg SL.toArray) ∧ Only (fun k => B ≤ k ∧ k < n0) w w' ∧ Turns B w w' := by
  obtain ⟨M, ⟨h1, h2, h3, h4⟩, ⟨w0, k1, k2⟩, _⟩ := h
  obtain ⟨hBa, p, hA, hR⟩ := h4 (a, l) List.mem_cons_self
  refine (troot_run a p M l hR SL hSL w h1 h2 hA).mono ?_
  rintro e w' ⟨rfl, m1, m2, m3⟩
  refine ⟨rfl, Only.more m3 fun k _ q => ⟨h3.lowB k 0 q, ?_⟩, Only.more m3 fun k _ q => ⟨h3.lowB k 0 q, ?_⟩⟩
  · obtain ⟨n, hn, _⟩ := q
    obtain ⟨cs, hcs⟩ := (k2 k n hn).typ
    exact Nat.lt_of_lt_of_le hcs.lt k1
  · obtain ⟨n, hn, _⟩ := q
    obtain ⟨cs, hcs⟩ := (h1 k n hn).typ
    exact ⟨_, cs, .inl rfl, hcs⟩

/-- A row of rows of bytes of the call's own, the bytes below block B. -/
def LRow (w : World) (B : Nat) (v : Value) (rs : List (List UInt8)) : Prop :=
  ∃ cs : List Value, w.ownsRow B 38 1 v rs.length cs ∧ ∀ (i : Nat) (r : List UInt8), rs[i]? = some r → ∃ (A : Option Addr) (c : Nat), cs[i]? = some (.slice A r.length c) ∧ r.length ≤ c ∧ c ≤ maxLen ∧ Bs w B A r
theorem LRow.lt {w : World} {B : Nat} {v : Value} {rs : List (List UInt8)} (h : LRow w B v rs) : ∀ k, v.ownBlock = some k → B ≤ k ∧ k < w.heap.size := by
  obtain ⟨cs, h1, _⟩ := h
  exact World.ownsRow.lt h1
theorem LRow.up {w w' : World} {B : Nat} {v : Value} {rs : List (List UInt8)} (h : LRow w B v rs) (hb : Below w.heap.size w w') (hB : B ≤ w.heap.size) : LRow w' B v rs := by
  obtain ⟨cs, h1, h2⟩ := h
  refine ⟨cs, ⟨h1.1, ?_⟩, fun i r hr => ?_⟩
  · rcases h1.2 with hn | ⟨g, cap, cur, rfl, e1, hg, rest⟩
    · exact .inl hn
    · exact .inr ⟨g, cap, cur, rfl, e1, (hb.block g (Array.getElem?_eq_some_iff.1 hg).1).trans hg, rest⟩
  · obtain ⟨A, c, k1, k2, k3, k4⟩ := h2 i r hr
    exact ⟨A, c, k1, k2, k3, k4.below hb hB⟩
theorem LRow.empty (w : World) (B : Nat) (hB : B ≤ w.heap.size) : LRow (w.alloc (.cells #[] 38)) B (.slice (some ⟨w.heap.size, 0, none⟩) 0 0) [] :=
  ⟨[], ⟨rfl, .inr ⟨w.heap.size, 0, #[], rfl, hB, heap_alloc_new w _, Nat.le_refl _, by unfold maxLen; omega, rfl, rfl⟩⟩, fun i r h => by simp at h⟩
theorem LRow.toN {w : World} {B : Nat} {v : Value} {rs : List (List UInt8)} (h : LRow w B v rs) (hB : B ≤ w.heap.size) : NRow w B v rs := by
  have hl := h.lt
  obtain ⟨cs, h1, h2⟩ := h
  refine ⟨cs, h1, fun i r hr => ?_⟩
  obtain ⟨A, c, k1, k2, k3, k4⟩ := h2 i r hr
  refine ⟨A, c, k1, k2, k3, k4.more hB, fun a e hp e2 => ?_⟩
  obtain ⟨b, off, e3, hlt, _⟩ := k4 hp
  rw [e] at e3
  injection e3 with e3
  subst e3
  have := (hl _ e2).1
  simp only at this
  omega
set_option maxRecDepth 100000 in
theorem run_append_l {w : World} {B : Nat} {v : Value} {rs : List (List UInt8)} (h : LRow w B v rs) (hB : B ≤ w.heap.size) (ty : TypeId) (A : Option Addr) (m c : Nat) (es : List (List UInt8)) (ecs : List Value) (he : es.length = m) (hec : ecs.length = m)
    (hcells : 0 < m → ∃ ad, A = some ad ∧ ∀ j u, ecs[j]? = some u → w.cell? (ad.add j) = some u)
    (hel : ∀ (i : Nat) (r : List UInt8), es[i]? = some r → ∃ (A : Option Addr) (c : Nat), ecs[i]? = some (.slice A r.length c) ∧ r.length ≤ c ∧ c ≤ maxLen ∧ Bs w B A r) (hlim : rs.length + m ≤ 1000000) :
    ∃ v' w', (Builtin.append_ #[34, 34] ty #[v, .slice A m c]).run Tryz.prog w = .ok v' w' ∧ LRow w' B v' (rs ++ es) ∧ w.grownBy w' v.ownBlock := by
  obtain ⟨i0, hi, hz0, hz1, hz2⟩ := info_parts rowAllI
  have hl := h.lt
  have h0 := h
  obtain ⟨cs, h1, h2⟩ := h
  rcases A with _ | ad
  · have hm0 : m = 0 := by
      rcases Nat.eq_zero_or_pos m with h | h
      · exact h
      · obtain ⟨_, e, _⟩ := hcells h; cases e
    subst hm0
    obtain rfl := List.eq_nil_of_length_eq_zero he
    exact ⟨v, w, run_append_nothing w B 34 ty 38 i0 1 Tryz.underlying34 hi v _ _ h1 c, by simpa using h0, ⟨rfl, rfl, rfl, Nat.le_refl _, fun _ _ _ => rfl⟩⟩
  · have hone : ∀ u ∈ ecs, u.oneCell' = true := fun u hu => by
      obtain ⟨j, hj, e⟩ := List.mem_iff_getElem.1 hu
      obtain ⟨A, c, k1, _⟩ := hel j (es[j]'(by omega)) (List.getElem?_eq_getElem (by omega))
      rw [List.getElem?_eq_getElem hj, e] at k1
      injection k1 with k1
      rw [k1]; rfl
    have hcl : ∀ j u, ecs[j]? = some u → w.cell? (ad.add j) = some u := fun j u hj => by
      have hjl := (List.getElem?_eq_some_iff.1 hj).1
      obtain ⟨ad', e, hc⟩ := hcells (by omega)
      injection e with e
      subst e
      exact hc j u hj
    obtain ⟨v', w', q1, q2, q3, _, _⟩ := run_append_own_at (P := Tryz.prog) w B 34 ty 38 i0 (.slice none 0 0) 1 24 Tryz.underlying34 hi hz0 hz1 hz2 rfl (by decide) v rs.length cs h1 ad m c ecs (by omega) hcl hone (by unfold maxLen; omega) (by omega) hB
    refine ⟨v', w', q1, ⟨cs ++ ecs, ?_, fun i r hr => ?_⟩, q3⟩
    · rw [List.length_append, he]; exact q2
    · have hbl : Below B w w' := (Below.refl B w).grown q3 hB (fun k hk => (hl k hk).1)
      have hcsl : cs.length = rs.length := by have := h1.1; omega
      by_cases hlt : i < rs.length
      · rw [List.getElem?_append_left hlt] at hr
        obtain ⟨A', c', k1, k2, k3, k4⟩ := h2 i r hr
        exact ⟨A', c', by rw [List.getElem?_append_left (by omega)]; exact k1, k2, k3, k4.below hbl (Nat.le_refl _)⟩
      · rw [List.getElem?_append_right (by omega)] at hr
        obtain ⟨A', c', k1, k2, k3, k4⟩ := hel _ r hr
        exact ⟨A', c', by rw [List.getElem?_append_right (by omega), hcsl]; exact k1, k2, k3, k4.below hbl (Nat.le_refl _)⟩
/-- append of a row of rows, in a region, the operation being wanted. -/
theorem wp_append_l {o : Oper} {a : Act} {w : World} {K : Act → World → Prop} {Q : Exit → Act → World → Prop} (dd : Option Tmp) (hdd : o.dst = dd) (s x : Operand) (ho : o.op = .call { callee := .builtin .append, args := #[s, x], argTypes := #[34, 34] })
    {B : Nat} {v : Value} {rs : List (List UInt8)} (h : LRow w B v rs) (hB : B ≤ w.heap.size) (hs : a.eval s = v) (A : Option Addr) (m c : Nat) (hx : a.eval x = .slice A m c) (es : List (List UInt8)) (ecs : List Value) (he : es.length = m) (hec : ecs.length = m)
    (hcells : 0 < m → ∃ ad, A = some ad ∧ ∀ j u, ecs[j]? = some u → w.cell? (ad.add j) = some u)
    (hel : ∀ (i : Nat) (r : List UInt8), es[i]? = some r → ∃ (A : Option Addr) (c : Nat), ecs[i]? = some (.slice A r.length c) ∧ r.length ≤ c ∧ c ≤ maxLen ∧ Bs w B A r) (hlim : rs.length + m ≤ 1000000)
    (hK : ∀ v' w', LRow w' B v' (rs ++ es) → w.grownBy w' v.ownBlock → K (a.put dd v') w') : Oper.wp Tryz.prog o a w K Q := by
  subst hdd
  obtain ⟨v', w', hr, h2, h3⟩ := run_append_l h hB o.type A m c es ecs he hec hcells hel hlim
  unfold Oper.wp execOp
  simp only [ho, resolve, invoke, builtin, Sem.run_bind, Sem.run_pure, Result.andThen_ok, List.map_toArray, List.map_cons, List.map_nil, hs, hx, hr]
  exact hK v' w' h2 h3
theorem arr_add {w : World} {g : Nat} {T : TypeId} {cs : List Value} (h : Arr w g T cs) : ∀ j u, cs[j]? = some u → w.cell? ((⟨g, 0, none⟩ : Addr).add j) = some u := fun j u hj => by
  have hadd : (⟨g, 0, none⟩ : Addr).add j = ⟨g, j, none⟩ := by unfold Addr.add; split <;> simp_all
  rw [hadd, h.cell]; exact hj
/-- The parts of a row of rows, whatever is made behind it. -/
theorem NRow.parts {w : World} {B : Nat} {v : Value} {rs : List (List UInt8)} (h : NRow w B v rs) : ∃ (A : Option Addr) (c : Nat) (cs : List Value), v = .slice A rs.length c ∧ rs.length ≤ c ∧ c ≤ maxLen ∧ cs.length = rs.length ∧ ∀ w', Below w.heap.size w w' →
    RowsAt w' w.heap.size A rs ∧ (0 < rs.length → ∃ ad, A = some ad ∧ ∀ j u, cs[j]? = some u → w'.cell? (ad.add j) = some u) ∧ ∀ (i : Nat) (r : List UInt8), rs[i]? = some r → ∃ (A : Option Addr) (c : Nat), cs[i]? = some (.slice A r.length c) ∧ r.length ≤ c ∧ c ≤ maxLen ∧ Bs w' w.heap.size A r := by
  have h0 := h
  obtain ⟨A0, c0, e0, e1, e2, hrows⟩ := h0.rows
  obtain ⟨cs, h1, h2⟩ := h
  have hcl : cs.length = rs.length := by have := h1.1; omega
  refine ⟨A0, c0, cs, e0, e1, e2, hcl, fun w' hb => ⟨hrows.below hb (Nat.le_refl _), fun hp => ?_, fun i r hr => ?_⟩⟩
  · rcases h1.2 with ⟨rfl, hn⟩ | ⟨g, cap, cur, rfl, k1, hg, k2, k3, k4, k5⟩
    · omega
    · injection e0 with q1 q2 q3
      refine ⟨⟨g, 0, none⟩, q1.symm, fun j u hj => ?_⟩
      have hadd : (⟨g, 0, none⟩ : Addr).add j = ⟨g, j, none⟩ := by unfold Addr.add; split <;> simp_all
      rw [hadd, World.cell?_of_block (hb.block g (Array.getElem?_eq_some_iff.1 hg).1), cell_of_row w g _ cur 38 (0, 0) hg]
      rw [← k5] at hj
      have hlt := (List.getElem?_eq_some_iff.1 hj).1
      rw [List.length_take] at hlt
      rw [List.getElem?_take_of_lt (by omega)] at hj
      simpa using hj
  · obtain ⟨A, c, k1, k2, k3, k4, _⟩ := h2 i r hr
    exact ⟨A, c, k1, k2, k3, k4.below hb (Nat.le_refl _)⟩
theorem RowsAt.cutlast {w : World} {B : Nat} {A : Option Addr} {rs : List (List UInt8)} (h : RowsAt w B A rs) : RowsAt w B A rs.dropLast := fun hp => by
  rw [List.length_dropLast] at hp
  obtain ⟨b, off, e, hlt, hr⟩ := h (by omega)
  refine ⟨b, off, e, hlt, fun i hi => ?_⟩
  rw [List.length_dropLast] at hi
  have hg : rs.dropLast.getD i [] = rs.getD i [] := by simp [List.getD, List.getElem?_dropLast, hi, show i < rs.length by omega]
  rw [hg]
  exact hr i (by omega)
theorem RowsAt.cuthead {w : World} {B : Nat} {A : Option Addr} {rs : List (List UInt8)} {c : Nat} (hc : rs.length ≤ c) (h : RowsAt w B A rs) : RowsAt w B (cutA A c 1) rs.tail := fun hp => by
  rw [List.length_tail] at hp
  obtain ⟨b, off, rfl, hlt, hr⟩ := h (by omega)
  refine ⟨b, off + 1, ?_, hlt, fun i hi => ?_⟩
  · unfold cutA
    rw [if_neg (by omega)]
    rfl
  · rw [List.length_tail] at hi
    have hg : rs.tail.getD i [] = rs.getD (i + 1) [] := by simp [List.getD]
    rw [hg, show off + 1 + i = off + (i + 1) by omega]
    exact hr (i + 1) (by omega)
theorem ShownP.code {w : World} {r : Option (Option (List UInt8))} {V : Value} (h : ShownP w r V) : ∃ (a b : Value) (z : Int), V = .tuple #[a, b, .int .i64 z] ∧ (z = 3 ∧ r = none ∨ z = 0 ∧ r ≠ none) := by
  unfold ShownP at h
  split at h
  · exact ⟨_, _, _, h, .inl ⟨rfl, rfl⟩⟩
  · exact ⟨_, _, _, h, .inr ⟨rfl, by simp⟩⟩
  · obtain ⟨A, c, h1, _⟩ := h
    exact ⟨_, _, _, h1, .inr ⟨rfl, by simp⟩⟩
theorem rows_oneA {w : World} {B : Nat} {A : Option Addr} {l : List UInt8} {n c : Nat} (hn : l.length = n) (hc : n ≤ c) (hm : c ≤ maxLen) (h : Bs w B A l) (hB : B ≤ w.heap.size) :
    RowsAt (w.alloc (.cells #[.slice A n c] 38)) (w.alloc (.cells #[.slice A n c] 38)).heap.size (some ⟨w.heap.size, 0, none⟩) [l] := fun _ => by
  have hb : Below w.heap.size w (w.alloc (.cells #[.slice A n c] 38)) := (Below.refl _ w).alloc (Nat.le_refl _) _
  refine ⟨_, 0, rfl, (Arr.new w 38 [.slice A n c]).lt, fun i hi => ?_⟩
  obtain rfl : i = 0 := by simp at hi; omega
  refine ⟨A, c, ?_, by simpa [hn] using hc, hm, ?_⟩
  · rw [(Arr.new w 38 [.slice A n c]).cell]
    simp [hn]
  · exact ((h.below hb hB).more (Nat.le_trans hB hb.size))
theorem tag_oneA (u : UInt8) {r : List UInt8} (h : r.length ≤ 2000) : (tagF u [r]).length ≤ 1000000 := by
  have h2 := Lib.uvarint_length64 (x := r.length) (by omega)
  unfold tagF
  simp only [List.length_cons, List.flatMap_cons, List.flatMap_nil, List.length_append, List.length_nil]
  omega

end Go.Proofs.YtblgmnjegkfoaaaGreat

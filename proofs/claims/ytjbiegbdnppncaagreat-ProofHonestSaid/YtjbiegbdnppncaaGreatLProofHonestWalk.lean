/-
  The walk of ProofHonest. Written by gen_phonest.py.
-/
import Derived.Test.YtjbiegbdnppncaaGreatLTrieDropsWalk
import Derived.Test.YtjbiegbdnppncaaGreatLRowsSame
import Derived.Test.YtjbiegbdnppncaaGreatLPSpeaks
import Derived.Test.YtjbiegbdnppncaaGreatLPHonestMath
namespace Go.Proofs.YtjbiegbdnppncaaGreat
open Go.RowKit
set_option linter.unusedVariables false
set_option linter.unusedSimpArgs false

theorem proveF_lenH (key : List UInt8) : ∀ (f : Nat) (l : List It) (t : Nat), Good l → (∀ x ∈ l, x.2.length ≤ 1000) → (∀ i, i < t → agreeF l i = true) → t ≤ 64 → ∀ a ∈ proveF key f l t, a.length ≤ 1900
  | 0, _, _, _, _, _, _ => fun a ha => by simp [proveF] at ha
  | f + 1, l, t, hg, hv, hag, ht => fun a ha => by
    unfold proveF at ha
    by_cases hl : l = []
    · rw [if_pos hl] at ha; cases ha
    · rw [if_neg hl] at ha
      have hp : 0 < l.length := List.length_pos_iff.2 hl
      rcases List.mem_cons.1 ha with rfl | ha
      · exact nodeF_len 65 l t hv ht hp
      · split at ha
        · cases ha
        · rename_i hc
          have h2 : 2 ≤ l.length := by
            have : l.length ≠ 1 := fun e => hc (.inl e)
            omega
          have hs := hg.split h2 ht hag
          exact proveF_lenH key f _ _ (hg.part _ _) (fun z hz => hv z (mem_subF.1 hz).1) (part_agree (shared_agree hag)) (by omega) a ha
theorem findF_has {l : List It} (h : Rise l) {key val : List UInt8} (hm : (key, val) ∈ l) : findF l key = some val := by
  unfold findF
  cases e : l.find? (fun x => decide (x.1 = key)) with
  | none =>
    have := List.find?_eq_none.1 e _ hm
    simp at this
  | some y =>
    have h1 := List.mem_of_find?_eq_some e
    have h2 : y.1 = key := by simpa using List.find?_some e
    have h3 : (key, y.2) ∈ l := by rw [← h2]; exact h1
    rw [rise_uniq h hm h3]
    rfl
theorem findF_not {l : List It} {key : List UInt8} (h : hasF l key = false) : findF l key = none := findF_none fun x hx e => by
  rw [hasF_mem.2 ⟨x.2, by rw [← e]; exact hx⟩] at h
  cases h
theorem putF_vals {key val : List UInt8} (hk : key.length = 32) {l : List It} (h32 : ∀ x ∈ l, x.1.length = 32) (hv : ∀ x ∈ l, x.2.length ≤ 1000) (hs : val.length ≤ 1000) : ∀ x ∈ putF key val l, x.2.length ≤ 1000 := fun x hx => by
  rcases (mem_putF hk h32 x).1 hx with e | h
  · rw [e]; exact hs
  · exact hv x h.1
theorem dapartH {w : World} {B : Nat} {v : Value} {ds : List (List UInt8)} (h : DRow w B v ds) {g : Nat} {T : TypeId} {cs : List Value} (hg : Arr w g T cs) (hT : T ≠ 24) : v.ownBlock ≠ some g := by
  intro hk
  rcases h.2.2 with ⟨rfl, _⟩ | ⟨g', cap, cur, rfl, _, hg', _⟩
  · cases hk
  · simp only [Value.ownBlock, Option.some.injEq] at hk
    subst hk
    have := hg.symm.trans hg'
    simp only [Option.some.injEq, Obj.cells.injEq] at this
    exact hT this.2.1
theorem DRow.one {w : World} {B g : Nat} {d : List UInt8} (hA : Arr w g 24 (Lib.byteCells d)) (h32 : d.length = 32) (hB : B ≤ g) : DRow w B (.slice (some ⟨g, 0, none⟩) 1 1) [d] := by
  refine ⟨fun x hx => by rw [List.mem_singleton] at hx; rw [hx]; exact h32, by rw [digC_one, Lib.byteCells_length, h32]; rfl, .inr ⟨g, 1, (Lib.byteCells d).toArray, rfl, hB, hA, Nat.le_refl _, by unfold maxLen; omega, by simp [Lib.byteCells_length, h32], ?_⟩⟩
  rw [digC_one]
  simp [List.take_of_length_le, Lib.byteCells_length, h32]
theorem run_append_digO {w : World} {B : Nat} {v : Value} {ds : List (List UInt8)} (h : DRow w B v ds) (hB : B ≤ w.heap.size) (ty : TypeId) (g c : Nat) (d : List UInt8) (hd : d.length = 32) (hg : Arr w g 24 (Lib.byteCells d)) (hm : ds.length ≤ 1000000) :
    ∃ v' w', (Builtin.append_ #[37, 37] ty #[v, .slice (some ⟨g, 0, none⟩) 1 c]).run Tryz.prog w = .ok v' w' ∧ DRow w' B v' (ds ++ [d]) ∧ w.grownBy w' v.ownBlock ∧ (v'.ownBlock = v.ownBlock ∨ v'.ownBlock = some w.heap.size) := by
  obtain ⟨i0, hi, hz0, hz1, hz2⟩ := info_parts digAll
  have hadd : ∀ k, (⟨g, 0, none⟩ : Addr).add k = ⟨g, k, none⟩ := fun k => by unfold Addr.add; split <;> simp_all
  obtain ⟨v', w', h1, h2, h3, _, h5⟩ := run_append_own_at (P := Tryz.prog) w B 37 ty 24 i0 (.agg (Lib.byteCells zeros).toArray) 32 32 Tryz.underlying37 hi hz0 hz1 hz2 rfl (by decide) v ds.length (digC ds) h.2 ⟨g, 0, none⟩ 1 c (Lib.byteCells d) (by rw [Lib.byteCells_length, hd]) (fun j u hj => by rw [hadd, hg.cell]; exact hj) (byteCells_one d) (by unfold maxLen; omega) (by omega) hB
  refine ⟨v', w', h1, ⟨fun x hx => ?_, ?_⟩, h3, h5⟩
  · rcases List.mem_append.1 hx with hx | hx
    · exact h.1 x hx
    · rw [List.mem_singleton] at hx; rw [hx]; exact hd
  · rw [digC_append, digC_one, List.length_append]
    exact h2
theorem wpList_append_digO {ops : Array Oper} {rest : List Oper} {o : Oper} {a : Act} {w : World} {Q : Exit → Act → World → Prop} (hgd : o.guard = none) (s x : Operand) (ho : o.op = .call { callee := .builtin .append, args := #[s, x], argTypes := #[37, 37] })
    {B : Nat} {v : Value} {ds : List (List UInt8)} (h : DRow w B v ds) (hB : B ≤ w.heap.size) (hs : a.eval s = v) (g c : Nat) (hx : a.eval x = .slice (some ⟨g, 0, none⟩) 1 c) (d : List UInt8) (hd : d.length = 32) (hg : Arr w g 24 (Lib.byteCells d)) (hm : ds.length ≤ 1000000)
    (hK : ∀ v' w', DRow w' B v' (ds ++ [d]) → w.grownBy w' v.ownBlock → (v'.ownBlock = v.ownBlock ∨ v'.ownBlock = some w.heap.size) → wpList Tryz.prog ops Q rest (a.put o.dst v') w') : wpList Tryz.prog ops Q (o :: rest) a w := by
  refine wpList_plain hgd fun K hK' => ?_
  obtain ⟨v', w', hr, h2, h3, h4⟩ := run_append_digO h hB o.type g c d hd hg hm
  unfold Oper.wp execOp
  simp only [ho, resolve, invoke, builtin, Sem.run_bind, Sem.run_pure, Result.andThen_ok, List.map_toArray, List.map_cons, List.map_nil, hs, hx, hr]
  exact hK' _ _ (hK v' w' h2 h3 h4)
/-- Tries of which no value lies in a block. -/
def ForestV (vb : Option Nat) (B : Nat) (ts : List (Nat × List It)) (w : World) : Prop :=
  ∃ M, (Stand M w ∧ M.Sep ∧ noWood.Up M B ∧ ∀ x ∈ ts, B ≤ x.1 ∧ ∃ p, Arr w x.1 63 [.pointer p] ∧ RootAt M p x.2) ∧ ∀ b n, M b = some n → n.l.length < 2 → ∀ a : Addr, n.adr = some a → 0 < n.len → vb ≠ some a.block
theorem ForestV.toF {vb : Option Nat} {B : Nat} {ts : List (Nat × List It)} {w : World} (h : ForestV vb B ts w) : Forest B ts w := by
  obtain ⟨M, h1, _⟩ := h
  exact ⟨M, h1⟩
theorem ForestV.up {vb : Option Nat} {B : Nat} {ts : List (Nat × List It)} {w w' : World} (h : ForestV vb B ts w) (hb : Below w.heap.size w w') : ForestV vb B ts w' := by
  obtain ⟨M, ⟨h1, h2, h3, h4⟩, h5⟩ := h
  refine ⟨M, ⟨h1.up hb, h2, h3, fun x hx => ?_⟩, h5⟩
  obtain ⟨k1, p, k2, k3⟩ := h4 x hx
  exact ⟨k1, p, k2.below hb k2.lt, k3⟩
theorem forestV_new (vb : Option Nat) (B : Nat) (w : World) (hB : B ≤ w.heap.size) :
    Calls Tryz.prog 22 #[] w fun e w' => e = .returned (.pointer (some ⟨w.heap.size, 0, none⟩)) ∧ ForestV vb B [(w.heap.size, [])] w' ∧ Below w.heap.size w w' := by
  refine (new_run w).mono ?_
  rintro e w' ⟨rfl, hN, hb⟩
  refine ⟨rfl, ⟨noWood, ⟨noWood_stand w', noWood_sep, Wood.up_refl _ _, fun x hx => ?_⟩, fun b n h => by cases h⟩, hb⟩
  rw [List.mem_singleton] at hx
  subst hx
  exact ⟨hB, _, hN, .inl ⟨rfl, rfl⟩⟩
theorem forestV_newA (B : Nat) (w : World) (hB : B ≤ w.heap.size) :
    Calls Tryz.prog 22 #[] w fun e w' => e = .returned (.pointer (some ⟨w.heap.size, 0, none⟩)) ∧ (∀ vb, ForestV vb B [(w.heap.size, [])] w') ∧ Below w.heap.size w w' := by
  refine (new_run w).mono ?_
  rintro e w' ⟨rfl, hN, hb⟩
  refine ⟨rfl, fun vb => ⟨noWood, ⟨noWood_stand w', noWood_sep, Wood.up_refl _ _, fun x hx => ?_⟩, fun b n h => by cases h⟩, hb⟩
  rw [List.mem_singleton] at hx
  subst hx
  exact ⟨hB, _, hN, .inl ⟨rfl, rfl⟩⟩
theorem vals_keep {vb : Option Nat} {M M1 : Wood} {n0 : Nat} (hvb : ∀ k, vb = some k → k < n0) (h : ∀ b n, M b = some n → n.l.length < 2 → ∀ a : Addr, n.adr = some a → 0 < n.len → vb ≠ some a.block) (hu : M.Up M1 n0) : ∀ b n, M1 b = some n → n.l.length < 2 → ∀ a : Addr, n.adr = some a → 0 < n.len → vb ≠ some a.block := fun b n hb hl a ha hp => by
  rcases hu b n hb with q | ⟨_, q⟩
  · exact h b n q hl a ha hp
  · rcases q hl a ha hp with ⟨c, n', k1, k2, k3, k4⟩ | q
    · exact h c n' k1 k2 a k3 k4
    · intro e
      have := hvb _ e
      omega
theorem forestV_put (vb : Option Nat) (B : Nat) (a : Nat) (l : List It) (key val : List UInt8) (KL : List Value) (hKL : KL = Lib.byteCells key) (hk : key.length = 32) (B1 : Nat) (A : Option Addr) (n c : Nat) (w : World) (h : ForestV vb B [(a, l)] w) (hvb : ∀ k, vb = some k → k < w.heap.size) (hB : B ≤ w.heap.size) (hv : Bs w B1 A val) (hn : val.length = n) (hs : val.length ≤ 1000) :
    Calls Tryz.prog 23 #[.pointer (some ⟨a, 0, none⟩), .agg KL.toArray, .slice A n c] w fun e w' => e = .returned (.tuple #[]) ∧ ForestV vb B [(a, putF key val l)] w' ∧ Turns B w w' := by
  obtain ⟨M, ⟨h1, h2, h3, h4⟩, h5⟩ := h
  obtain ⟨hBa, p, hA, hR⟩ := h4 (a, l) List.mem_cons_self
  refine (tput_run a p M l hR key val KL hKL hk B1 A n c w h1 h2 hA hv hn hs).mono ?_
  rintro e w' ⟨rfl, p1, M1, ⟨m1, m2⟩, m3, m4, m5, m6, m7⟩
  refine ⟨rfl, ⟨M1, ⟨m3, m4, h3.then (m2.low hB), fun x hx => ?_⟩, vals_keep hvb h5 m2⟩, Only.more m7 fun k _ e => ?_⟩
  · rw [List.mem_singleton] at hx
    subst hx
    exact ⟨hBa, p1, m5, m6⟩
  · subst e
    exact ⟨hBa, _, _, .inr rfl, hA⟩
theorem forestV_drop (vb : Option Nat) (B : Nat) (a : Nat) (l : List It) (key : List UInt8) (KL : List Value) (hKL : KL = Lib.byteCells key) (hk : key.length = 32) (w : World) (h : ForestV vb B [(a, l)] w) (hvb : ∀ k, vb = some k → k < w.heap.size) (hB : B ≤ w.heap.size) :
    Calls Tryz.prog 24 #[.pointer (some ⟨a, 0, none⟩), .agg KL.toArray] w fun e w' => e = .returned (.bool (hasF l key)) ∧ ForestV vb B [(a, dropF key l)] w' ∧ Turns B w w' := by
  obtain ⟨M, ⟨h1, h2, h3, h4⟩, h5⟩ := h
  obtain ⟨hBa, p, hA, hR⟩ := h4 (a, l) List.mem_cons_self
  refine (tdrop_run a p M l hR key KL hKL hk w h1 h2 hA).mono ?_
  rintro e w' ⟨rfl, p1, M1, ⟨m1, m2⟩, m3, m4, m5, m6, m7⟩
  refine ⟨rfl, ⟨M1, ⟨m3, m4, h3.then (m2.low hB), fun x hx => ?_⟩, vals_keep hvb h5 m2⟩, Only.more m7 fun k _ e => ?_⟩
  · rw [List.mem_singleton] at hx
    subst hx
    exact ⟨hBa, p1, m5, m6⟩
  · subst e
    exact ⟨hBa, _, _, .inr rfl, hA⟩
theorem ForestV.append {v v' : Value} {B Bk : Nat} {ts : List (Nat × List It)} {w w' : World} {ds : List (List UInt8)} (h : ForestV v.ownBlock B ts w) (hD : DRow w Bk v ds) (hg : w.grownBy w' v.ownBlock) (hp : v'.ownBlock = v.ownBlock ∨ v'.ownBlock = some w.heap.size) : ForestV v'.ownBlock B ts w' := by
  obtain ⟨M, ⟨h1, h2, h3, h4⟩, h5⟩ := h
  have hO : Only (fun k => v.ownBlock = some k) w w' := ⟨hg.os, hg.tape, hg.output, hg.size, fun k hk hn => hg.block k hk (fun e => hn e.symm)⟩
  refine ⟨M, ⟨fun b n hb => (h1 b n hb).keep hO ?_ ?_ (fun hl a ha hp => h5 b n hb hl a ha hp), h2, h3, fun x hx => ?_⟩, fun b n hb hl a ha hpos => ?_⟩
  · obtain ⟨cs, hcs⟩ := (h1 b n hb).typ
    exact dapartH hD hcs (by decide)
  · intro h22
    obtain ⟨cs, hcs⟩ := (h1 b n hb).rowOf h22
    exact dapartH hD hcs (by decide)
  · obtain ⟨k1, p, k2, k3⟩ := h4 x hx
    exact ⟨k1, p, k2.only hO (dapartH hD k2 (by decide)), k3⟩
  · rcases hp with e | e
    · rw [e]; exact h5 b n hb hl a ha hpos
    · rw [e]
      intro q
      injection q with q
      have := (h1 b n hb).valOf hl a ha hpos
      omega
theorem ForestV.re {vb vb' : Option Nat} {B : Nat} {ts : List (Nat × List It)} {w : World} (h : ForestV vb B ts w) (e : vb = vb') : ForestV vb' B ts w := e ▸ h

set_option maxHeartbeats 8000000 in
set_option maxRecDepth 100000 in
theorem phonest_great (A : Option Addr) (n c : Nat) (cs : List Cl8) (hn : cs.length = n) (hc : n ≤ c) (hm : c ≤ maxLen) (key : List UInt8) (w : World) (hcs : Cls8 w w.heap.size A cs) (hk : key.length = 32) (hg : great8 cs = true) :
    Calls Tryz.prog 8 #[.slice A n c, .agg (Lib.byteCells key).toArray] w fun e w' => e = .returned (.bool true) ∧ Below w.heap.size w w' := by
  have Hg := Lib.hid hg
  clear hg
  obtain ⟨KL, hKL⟩ : ∃ KL, KL = Lib.byteCells key := ⟨_, rfl⟩
  rw [← hKL]
  obtain ⟨W2, hW2⟩ : ∃ W2, W2 = w.alloc (.cells KL.toArray 24) := ⟨_, rfl⟩
  have hb2 : Below w.heap.size w W2 := by rw [hW2]; exact (Below.refl _ w).alloc (Nat.le_refl _) _
  have hK2 : Arr W2 w.heap.size 24 KL := by rw [hW2]; exact Arr.new w _ _
  have HKi := Lib.hid (show (Tryz.prog.info? 24).map (·.size) = some KL.toArray.size by rw [hKL, dig_size hk]; kernel_rfl)
  have hKl : KL.length = 32 := by rw [hKL, Lib.byteCells_length, hk]
  have HKL := Lib.hid hKL
  have HW2 := Lib.hid hW2
  have Hn := Lib.hid hn
  have Hcs := Lib.hid hcs
  have Hk := Lib.hid hk
  unfold maxLen at hm
  clear hW2 hn hcs hKL hk
  go_enter Tryz.func8, Tryz.ntmps8
  go_upto_region 1 with fail
  change Code.wp _ _ _ _ (w.alloc (.cells KL.toArray 24))
  rw [← HW2.out]
  clear HW2
  go_wp2_with fail
  go_at_call 27
  refine Calls.mono (pspeaks_true W2) ?_
  rintro e w3 ⟨rfl, hb23⟩
  have hb3 := hb2.trans (hb23.mono hb2.size)
  have hK3 := hK2.below hb23 hK2.lt
  clear hb23 hb2 hK2
  dsimp only
  go_wp2_with fail
  go_at_call 10
  refine Calls.mono (great8_any cs A n c w3 Hn.out hc hm (Hcs.out.base hb3)) ?_
  rintro e w4 ⟨rfl, hb34⟩
  have hb4 := hb3.trans (hb34.mono hb3.size)
  have hK4 := hK3.below hb34 hK3.lt
  clear hb34 hb3 hK3
  rw [Hg.out]
  dsimp only
  go_wp2_with fail
  go_ret
  exact ⟨rfl, hb4⟩

set_option maxHeartbeats 40000000 in
set_option maxRecDepth 100000 in
theorem phonest_in (A : Option Addr) (n c : Nat) (cs : List Cl8) (hn : cs.length = n) (hc : n ≤ c) (hm : c ≤ maxLen) (key : List UInt8) (w : World) (hcs : Cls8 w w.heap.size A cs) (hk : key.length = 32) (hg : great8 cs = false) :
    Calls Tryz.prog 8 #[.slice A n c, .agg (Lib.byteCells key).toArray] w fun e w' => e = .returned (.bool true) ∧ Below w.heap.size w w' := by
  have h50 : n ≤ 50 := by rw [← hn]; exact (great8_no hg).1
  have Hv200 := Lib.hid (great8_no hg).2
  have hgt := gt32
  have Hg8 := Lib.hid hg
  clear hg
  obtain ⟨CZ, hCZ⟩ : ∃ CZ, CZ = clZ := ⟨_, rfl⟩
  have HZ := Lib.hid (fun w : World => show (zeroValue 50).run Tryz.prog w = .ok (.agg CZ.toArray) w by rw [hCZ]; exact callZero w)
  have HZl := Lib.hid (show CZ.length = 34 by rw [hCZ]; rfl)
  clear hCZ
  obtain ⟨KL, hKL⟩ : ∃ KL, KL = Lib.byteCells key := ⟨_, rfl⟩
  rw [← hKL]
  obtain ⟨W2, hW2⟩ : ∃ W2, W2 = w.alloc (.cells KL.toArray 24) := ⟨_, rfl⟩
  have hb2 : Below w.heap.size w W2 := by rw [hW2]; exact (Below.refl _ w).alloc (Nat.le_refl _) _
  have hK2 : Arr W2 w.heap.size 24 KL := by rw [hW2]; exact Arr.new w _ _
  have HKi := Lib.hid (show (Tryz.prog.info? 24).map (·.size) = some KL.toArray.size by rw [hKL, dig_size hk]; kernel_rfl)
  have hKl : KL.length = 32 := by rw [hKL, Lib.byteCells_length, hk]
  have HKL := Lib.hid hKL
  have HW2 := Lib.hid hW2
  have Hn := Lib.hid hn
  have Hcs := Lib.hid hcs
  have Hk := Lib.hid hk
  unfold maxLen at hm
  clear hW2 hn hcs hKL hk
  go_enter Tryz.func8, Tryz.ntmps8
  go_upto_region 1 with fail
  change Code.wp _ _ _ _ (w.alloc (.cells KL.toArray 24))
  rw [← HW2.out]
  clear HW2
  go_wp2_with fail
  go_at_call 27
  refine Calls.mono (pspeaks_true W2) ?_
  rintro e w3 ⟨rfl, hb23⟩
  have hb3 := hb2.trans (hb23.mono hb2.size)
  have hK3 := hK2.below hb23 hK2.lt
  clear hb23 hb2 hK2
  dsimp only
  go_wp2_with fail
  go_at_call 10
  refine Calls.mono (great8_any cs A n c w3 Hn.out hc hm (Hcs.out.base hb3)) ?_
  rintro e w4 ⟨rfl, hb34⟩
  have hb4 := hb3.trans (hb34.mono hb3.size)
  have hK4 := hK3.below hb34 hK3.lt
  clear hb34 hb3 hK3
  rw [Hg8.out]
  dsimp only
  go_wp2_with fail
  go_at_call 22
  obtain ⟨tb, htb⟩ : ∃ x, w4.heap.size = x := ⟨_, rfl⟩
  refine Calls.mono (forestV_newA w.heap.size w4 hb4.size) ?_
  rintro e w5 ⟨rfl, hF5, hb45⟩
  have hb5 := hb4.trans (hb45.mono hb4.size)
  have hK5 := hK4.below hb45 hK4.lt
  rw [htb]
  rw [htb] at hF5
  clear hb45 hK4 htb hb4
  obtain ⟨W6, hW6⟩ : ∃ x, x = w5.alloc (.cells KL.toArray 24) := ⟨_, rfl⟩
  have hb56 : Below w5.heap.size w5 W6 := by rw [hW6]; exact (Below.refl _ _).alloc (Nat.le_refl _) _
  have hA6 : Arr W6 w5.heap.size 24 (Lib.byteCells key) := by rw [hW6, ← HKL.out]; exact Arr.new w5 _ _
  have hD6 : DRow W6 w.heap.size (.slice (some ⟨w5.heap.size, 0, none⟩) 1 1) (key :: (cs.take 0).map (·.itm.key)) := DRow.one hA6 Hk.out hb5.size
  have hF6 := (hF5 (Value.slice (some ⟨w5.heap.size, 0, none⟩) 1 1).ownBlock).up hb56
  have hb6 := hb5.trans (hb56.mono hb5.size)
  have HW6 := Lib.hid hW6
  clear hW6 hA6 hb56 hF5
  dsimp only
  go_upto_region 7 with (first
    | (refine wpList_load_row rfl _ _ rfl w.heap.size rfl 24 KL.toArray (0, 0) _ hK5 Tryz.underlying24 rfl HKi.out ?_)
    | (refine wpList_build_dig rfl _ rfl KL hKl rfl ?_; rw [← HW6.out]))
  clear HW6 hK5 hb5
  go_wp2_with fail
  go_loopw [6, 25] (fun dv iv wr => ∃ i : Nat, i ≤ n ∧ iv = .int .i64 i ∧ Below w.heap.size w wr ∧ DRow wr w.heap.size dv (key :: (cs.take i).map (·.itm.key)) ∧ ∃ X, ForestV dv.ownBlock w.heap.size [(tb, X)] wr ∧ Hid (Rise X) ∧ Hid (∀ x ∈ X, x.1.length = 32) ∧ Hid (∀ x ∈ X, x.2.length ≤ 1000)) (fun _ iv _ => n - (intOf iv).toNat)
  case atStart => exact ⟨0, Nat.zero_le _, rfl, hb6, hD6, [], hF6, List.Pairwise.nil, (fun x h => by cases h), (fun x h => by cases h)⟩
  case round =>
    clear hb6 hD6 hF6
    obtain ⟨i, hin, rfl, hbr, hDr, X, hFr, HXr, HX32, HXv⟩ := hrel
    by_cases hlt2 : i < n
    · have hd1 : decide ((i : Int) < (n : Int)) = true := by simp; omega
      obtain ⟨x, hx⟩ : ∃ x, cs[i]? = some x := ⟨cs[i]'(by rw [Hn.out]; exact hlt2), List.getElem?_eq_getElem _⟩
      obtain ⟨b, off, rfl, hblk, hrow⟩ := Hcs.out.2 (by rw [Hn.out]; omega)
      have hxm := List.mem_of_getElem? hx
      have hxo := Hcs.out.1 x hxm
      obtain ⟨VL, hVL⟩ : ∃ VL, VL = clC x := ⟨_, rfl⟩
      have hVl : VL.length = 34 := by rw [hVL, clC_length hxo.k32]
      have hrg : wr.rangeAt b (off + i * 34) VL := fun j v hj => by
        rw [hVL] at hj
        rw [← hrow i x hx j v hj]
        exact World.cell?_of_block (hbr.block b hblk)
      have HVi := Lib.hid (show (Tryz.prog.info? 50).map (·.size) = some VL.length by rw [hVl]; exact callSize)
      have HVj := Lib.hid (show (Tryz.prog.info? 50).map (·.size) = some VL.toArray.size by rw [List.size_toArray, hVl]; exact callSize)
      have HV1 := Lib.hid (show VL.toArray.all (·.oneCell') = true by rw [hVL]; exact all_oneCell_toArray (clC_one x))
      have HVz := Lib.hid (show CZ.toArray.size = VL.toArray.size by rw [List.size_toArray, List.size_toArray, HZl.out, hVl])
      obtain ⟨wa, hwa⟩ : ∃ W, W = (wr.alloc (.cells CZ.toArray 50)).setRow wr.heap.size VL.toArray := ⟨_, rfl⟩
      obtain ⟨hVa, hbra⟩ := alloc_row wr 50 CZ.toArray VL
      rw [← hwa] at hVa hbra
      obtain ⟨XL, hXL⟩ : ∃ XL, XL = Lib.byteCells x.itm.key := ⟨_, rfl⟩
      obtain ⟨l, hl⟩ : ∃ l, x.itm.val.length = l := ⟨_, rfl⟩
      obtain ⟨wh, hwh⟩ : ∃ wh, x.what = wh := ⟨_, rfl⟩
      obtain ⟨Ax, hAx⟩ : ∃ a, x.itm.adr = a := ⟨_, rfl⟩
      obtain ⟨cx, hcx⟩ : ∃ a, x.itm.cap = a := ⟨_, rfl⟩
      have hlc : l ≤ cx := by rw [← hl, ← hcx]; exact hxo.le
      have hcm : cx ≤ maxLen := by rw [← hcx]; exact hxo.lim
      have hba : Below w.heap.size w wa := hbr.trans (hbra.mono hbr.size)
      have hbx : Bs wa w.heap.size Ax x.itm.val := by
        rw [← hAx]
        exact hxo.bs.below hba (Nat.le_refl _)
      have hck : ∀ w', Arr w' wr.heap.size 50 VL → w'.rangeAt wr.heap.size 1 XL := fun w' h => by rw [hVL] at h; exact cl8k_key h XL hXL
      have hcv : ∀ w', Arr w' wr.heap.size 50 VL → w'.cell? ⟨wr.heap.size, 33, none⟩ = some (.slice Ax l cx) := fun w' h => by rw [hVL] at h; have := cl8k_val h hxo.k32; rwa [hl, hAx, hcx] at this
      have HXi := Lib.hid (show (Tryz.prog.info? 24).map (·.size) = some XL.length by rw [hXL, Lib.byteCells_length, hxo.k32]; kernel_rfl)
      have Hck := Lib.hid hck
      have Hcv := Lib.hid hcv
      have Hx := Lib.hid hx
      have Hxm := Lib.hid hxm
      have Hwa := Lib.hid hwa
      have Hl := Lib.hid hl
      have Hwh := Lib.hid hwh
      have HXL := Lib.hid hXL
      have Hxk := Lib.hid hxo.k32
      have Hbx := Lib.hid hbx
      have Hcm := Lib.hid hcm
      have HVL0 := Lib.hid (show VL[0]? = some (.int .i64 wh) by rw [hVL, ← hwh]; rfl)
      clear hwa hl hx hrow hVL hVl hxo hAx hcx hXL hwh hck hcv hxm hbx hcm
      have hFa := hFr.up hbra
      have hDa := hDr.up hbra
      have hc00 : ∀ w', Arr w' wr.heap.size 50 VL → w'.cell? ⟨wr.heap.size, 0, none⟩ = some (.int .i64 wh) := fun w' h => by rw [h.cell, HVL0.out]
      have Hc00 := Lib.hid hc00
      have hl2 : x.itm.val.length ≤ 1000 := Nat.le_trans (Hv200.out x Hxm.out) (by decide)
      have Hl2 := Lib.hid hl2
      have hnx : (cs.take (i + 1)).map (·.itm.key) = (cs.take i).map (·.itm.key) ++ [x.itm.key] := by rw [List.take_add_one, Hx.out, List.map_append]; rfl
      have hnx2 : key :: (cs.take (i + 1)).map (·.itm.key) = (key :: (cs.take i).map (·.itm.key)) ++ [x.itm.key] := by rw [hnx]; rfl
      have Hnx := Lib.hid hnx2
      have hdl : (key :: (cs.take i).map (·.itm.key)).length ≤ 1000000 := by rw [List.length_cons, List.length_map, List.length_take]; omega
      clear hl2 hFr hDr hbr hc00 hnx hnx2
      go_upto_region 10 with (first
        | (refine wpList_load_mid rfl _ _ rfl b (off + i * 34) rfl VL _ hrg Tryz.underlying50 rfl HVi.out ?_)
        | (refine wpList_allocZ8 rfl 50 rfl CZ.toArray (HZ.out _) ?_)
        | (refine wpList_store_row rfl _ _ _ rfl wr.heap.size VL.toArray rfl rfl 50 CZ.toArray (heap_alloc_new wr _) HVj.out HVz.out HV1.out ?_; rw [← Hwa.out]))
      obtain ⟨cb, hcb⟩ : ∃ x, wr.heap.size = x := ⟨_, rfl⟩
      rw [hcb] at hVa Hck Hcv Hc00 ⊢
      clear hcb
      have hxk := Hck.out wa hVa
      have hXl : XL.length = 32 := by rw [HXL.out, Lib.byteCells_length, Hxk.out]
      obtain ⟨W1, hW1⟩ : ∃ x, x = wa.alloc (.cells XL.toArray 24) := ⟨_, rfl⟩
      have hbA : Below wa.heap.size wa W1 := by rw [hW1]; exact (Below.refl _ wa).alloc (Nat.le_refl _) _
      have hA1 : Arr W1 wa.heap.size 24 (Lib.byteCells x.itm.key) := by rw [hW1, ← HXL.out]; exact Arr.new wa _ _
      have hD1 := hDa.up hbA
      have hF1 := hFa.up hbA
      have hV1 := hVa.below hbA hVa.lt
      have hlo := hD1.lt
      have hb1 := hba.trans (hbA.mono hba.size)
      have hB1 := hb1.size
      have hbx1 := Hbx.out.below (hbA.mono hba.size) (Nat.le_refl _)
      have HW1 := Lib.hid hW1
      clear hW1 hDa hFa hbA hVa hba
      go_upto_region 11 with (first
        | (refine wpList_load_mid rfl _ _ rfl cb 1 rfl XL _ hxk Tryz.underlying24 rfl HXi.out ?_)
        | (refine wpList_build_dig rfl _ rfl XL hXl rfl ?_; rw [← HW1.out])
        | (at_builtin; refine wpList_append_digO rfl _ _ rfl hD1 hB1 rfl wa.heap.size 1 rfl x.itm.key Hxk.out hA1 hdl ?_; intro v2 w2 hD2 hg2 hp2))
      rw [← Hnx.out] at hD2
      have hF2 := hF1.append hD1 hg2 hp2
      have hV2 : Arr w2 cb 50 VL := (hg2.block cb hV1.lt (fun e => dapartH hD1 hV1 (by decide) e.symm)).trans hV1
      have hbg := (Below.refl w.heap.size W1).grown hg2 hB1 (fun k hk => (hlo k hk).1)
      have hb2 := hb1.trans hbg
      have hbx2 := hbx1.below hbg (Nat.le_refl _)
      have hxk2 := Hck.out w2 hV2
      have hxv2 := Hcv.out w2 hV2
      have hx0 := Hc00.out w2 hV2
      have hvb : ∀ k, v2.ownBlock = some k → k < w2.heap.size := fun k hk => (hD2.lt k hk).2
      obtain ⟨A2, c2, rfl, _⟩ := hD2.slice
      obtain ⟨nd2, hnd2⟩ : ∃ x, (key :: (cs.take (i + 1)).map (·.itm.key)).length = x := ⟨_, rfl⟩
      rw [hnd2] at hD2 hF2 hvb ⊢
      clear hD1 hF1 hV1 hA1 hg2 hlo hb1 hB1 hxk hnd2 hbg hp2 hbx1 hXl hdl
      by_cases h0 : wh = 0
      · subst h0
        go_wp2_with (refine wpList_load_mid rfl _ _ rfl cb 1 rfl XL _ hxk2 Tryz.underlying24 rfl HXi.out ?_)
        go_at_call 23
        refine Calls.mono (forestV_put _ w.heap.size tb X x.itm.key x.itm.val XL HXL.out Hxk.out w.heap.size Ax l cx w2 hF2 hvb hb2.size hbx2 Hl.out Hl2.out) ?_
        rintro e w7 ⟨rfl, hF7, hT7⟩
        have hD7 := hT7.drow hD2
        have hb7 := hb2.trans (hT7.below hb2.size)
        clear hD2 hF2 hV2 hb2 hxk2 hxv2 hx0 hvb hT7 hbx2
        dsimp only
        go_wp2_with fail
        case roundEnd => exact ⟨⟨i + 1, by omega, by simp, hb7, hD7, _, hF7, HXr.out.put _ _, putF_32 Hxk.out HX32.out, putF_vals Hxk.out HX32.out HXv.out Hl2.out⟩, by simp [intOf]; omega⟩
      · have h0d : decide (wh = 0) = false := decide_eq_false h0
        go_wp2_with (refine wpList_load_mid rfl _ _ rfl cb 1 rfl XL _ hxk2 Tryz.underlying24 rfl HXi.out ?_)
        go_at_call 24
        refine Calls.mono (forestV_drop _ w.heap.size tb X x.itm.key XL HXL.out Hxk.out w2 hF2 hvb hb2.size) ?_
        rintro e w7 ⟨rfl, hF7, hT7⟩
        have hD7 := hT7.drow hD2
        have hb7 := hb2.trans (hT7.below hb2.size)
        clear hD2 hF2 hV2 hb2 hxk2 hxv2 hx0 hvb hT7 hbx2
        dsimp only
        go_wp2_with fail
        case roundEnd => exact ⟨⟨i + 1, by omega, by simp, hb7, hD7, _, hF7, HXr.out.drop _, fun y hy => HX32.out y ((mem_dropF y).1 hy).1, fun y hy => HXv.out y ((mem_dropF y).1 hy).1⟩, by simp [intOf]; omega⟩
    · obtain rfl : n = i := by omega
      have hd1 : decide ((n : Int) < (n : Int)) = false := by simp
      have ht : cs.take n = cs := List.take_of_length_le (by rw [Hn.out]; exact Nat.le_refl _)
      rw [ht] at hDr
      have hFf := hFr.toF
      clear ht hFr
      obtain ⟨ks, hks⟩ : ∃ k, key :: cs.map (·.itm.key) = k := ⟨_, rfl⟩
      rw [hks] at hDr
      have hkl : ks.length ≤ 51 := by rw [← hks, List.length_cons, List.length_map, Hn.out]; omega
      have hk32 : ∀ k ∈ ks, k.length = 32 := hDr.1
      obtain ⟨Ak, ck, rfl, hk1, hk2, _⟩ := hDr.slice
      obtain ⟨nk, hnk⟩ : ∃ x, ks.length = x := ⟨_, rfl⟩
      rw [hnk] at hDr hk1 hkl ⊢
      have Hnk := Lib.hid hnk
      have Hk32 := Lib.hid hk32
      have Hg := Lib.hid (HXr.out.good HX32.out)
      obtain ⟨SL, hSL⟩ : ∃ SL, SL = Lib.byteCells (rootF X) := ⟨_, rfl⟩
      have hrl : (rootF X).length = 32 := by unfold rootF nodeD; split <;> exact shaF_length _
      have HSL := Lib.hid hSL
      have Hrl := Lib.hid hrl
      clear hnk hks hk32 hSL hrl hk2
      go_wp2_with fail
      go_loopw [50] (fun iv wr => ∃ i : Nat, i ≤ nk ∧ iv = .int .i64 i ∧ Below w.heap.size w wr ∧ DRow wr w.heap.size (.slice Ak nk ck) ks ∧ Forest w.heap.size [(tb, X)] wr) (fun iv _ => nk - (intOf iv).toNat)
      case atStart => exact ⟨0, Nat.zero_le _, rfl, hbr, hDr, hFf⟩
      case round =>
        clear hbr hDr hFf
        obtain ⟨i, hin, rfl, hbr, hDr, hFr⟩ := hrel
        by_cases hlt3 : i < nk
        · have hd2 : decide ((i : Int) < (nk : Int)) = true := by simp; omega
          have hki : ((i : Int) < (nk : Int)) := by omega
          obtain ⟨A', c', q, _, _, hdat⟩ := hDr.slice
          injection q with q1 q2 q3
          subst q1
          obtain ⟨b, off, rfl, hblk, hrow⟩ := hdat (by rw [Hnk.out]; omega)
          obtain ⟨h32, hrg⟩ := hrow i (by rw [Hnk.out]; exact hlt3)
          obtain ⟨k, hk'⟩ : ∃ k, ks.getD i [] = k := ⟨_, rfl⟩
          rw [hk'] at h32 hrg
          obtain ⟨QL, hQL⟩ : ∃ QL, QL = Lib.byteCells k := ⟨_, rfl⟩
          rw [← hQL] at hrg
          have HQm := Lib.hid (show (Tryz.prog.info? 24).map (·.size) = some QL.length by rw [hQL, Lib.byteCells_length, h32]; kernel_rfl)
          have HQi := Lib.hid (show (Tryz.prog.info? 24).map (·.size) = some QL.toArray.size ∧ (Lib.byteCells zeros).toArray.size = QL.toArray.size by rw [hQL, dig_size h32]; exact ⟨by kernel_rfl, by kernel_rfl⟩)
          have HQ1 := Lib.hid (show QL.toArray.all (·.oneCell') = true by rw [hQL]; exact all_oneCell_toArray (byteCells_one _))
          have HQL := Lib.hid hQL
          have H32 := Lib.hid h32
          clear hrow hdat hk' hQL h32 q2 q3
          obtain ⟨wr0, hwr0⟩ : ∃ x, x = wr := ⟨_, rfl⟩
          subst hwr0
          go_upto_region 18 with (first
            | (refine wpList_load_mid rfl _ _ rfl b (off + i * 32) rfl QL _ hrg Tryz.underlying24 rfl HQm.out ?_)
            | (change wpList _ _ _ _ _ (wr0.alloc (.cells (Lib.byteCells zeros).toArray 24)); refine wpList_store_row rfl _ _ _ rfl wr0.heap.size QL.toArray rfl rfl 24 (Lib.byteCells zeros).toArray (heap_alloc_new wr0 _) HQi.out.1 HQi.out.2 HQ1.out ?_; obtain ⟨wa, hwa⟩ : ∃ x, x = (wr0.alloc (.cells (Lib.byteCells zeros).toArray 24)).setRow wr0.heap.size QL.toArray := ⟨_, rfl⟩; rw [← hwa]; obtain ⟨hQa, hba⟩ := alloc_row wr0 24 (Lib.byteCells zeros).toArray QL; rw [← hwa] at hQa hba; clear hwa))
          have hbb := hbr.trans (hba.mono hbr.size)
          have hDa := hDr.up hba
          have hFa := hFr.up hba
          obtain ⟨kb, hkb⟩ : ∃ x, wr0.heap.size = x := ⟨_, rfl⟩
          rw [hkb] at hQa ⊢
          clear hkb hbr hDr hFr hrg hba hblk
          go_wp2_with (refine wpList_load_row rfl _ _ rfl kb rfl 24 QL.toArray (0, 0) _ hQa Tryz.underlying24 rfl HQi.out.1 ?_)
          go_at_call 17
          refine Calls.mono (forest_get w.heap.size tb X [] k QL HQL.out H32.out wa hFa) ?_
          rintro e w6 ⟨v6, rfl, hF6, hb6a, hY6, hN6⟩
          have hb6 := hbb.trans (hb6a.mono hbb.size)
          have hQ6 := hQa.below hb6a hQa.lt
          have hD6 := hDa.up hb6a
          obtain ⟨hs, hhs⟩ : ∃ hs, hasF X k = hs := ⟨_, rfl⟩
          rw [hhs] at hY6 hN6 ⊢
          -- what is told, and what is shown
          have hval : ∃ (val : List UInt8) (A6 : Option Addr) (c6 : Nat), v6 = .slice A6 val.length c6 ∧ val.length ≤ maxLen ∧ Bs w6 w6.heap.size A6 val ∧ Owns w6 wa.heap.size 5 v6 val ∧ findF X k = (if hs = true then some val else none) ∧ (hs = false → val = []) := by
            cases hs with
            | true =>
              obtain ⟨val, hv, hO⟩ := hY6 rfl
              obtain ⟨A6, c6, e, h1, h2, h3⟩ := hO.slice
              exact ⟨val, A6, c6, e, by omega, h3, hO, by rw [if_pos rfl]; exact findF_has HXr.out hv, fun h => by cases h⟩
            | false =>
              exact ⟨[], none, 0, hN6 rfl, by simp, Bs.nil _ _ _, by rw [hN6 rfl]; exact Owns.nil w6 _ _, by rw [if_neg (by simp)]; exact findF_not hhs, fun _ => rfl⟩
          obtain ⟨val, A6, c6, rfl, hvm, hb6v, hO6, hfind, hval0⟩ := hval
          have hchk := honest_all k H32.out X Hg.out HXv.out
          rw [hfind] at hchk
          obtain ⟨P, hP⟩ : ∃ P, P = proveF k 65 X 0 := ⟨_, rfl⟩
          rw [← hP] at hchk
          have HPl : Hid (∀ a ∈ P, a.length ≤ 2000) := by show ∀ a ∈ P, a.length ≤ 2000; rw [hP]; exact fun a ha => Nat.le_trans (proveF_lenH k 65 X 0 Hg.out HXv.out (fun i hi => by omega) (by omega) a ha) (by decide)
          have HPn : Hid (P.length ≤ 65) := by show P.length ≤ 65; rw [hP]; exact proveF_many k 65 X 0
          have HP := Lib.hid hP
          have Hchk := Lib.hid hchk
          have Hhs := Lib.hid hhs
          have Hval0 := Lib.hid hval0
          obtain ⟨vl, hvl⟩ : ∃ x, val.length = x := ⟨_, rfl⟩
          rw [hvl] at hO6 hvm ⊢
          have Hvl := Lib.hid hvl
          have Hvm := Lib.hid hvm
          clear hY6 hN6 hfind hchk hP hhs hvl hQa hDa hFa hbb hb6a hb6v hval0 hvm
          dsimp only
          go_upto_region 19 with fail
          refine wp_region_held_drew (S := fun w' => Arr w' kb 24 QL) (by kernel_rfl) (hQ6.drewN 1) (fun hHeld => ?_)
          refine anyH_take (i := 0) (v := .pointer (some ⟨tb, 0, none⟩)) (some 61) rfl rfl (by kernel_rfl) (by kernel_rfl) (by kernel_rfl) (fun _ _ _ h => h) (Or.inl ⟨by rfl, fun w' hw => by rfl⟩) (by assumption) ?_
          simp only [Act.put, List.setIfInBounds_toArray, List.set_cons_zero, List.set_cons_succ]
          refine anyH_take (i := 2) (some 63) rfl rfl (by kernel_rfl) (by kernel_rfl) (by kernel_rfl) (fun _ _ _ h => h) (yieldsIf_load_mid (by rfl) 24 (.tmp 10) rfl kb 0 rfl QL _ (fun w' h => (h).range) Tryz.underlying24 rfl HQm.out) (by assumption) ?_
          simp only [Act.put, List.setIfInBounds_toArray, List.set_cons_zero, List.set_cons_succ]
          refine anyH_take (i := 3) (v := .pointer (some ⟨tb, 0, none⟩)) (some 64) rfl rfl (by kernel_rfl) (by kernel_rfl) (by kernel_rfl) (fun _ _ _ h => h) (Or.inl ⟨by rfl, fun w' hw => by rfl⟩) (by assumption) ?_
          simp only [Act.put, List.setIfInBounds_toArray, List.set_cons_zero, List.set_cons_succ]
          refine anyH_take (i := 4) (some 65) rfl rfl (by kernel_rfl) (by kernel_rfl) (by kernel_rfl) (fun _ _ _ h => h) (yieldsIf_load_mid (by rfl) 24 (.tmp 10) rfl kb 0 rfl QL _ (fun w' h => (h).range) Tryz.underlying24 rfl HQm.out) (by assumption) ?_
          simp only [Act.put, List.setIfInBounds_toArray, List.set_cons_zero, List.set_cons_succ]
          refine wpAnyH_ready (rs := [1]) (by kernel_rfl) (by simp) ?_
          refine AllReadyH.cons rfl (fun K hK => ?_) AllReadyH.nil
          go_simp
          go_at_call 12
          refine Calls.mono (forest_root w.heap.size tb X [] SL HSL.out w6.drew (hF6.up (Below.dN (Below.refl _ _) 1))) ?_
          rintro e w7 ⟨rfl, hF7, hT7⟩
          have hb7 := (Below.dN hb6 1).trans (hT7.below hb6.size)
          have hQ7 := hT7.arr (w := w6.drew) (hQ6.drewN 1) (by decide) (by decide)
          have hD7 := hT7.drow (w := w6.drew) (hD6.up (Below.dN (Below.refl _ _) 1))
          have hO7 := hT7.owns (w := w6.drew) (hO6.drewN 1)
          clear hF6 hQ6 hD6 hO6 hT7 hb6
          refine hK.out _ _ hQ7 (fun hHeldx => ?_)
          clear hK K
          try simp only [Act.put, List.setIfInBounds_toArray, List.set_cons_zero, List.set_cons_succ]
          refine wpAnyH_ready (rs := [5]) (by kernel_rfl) (by simp) ?_
          refine AllReadyH.cons rfl (fun K hK => ?_) AllReadyH.nil
          go_simp
          go_at_call 15
          refine Calls.mono (forest_prove w.heap.size tb X [] k QL HQL.out H32.out w7 hF7) ?_
          rintro e w8 ⟨v8, rfl, hP8, hF8, hT8, _⟩
          rw [← HP.out] at hP8
          have hb8 := hb7.trans (hT8.below hb7.size)
          have hQ8 := hT8.arr hQ7 (by decide) (by decide)
          have hD8 := hT8.drow hD7
          have hO8 := hT8.owns hO7
          obtain ⟨A8, c8, rfl, h81, h82, h83⟩ := hP8.toN.rows
          obtain ⟨np, hnp⟩ : ∃ x, P.length = x := ⟨_, rfl⟩
          rw [hnp] at h81 ⊢
          have Hnp := Lib.hid hnp
          have h70 : np ≤ 71 := by rw [← hnp]; exact Nat.le_trans HPn.out (by decide)
          have h82 : c8 ≤ maxLen := h82
          clear hnp hP8 hF7 hQ7 hD7 hO7 hT8 hb7
          refine hK.out _ _ hQ8 (fun hHeldx => ?_)
          clear hK K
          try simp only [Act.put, List.setIfInBounds_toArray, List.set_cons_zero, List.set_cons_succ]
          refine wpAnyH_ready (rs := [6]) (by kernel_rfl) (by simp) ?_
          refine AllReadyH.cons rfl (fun K hK => ?_) AllReadyH.nil
          go_simp
          go_at_call 28
          refine Calls.mono (check_run (rootF X) k Hrl.out H32.out SL QL HSL.out HQL.out P A8 np c8 w8 Hnp.out h81 h82 h83 HPl.out h70) ?_
          rintro e w9 ⟨V9, rfl, hV9, hb89⟩
          rw [Hchk.out] at hV9
          have hb9 := hb8.trans (hb89.mono hb8.size)
          have hQ9 := hQ8.below hb89 hQ8.lt
          have hD9 := hD8.up hb89
          have hF9 := hF8.up hb89
          have hO9 := hO8.below hb89 (fun k hk => (hO8.lt k hk).2)
          clear hF8 hQ8 hD8 hO8 hb89 h83 hb8
          refine hK.out _ _ hQ9 (fun hHeldx => ?_)
          clear hK K
          try simp only [Act.put, List.setIfInBounds_toArray, List.set_cons_zero, List.set_cons_succ]
          obtain ⟨B9, c9, hVe, hB9⟩ : ∃ (B9 : Option Addr) (c9 : Nat), V9 = .tuple #[.slice B9 vl c9, .bool hs, .int .i64 0] ∧ Bs w9 w9.heap.size B9 val := by
            cases hs with
            | true =>
              rw [if_pos rfl] at hV9
              obtain ⟨B9, c9, e, _, _, h⟩ := hV9
              exact ⟨B9, c9, by rw [e, Hvl.out], h⟩
            | false =>
              rw [if_neg (by simp)] at hV9
              have hv0 := Hval0.out rfl
              have hvl0 : vl = 0 := by rw [← Hvl.out, hv0]; rfl
              exact ⟨none, 0, by rw [hvl0]; exact hV9, by rw [hv0]; exact Bs.nil _ _ _⟩
          subst hVe
          clear hV9
          refine anyH_take (i := 7) (v := .tuple #[.slice B9 vl c9, .bool hs, .int .i64 0]) (some 60) rfl rfl (by kernel_rfl) (by kernel_rfl) (by kernel_rfl) (fun _ _ _ h => h) (Or.inl ⟨by rfl, fun w' hw => by rfl⟩) (by assumption) ?_
          simp only [Act.put, List.setIfInBounds_toArray, List.set_cons_zero, List.set_cons_succ]
          refine anyH_take (i := 8) (v := .slice B9 vl c9) (some 68) rfl rfl (by kernel_rfl) (by kernel_rfl) (by kernel_rfl) (fun _ _ _ h => h) (Or.inl ⟨by rfl, fun w' hw => by go_simp⟩) (by assumption) ?_
          simp only [Act.put, List.setIfInBounds_toArray, List.set_cons_zero, List.set_cons_succ]
          refine anyH_take (i := 9) (v := .bool hs) (some 69) rfl rfl (by kernel_rfl) (by kernel_rfl) (by kernel_rfl) (fun _ _ _ h => h) (Or.inl ⟨by rfl, fun w' hw => by go_simp⟩) (by assumption) ?_
          simp only [Act.put, List.setIfInBounds_toArray, List.set_cons_zero, List.set_cons_succ]
          refine anyH_take (i := 10) (v := .int .i64 0) (some 70) rfl rfl (by kernel_rfl) (by kernel_rfl) (by kernel_rfl) (fun _ _ _ h => h) (Or.inl ⟨by rfl, fun w' hw => by go_simp⟩) (by assumption) ?_
          simp only [Act.put, List.setIfInBounds_toArray, List.set_cons_zero, List.set_cons_succ]
          refine anyH_take (i := 11) (v := .slice B9 vl c9) (some 13) rfl rfl (by kernel_rfl) (by kernel_rfl) (by kernel_rfl) (fun _ _ _ h => h) (Or.inl ⟨by rfl, fun w' hw => by rfl⟩) (by assumption) ?_
          simp only [Act.put, List.setIfInBounds_toArray, List.set_cons_zero, List.set_cons_succ]
          refine anyH_take (i := 12) (v := .bool hs) (some 14) rfl rfl (by kernel_rfl) (by kernel_rfl) (by kernel_rfl) (fun _ _ _ h => h) (Or.inl ⟨by rfl, fun w' hw => by rfl⟩) (by assumption) ?_
          simp only [Act.put, List.setIfInBounds_toArray, List.set_cons_zero, List.set_cons_succ]
          refine anyH_take (i := 13) (v := .int .i64 0) (some 15) rfl rfl (by kernel_rfl) (by kernel_rfl) (by kernel_rfl) (fun _ _ _ h => h) (Or.inl ⟨by rfl, fun w' hw => by rfl⟩) (by assumption) ?_
          simp only [Act.put, List.setIfInBounds_toArray, List.set_cons_zero, List.set_cons_succ]
          refine wpAnyH_done (by kernel_rfl) ?_ _
          clear hHeld hQ9
          obtain ⟨A9', c9', e9, _, _, hA9⟩ := hO9.slice
          injection e9 with e91 e92 e93
          subst e91
          clear hO9 e92 e93
          have hbs : (hs != hs) = false := by simp
          go_wp2_with fail
          go_at_call 18
          refine Calls.mono (same_n w9.heap.size w9.heap.size A6 B9 c6 c9 vl vl val val w9 true hA9 hB9 Hvl.out Hvl.out Hvm.out Hvm.out (by simp)) ?_
          rintro e w10 ⟨rfl, k10, rfl⟩
          have hX := Below.dN (Below.refl w9.heap.size w9) k10
          have hbX : Below w.heap.size w (w9.drewN k10) := Below.dN hb9 k10
          have hDX := hD9.up hX
          have hFX := hF9.up hX
          clear hX hA9 hB9 hD9 hF9 hb9
          dsimp only
          go_wp2_with fail
          case roundEnd => exact ⟨⟨i + 1, by omega, by simp, hbX, hDX, hFX⟩, by simp [intOf]; omega⟩
        · obtain rfl : nk = i := by omega
          have hd2 : decide ((nk : Int) < (nk : Int)) = false := by simp
          go_wp2_with fail
          go_ret
          exact ⟨rfl, hbr⟩

theorem phonest_walk (A : Option Addr) (n c : Nat) (cs : List Cl8) (hn : cs.length = n) (hc : n ≤ c) (hm : c ≤ maxLen) (key : List UInt8) (w : World) (hcs : Cls8 w w.heap.size A cs) (hk : key.length = 32) : Calls Tryz.prog 8 #[.slice A n c, .agg (Lib.byteCells key).toArray] w fun e w' => e = .returned (.bool true) ∧ Below w.heap.size w w' := by
  cases h : great8 cs with
  | true => exact phonest_great A n c cs hn hc hm key w hcs hk h
  | false => exact phonest_in A n c cs hn hc hm key w hcs hk h

end Go.Proofs.YtjbiegbdnppncaaGreat

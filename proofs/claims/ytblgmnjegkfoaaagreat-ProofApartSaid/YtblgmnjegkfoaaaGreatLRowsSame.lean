/-
  The document's SameRows, on rows that are one; what a fitting row of items is.
-/
import Derived.Test.YtblgmnjegkfoaaaGreatLTrieTProve
import Derived.Test.YtblgmnjegkfoaaaGreatLDigRow
namespace Go.Proofs.YtblgmnjegkfoaaaGreat
open Go.RowKit
set_option linter.unusedVariables false
set_option linter.unusedSimpArgs false

set_option maxHeartbeats 4000000 in
set_option maxRecDepth 100000 in
theorem sameRows_any (rs : List (List UInt8)) (A A' : Option Addr) (n c c' : Nat) (w : World) (hn : rs.length = n) (hc : n ≤ c) (hm : c ≤ 9223372036854775807) (hc' : n ≤ c') (hm' : c' ≤ 9223372036854775807) (h : RowsAt w w.heap.size A rs) (h' : RowsAt w w.heap.size A' rs) :
    Calls Tryz.prog 11 #[.slice A n c, .slice A' n c'] w fun e w' => e = .returned (.bool true) ∧ Drawn w w' := by
  have hb0 : ((n : Int) != (n : Int)) = false := by simp
  have Hn := Lib.hid hn
  clear hn
  go_enter Tryz.func11, Tryz.ntmps11
  go_wp2_with fail
  go_loopw [5] (fun i wr => ∃ k : Nat, k ≤ n ∧ i = .int .i64 k ∧ Drawn w wr) (fun i _ => n - (intOf i).toNat)
  case atStart => exact ⟨0, Nat.zero_le _, rfl, Drawn.refl _⟩
  case round =>
    obtain ⟨k, hk, rfl, nd, rfl⟩ := hrel
    by_cases hlt : k < n
    · have hkd : k < rs.length := by rw [Hn.out]; exact hlt
      obtain ⟨b, off, rfl, hb, hd⟩ := h (by omega)
      obtain ⟨b', off', rfl, hb', hd'⟩ := h' (by omega)
      obtain ⟨Ar, cr, hc1, hc2, hc3, hc4⟩ := hd k hkd
      obtain ⟨Ar', cr', hc1', hc2', hc3', hc4'⟩ := hd' k hkd
      obtain ⟨x, hx⟩ : ∃ x, rs.getD k [] = x := ⟨_, rfl⟩
      rw [hx] at hc1 hc2 hc4 hc1' hc2' hc4'
      obtain ⟨lx, hlx⟩ : ∃ l, x.length = l := ⟨_, rfl⟩
      rw [hlx] at hc1 hc2 hc1' hc2'
      have Hlx := Lib.hid hlx
      have Hb4 := Lib.hid hc4
      have Hb4' := Lib.hid hc4'
      have hki : (k : Int) < (n : Int) := by omega
      have hl63 : lx ≤ maxLen := by omega
      have Hl := Lib.hid hl63
      have hcw : ((w.drewN nd).drew).cell? ⟨b, off + k, none⟩ = some (.slice Ar lx cr) := hc1
      have hcw' : ((w.drewN nd).drew).cell? ⟨b', off' + k, none⟩ = some (.slice Ar' lx cr') := hc1'
      clear hd hd' hx hlx hc4 hc4' hc1 hc1' hl63 h h' hc3 hc3'
      go_upto_region 6 with fail
      refine wp_region_held_drew (S := fun w' => w'.cell? ⟨b, off + k, none⟩ = some (.slice Ar lx cr) ∧ w'.cell? ⟨b', off' + k, none⟩ = some (.slice Ar' lx cr')) (by kernel_rfl) ⟨hcw, hcw'⟩ (fun hHeld => ?_)
      refine anyH_take (i := 0) (v := .slice (some ⟨b, off, none⟩) n c) (some 17) rfl rfl (by kernel_rfl) (by kernel_rfl) (by kernel_rfl) (fun _ _ _ h => h) (Or.inl ⟨by rfl, fun w' hw => by rfl⟩) (by assumption) ?_
      simp only [Act.put, List.setIfInBounds_toArray, List.set_cons_zero, List.set_cons_succ]
      refine anyH_take (i := 1) (v := .int .i64 (k : Nat)) (some 18) rfl rfl (by kernel_rfl) (by kernel_rfl) (by kernel_rfl) (fun _ _ _ h => h) (Or.inl ⟨by rfl, fun w' hw => by rfl⟩) (by assumption) ?_
      simp only [Act.put, List.setIfInBounds_toArray, List.set_cons_zero, List.set_cons_succ]
      refine anyH_take (i := 2) (v := .pointer (some ⟨b, off + k, none⟩)) (some 19) rfl rfl (by kernel_rfl) (by kernel_rfl) (by kernel_rfl) (fun _ _ _ h => h) (Or.inl ⟨by rfl, fun w' hw => by (go_simp; try (intro h; omega))⟩) (by assumption) ?_
      simp only [Act.put, List.setIfInBounds_toArray, List.set_cons_zero, List.set_cons_succ]
      refine anyH_take (i := 3) (v := .slice Ar lx cr) (some 20) rfl rfl (by kernel_rfl) (by kernel_rfl) (by kernel_rfl) (fun _ _ _ h => h) (Or.inl ⟨by rfl, fun w' hw => by (have hq := hw.1; go_simp)⟩) (by assumption) ?_
      simp only [Act.put, List.setIfInBounds_toArray, List.set_cons_zero, List.set_cons_succ]
      refine anyH_take (i := 4) (v := (.slice (some ⟨b', off', none⟩) n c')) (some 21) rfl rfl (by kernel_rfl) (by kernel_rfl) (by kernel_rfl) (fun _ _ _ h => h) (Or.inl ⟨by rfl, fun w' hw => by rfl⟩) (by assumption) ?_
      simp only [Act.put, List.setIfInBounds_toArray, List.set_cons_zero, List.set_cons_succ]
      refine anyH_take (i := 5) (v := .int .i64 (k : Nat)) (some 22) rfl rfl (by kernel_rfl) (by kernel_rfl) (by kernel_rfl) (fun _ _ _ h => h) (Or.inl ⟨by rfl, fun w' hw => by rfl⟩) (by assumption) ?_
      simp only [Act.put, List.setIfInBounds_toArray, List.set_cons_zero, List.set_cons_succ]
      refine anyH_take (i := 6) (v := (.pointer (some ⟨b', off' + k, none⟩))) (some 23) rfl rfl (by kernel_rfl) (by kernel_rfl) (by kernel_rfl) (fun _ _ _ h => h) (Or.inl ⟨by rfl, fun w' hw => by (go_simp; try (intro h; omega))⟩) (by assumption) ?_
      simp only [Act.put, List.setIfInBounds_toArray, List.set_cons_zero, List.set_cons_succ]
      refine anyH_take (i := 7) (v := (.slice Ar' lx cr')) (some 24) rfl rfl (by kernel_rfl) (by kernel_rfl) (by kernel_rfl) (fun _ _ _ h => h) (Or.inl ⟨by rfl, fun w' hw => by (have hq := hw.2; go_simp)⟩) (by assumption) ?_
      simp only [Act.put, List.setIfInBounds_toArray, List.set_cons_zero, List.set_cons_succ]
      refine wpAnyH_ready (rs := [8]) (by kernel_rfl) (by simp) ?_
      refine AllReadyH.cons rfl (fun K hK => ?_) AllReadyH.nil
      go_simp
      go_at_call 15
      refine Calls.mono (same_n w.heap.size w.heap.size Ar Ar' cr cr' lx lx x x ((w.drewN nd).drewN 1) true Hb4.out Hb4'.out Hlx.out Hlx.out Hl.out Hl.out (by simp)) ?_
      rintro e w7 ⟨rfl, k7, rfl⟩
      refine hK.out _ _ ⟨hcw, hcw'⟩ (fun hHeldx => ?_)
      clear hK K
      try simp only [Act.put, List.setIfInBounds_toArray, List.set_cons_zero, List.set_cons_succ]
      refine anyH_take (i := 9) (v := .bool false) (some 26) rfl rfl (by kernel_rfl) (by kernel_rfl) (by kernel_rfl) (fun _ _ _ h => h) (Or.inl ⟨by rfl, fun w' hw => by go_simp⟩) (by assumption) ?_
      simp only [Act.put, List.setIfInBounds_toArray, List.set_cons_zero, List.set_cons_succ]
      refine wpAnyH_done (by kernel_rfl) ?_ _
      clear hHeld hHeldx
      go_wp2_with fail
      go_roundw
      case rel => exact ⟨k + 1, by omega, by go_num, (⟨nd + 1 + k7, rfl⟩ : Drawn _ _)⟩
      case measure => simp [intOf]; omega
    · obtain rfl : n = k := by omega
      go_wp2_with fail
      go_ret
      exact ⟨rfl, ⟨nd, rfl⟩⟩

theorem Turns.drow {B B1 : Nat} {w w' : World} (h : Turns B w w') {v : Value} {ds : List (List UInt8)} (hI : DRow w B1 v ds) : DRow w' B1 v ds := by
  refine ⟨hI.1, hI.2.1, ?_⟩
  rcases hI.2.2 with hn | ⟨g, cap, cur, rfl, h1, hg, rest⟩
  · exact .inl hn
  · refine .inr ⟨g, cap, cur, rfl, h1, (h.block g (Array.getElem?_eq_some_iff.1 hg).1 fun q => ?_).trans hg, rest⟩
    obtain ⟨_, T', cs', hT, hA⟩ := q
    have q2 : some _ = some _ := (show w.heap[g]? = some _ from hA).symm.trans hg
    injection q2 with q2
    injection q2 with q3 q4
    rcases hT with e | e <;> (rw [e] at q4; exact absurd q4 (by decide))
theorem rise_uniq {l : List It} (h : Rise l) {k a b : List UInt8} (ha : (k, a) ∈ l) (hb : (k, b) ∈ l) : a = b := by
  induction l with
  | nil => cases ha
  | cons x l ih =>
    obtain ⟨hx, hl⟩ := List.pairwise_cons.1 h
    rcases List.mem_cons.1 ha with ea | ha
    · rcases List.mem_cons.1 hb with eb | hb
      · rw [← eb] at ea; injection ea
      · have := hx _ hb
        rw [← ea, lessF_irrefl] at this; cases this
    · rcases List.mem_cons.1 hb with eb | hb
      · have := hx _ ha
        rw [← eb, lessF_irrefl] at this; cases this
      · exact ih hl ha hb
theorem fit_row {w w' : World} {B : Nat} {A : Option Addr} {n c : Nat} {xs : List Itm} (hI : IRow w' B (.slice A n c) xs) (hn : xs.length = n) (hc : n ≤ c) (h50 : n ≤ 1000) (hb : Below w.heap.size w w') (hok : ∀ y ∈ xs, ItOk w w.heap.size y ∧ y.val.length ≤ 200) (hg : Good (xs.map Itm.it)) : ItsFit w' xs A n c := by
  refine ⟨hn, hc, h50, hg, fun x hx => Nat.le_trans (hok x hx).2 (by decide), fun x hx => ?_, ?_⟩
  · obtain ⟨q1, q2, q3, q4⟩ := (hok x hx).1
    exact ⟨q1, q2, q3, (q4.below hb (Nat.le_refl _)).more hb.size⟩
  · obtain ⟨A', c', q, _, _, h⟩ := hI.slice
    injection q with q1 q2 q3
    rw [q1]; exact h

/-- Tries whose blocks lie below n0. -/
def ForestN (n0 B : Nat) (ts : List (Nat × List It)) (w : World) : Prop :=
  ∃ M, (Stand M w ∧ M.Sep ∧ noWood.Up M B ∧ ∀ x ∈ ts, B ≤ x.1 ∧ ∃ p, Arr w x.1 62 [.pointer p] ∧ RootAt M p x.2) ∧ (∃ w0 : World, w0.heap.size ≤ n0 ∧ Stand M w0) ∧ ∀ x ∈ ts, x.1 < n0
theorem Forest.toN {B : Nat} {ts : List (Nat × List It)} {w : World} (h : Forest B ts w) : ForestN w.heap.size B ts w := by
  have h0 := h
  obtain ⟨M, h1, h2, h3, h4⟩ := h
  exact ⟨M, ⟨h1, h2, h3, h4⟩, ⟨w, Nat.le_refl _, h1⟩, fun x hx => (h0.lt hx).1⟩
theorem ForestN.toF {n0 B : Nat} {ts : List (Nat × List It)} {w : World} (h : ForestN n0 B ts w) : Forest B ts w := by
  obtain ⟨M, h1, _⟩ := h
  exact ⟨M, h1⟩
theorem ForestN.keep {n0 B : Nat} {ts : List (Nat × List It)} {w w' : World} (h : ForestN n0 B ts w) (hb : Below n0 w w') : ForestN n0 B ts w' := by
  obtain ⟨M, ⟨h1, h2, h3, h4⟩, ⟨w0, k1, k2⟩, k3⟩ := h
  refine ⟨M, ⟨k2.low h1 (hb.mono k1), h2, h3, fun x hx => ?_⟩, ⟨w0, k1, k2⟩, k3⟩
  obtain ⟨q1, p, q2, q3⟩ := h4 x hx
  exact ⟨q1, p, (hb.block _ (k3 x hx)).trans q2, q3⟩
theorem forestN_prove (n0 B : Nat) (a : Nat) (l : List It) (ts : List (Nat × List It)) (key : List UInt8) (KL : List Value) (hKL : KL = Lib.byteCells key) (hk : key.length = 32) (w : World) (h : ForestN n0 B ((a, l) :: ts) w) :
    Calls Tryz.prog 12 #[.pointer (some ⟨a, 0, none⟩), .agg KL.toArray] w fun e w' => ∃ v, e = .returned v ∧ PRow w' w.heap.size v (proveF key 65 l 0) ∧ ForestN n0 B ((a, l) :: ts) w' ∧ Turns B w w' := by
  obtain ⟨M, ⟨h1, h2, h3, h4⟩, k1, k2⟩ := h
  obtain ⟨hBa, p, hA, hR⟩ := h4 (a, l) List.mem_cons_self
  refine (tprove_run a p M l hR key KL hKL hk w h1 h2 hA).mono ?_
  rintro e w' ⟨v, rfl, m0, m1, m3⟩
  refine ⟨v, rfl, m0, ⟨M, ⟨m1, h2, h3, fun x hx => ?_⟩, k1, k2⟩, Only.more m3 fun k _ q => ⟨h3.lowB k 0 q, ?_⟩⟩
  · obtain ⟨k1, p, k2, k3⟩ := h4 x hx
    exact ⟨k1, p, k2.only m3 (h1.offTrie k2 0), k3⟩
  · obtain ⟨n, hn, _⟩ := q
    obtain ⟨cs, hcs⟩ := (h1 k n hn).typ
    exact ⟨_, cs, .inl rfl, hcs⟩

end Go.Proofs.YtblgmnjegkfoaaaGreat

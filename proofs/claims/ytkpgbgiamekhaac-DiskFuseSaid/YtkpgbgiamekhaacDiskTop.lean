/-
  A disk's Sync and Crash; a Write that isn't done.
-/
import Derived.Test.YtkpgbgiamekhaacDiskSettle
namespace Go.Proofs.Ytkpgbgiamekhaac
open Go.RowKit
set_option linter.unusedVariables false
set_option linter.unusedSimpArgs false

theorem Disk.kept {w w' : World} {F : Nat → Prop} {k n : Nat} {S L : List (List UInt8)} {W : List WrF} {fu : Bool} {left : Int} (h : Disk w F k n S L W fu left) (hs : w.heap.size ≤ w'.heap.size) (hb : ∀ b, F b → w'.heap[b]? = w.heap[b]?) : Disk w' F k n S L W fu left := by
  obtain ⟨gs, gl, bm, vw, base, nm, D, hD, r⟩ := h
  exact ⟨gs, gl, bm, vw, base, nm, D, hD.kept hs hb, r⟩
theorem Disk.Flt {w : World} {F : Nat → Prop} {k n : Nat} {S L : List (List UInt8)} {W : List WrF} {fu : Bool} {left : Int} (h : Disk w F k n S L W fu left) : ∀ b, F b → b < w.heap.size := by
  obtain ⟨gs, gl, bm, vw, base, nm, D, hD, r⟩ := h
  exact hD.Flt
theorem Disk.below {w w' : World} {F : Nat → Prop} {k n : Nat} {S L : List (List UInt8)} {W : List WrF} {fu : Bool} {left : Int} (h : Disk w F k n S L W fu left) (hb : Below w.heap.size w w') : Disk w' F k n S L W fu left := h.kept hb.size (fun b hF => hb.block b (h.Flt b hF))
theorem Disk.more {w : World} {F F' : Nat → Prop} {k n : Nat} {S L : List (List UInt8)} {W : List WrF} {fu : Bool} {left : Int} (h : Disk w F k n S L W fu left) (h1 : ∀ b, F b → F' b) (h2 : ∀ b, F' b → b < w.heap.size) : Disk w F' k n S L W fu left := by
  obtain ⟨gs, gl, bm, vw, base, nm, D, hD, r⟩ := h
  exact ⟨gs, gl, bm, vw, base, nm, D, hD.more h1 h2, r⟩

set_option maxHeartbeats 8000000 in
set_option maxRecDepth 100000 in
theorem write_no (F : Nat → Prop) (k n : Nat) (a : Int) (S L : List (List UInt8)) (W : List WrF) (fu : Bool) (left : Int) (SL : List Value) (w : World) (h : Disk w F k n S L W fu left) (ha : a < 0 ∨ (n : Int) ≤ a) :
    Calls Try.prog 11 #[.pointer (some ⟨k, 0, none⟩), .int .i64 a, .agg SL.toArray] w fun e w' => e = .returned (.int .i64 2) ∧ Below w.heap.size w w' := by
  obtain ⟨gs, gl, bm, vw, base, nm, D, hD, hK, hnm, hgone⟩ := h
  have hn2 := hD.n2
  obtain ⟨w1, hw1⟩ : ∃ x, x = w.alloc (.cells SL.toArray 30) := ⟨_, rfl⟩
  have hb1 : Below w.heap.size w w1 := by rw [hw1]; exact (Below.refl _ _).alloc (Nat.le_refl _) _
  have hD1 := hD.kept hb1.size (fun b hF => hb1.block b (hD.Flt b hF))
  have HW1 := Lib.hid hw1
  clear hw1
  go_enter Try.func11, Try.ntmps11
  go_upto_region 1 with fail
  change Code.wp _ _ _ _ (w.alloc (.cells SL.toArray 30))
  rw [← HW1.out]
  clear HW1
  go_wp2_with fail
  refine Calls.mono (has_no k gs n a w1 hD1.c0 ha hn2) ?_
  rintro e wa ⟨rfl, rfl⟩
  go_wp2_with fail
  go_ret
  exact ⟨rfl, hb1⟩

set_option maxHeartbeats 8000000 in
set_option maxRecDepth 100000 in
theorem write_dead (F : Nat → Prop) (k n a : Nat) (S L : List (List UInt8)) (W : List WrF) (fu : Bool) (left : Int) (SL : List Value) (w : World) (h : Disk w F k n S L W fu left) (hdl : deadF fu left = true) (ha : a < n) :
    Calls Try.prog 11 #[.pointer (some ⟨k, 0, none⟩), .int .i64 (a : Nat), .agg SL.toArray] w fun e w' => e = .returned (.int .i64 0) ∧ Below w.heap.size w w' := by
  obtain ⟨gs, gl, bm, vw, base, nm, D, hD, hK, hnm, hgone⟩ := h
  have hn2 := hD.n2
  obtain ⟨w1, hw1⟩ : ∃ x, x = w.alloc (.cells SL.toArray 30) := ⟨_, rfl⟩
  have hb1 : Below w.heap.size w w1 := by rw [hw1]; exact (Below.refl _ _).alloc (Nat.le_refl _) _
  have hD1 := hD.kept hb1.size (fun b hF => hb1.block b (hD.Flt b hF))
  have HW1 := Lib.hid hw1
  clear hw1
  go_enter Try.func11, Try.ntmps11
  go_upto_region 1 with fail
  change Code.wp _ _ _ _ (w.alloc (.cells SL.toArray 30))
  rw [← HW1.out]
  clear HW1
  go_wp2_with fail
  refine Calls.mono (has_yes k gs n a w1 hD1.c0 ha hn2) ?_
  rintro e wa ⟨rfl, rfl⟩
  go_wp2_with fail
  refine Calls.mono (spend_dead k fu left wa hD1.c4 hD1.c5 hdl) ?_
  rintro e wb ⟨rfl, rfl⟩
  go_wp2_with fail
  go_ret
  exact ⟨rfl, hb1⟩

/-- After a sync, or a crash: nothing waits. -/
def DonePost (F : Nat → Prop) (k n : Nat) (S L : List (List UInt8)) (fu : Bool) (left : Int) (w : World) (e : Ending) (w' : World) : Prop :=
  e = .returned (.tuple #[]) ∧ Disk w' (newF F w w') k n S L [] fu left ∧ Only F w w'

theorem spent_range {fu : Bool} {left : Int} (hd : deadF fu left = false) (h0 : 0 ≤ left) (h1 : left ≤ 9223372036854775807) : 0 ≤ spentF fu left ∧ spentF fu left ≤ 9223372036854775807 := by
  unfold spentF
  cases fu
  · exact ⟨h0, h1⟩
  · have hne : left ≠ 0 := by simpa [deadF] using hd
    refine ⟨?_, ?_⟩
    · show 0 ≤ left - 1; omega
    · show left - 1 ≤ 9223372036854775807; omega

set_option maxHeartbeats 4000000 in
theorem sync_dead (F : Nat → Prop) (k n : Nat) (S L : List (List UInt8)) (W : List WrF) (fu : Bool) (left : Int) (w : World) (h : Disk w F k n S L W fu left) (hdl : deadF fu left = true) :
    Calls Try.prog 12 #[.pointer (some ⟨k, 0, none⟩)] w fun e w' => e = .returned (.tuple #[]) ∧ w' = w := by
  obtain ⟨gs, gl, bm, vw, base, nm, D, hD, hK, hnm, hgone⟩ := h
  go_enter Try.func12, Try.ntmps12
  go_wp2_with fail
  refine Calls.mono (spend_dead k fu left w hD.c4 hD.c5 hdl) ?_
  rintro e wb ⟨rfl, rfl⟩
  go_wp2_with fail
  go_end0
  exact ⟨rfl, rfl⟩

set_option maxHeartbeats 4000000 in
theorem sync_live (F : Nat → Prop) (k n : Nat) (S L : List (List UInt8)) (W : List WrF) (fu : Bool) (left : Int) (w : World) (h : Disk w F k n S L W fu left) (hdl : deadF fu left = false) :
    Calls Try.prog 12 #[.pointer (some ⟨k, 0, none⟩)] w (DonePost F k n (seenF W S (lstF (fun _ => 64) W L W.length)) (lstF (fun _ => 64) W L W.length) fu (spentF fu left) w) := by
  obtain ⟨gs, gl, bm, vw, base, nm, D, hD, hK, hnm, hgone⟩ := h
  obtain ⟨r0, r1⟩ := spent_range hdl hD.f0 hD.f1
  go_enter Try.func12, Try.ntmps12
  go_wp2_with fail
  refine Calls.mono (spend_live k gs gl bm vw n fu left w hD.hk hD.f0 hD.f1 hdl) ?_
  rintro e w2 ⟨rfl, hk2, hO2, hsz2⟩
  have hD2 : DkW w2 F k gs gl bm vw base nm n S L W D fu (spentF fu left) := hD.turn (by omega) (fun b hF h1 _ _ => hO2.block b (hD.Flt b hF) h1) hk2 (hD.hs.only hO2 (fun e => hD.ks e.symm)) (hD.hl.only hO2 (fun e => hD.kl e.symm)) hD.lS hD.lL hD.s64 hD.l64 r0 r1
  have hO2F : Only F w w2 := hO2.more (fun i _ hi => hi ▸ hD.Fk)
  have hws := hsz2
  go_wp2_with fail
  refine Calls.mono (settle_sync F k n S L W fu (spentF fu left) w2 ⟨gs, gl, bm, vw, base, nm, D, hD2, hK, hnm, hgone⟩) ?_
  rintro e w3 ⟨rfl, hD3, hO3⟩
  go_wp2_with fail
  go_end0
  exact ⟨rfl, hD3.more (fun b h => h.imp id (fun h => ⟨by omega, h.2⟩)) (fun b h => h.elim (fun h => hD3.Flt b (.inl h)) (fun h => h.2)), hO2F.trans hO3⟩

set_option maxHeartbeats 4000000 in
theorem crash_any (F : Nat → Prop) (k n : Nat) (S L : List (List UInt8)) (W : List WrF) (fu : Bool) (left : Int) (w : World) (h : Disk w F k n S L W fu left) (picks : List UInt8) (Ap : Option Addr) (lp cp : Nat) (hA : 0 < picks.length → ∀ p : Addr, Ap = some p → ¬ F p.block) (hbs : Bs w w.heap.size Ap picks) (hpl : picks.length = lp) (hpm : lp ≤ 9223372036854775807) :
    Calls Try.prog 14 #[.pointer (some ⟨k, 0, none⟩), .slice Ap lp cp] w (DonePost F k n (seenF W S (lstF (keptF picks) W L W.length)) (lstF (keptF picks) W L W.length) false left w) := by
  have hFlt := h.Flt
  have hmf : ∀ (fn : Fn) (first cap : Array Value) (w : World), (Instr.makeFunc fn first cap).run Try.prog w = .ok (.func fn first cap) w := fun _ _ _ _ => rfl
  obtain ⟨w1, hw1⟩ : ∃ x, x = w.alloc (.cells #[.slice Ap lp cp] 23) := ⟨_, rfl⟩
  have hb1 : Below w.heap.size w w1 := by rw [hw1]; exact (Below.refl _ _).alloc (Nat.le_refl _) _
  have hg1 : Arr w1 w.heap.size 23 [.slice Ap lp cp] := by rw [hw1]; exact Arr.new w _ _
  have hD1 := h.below hb1
  have hcp : w1.cell? ⟨w.heap.size, 0, none⟩ = some (.slice Ap lp cp) := by rw [hg1.cell]; rfl
  have hbs1 := (hbs.below hb1 (Nat.le_refl _)).more hb1.size
  have hO1 : Only F w w1 := (Only.refl F w).step hb1
  have hset := settle_crash F k n S L W fu left w1 hD1 picks Ap lp cp w.heap.size hg1.lt (fun e => Nat.lt_irrefl _ (hFlt _ e)) hA hcp hbs1 hpl hpm
  have HW1 := Lib.hid hw1
  have hs1 := hb1.size
  clear hw1 h hg1 hD1 hbs hbs1 hcp
  go_enter Try.func14, Try.ntmps14
  go_upto_region 1 with fail
  change Code.wp _ _ _ _ (w.alloc (.cells #[.slice Ap lp cp] 23))
  rw [← HW1.out]
  clear HW1
  go_wp2_with fail
  refine Calls.mono hset ?_
  clear hset
  rintro e w3 ⟨rfl, hD3, hO3⟩
  obtain ⟨gs, gl, bm, vw, base, nm, D, hD, hK, hnm, hgone⟩ := hD3
  have h4 := hD.c4
  have f4 := hD.hk.frozen 4
  have hk4 := hD.hk.set 4 (.bool false)
  have hO4 := (Only.refl (fun b => b = k) w3).setCell (p := ⟨k, 4, none⟩) (.inl rfl) (.bool false)
  have hsz4 : (w3.setCell ⟨k, 4, none⟩ (.bool false)).heap.size = w3.heap.size := by simp [World.setCell]
  have hD4 : DkW (w3.setCell ⟨k, 4, none⟩ (.bool false)) (newF F w1 w3) k gs gl bm vw base nm n (seenF W S (lstF (keptF picks) W L W.length)) (lstF (keptF picks) W L W.length) [] D false left := hD.turn (by omega) (fun b hF h1 _ _ => hO4.block b (hD.Flt b hF) h1) hk4 (hD.hs.only hO4 (fun e => hD.ks e.symm)) (hD.hl.only hO4 (fun e => hD.kl e.symm)) hD.lS hD.lL hD.s64 hD.l64 hD.f0 hD.f1
  have hs3 := hO3.size
  have hfin : DonePost F k n (seenF W S (lstF (keptF picks) W L W.length)) (lstF (keptF picks) W L W.length) false left w (.returned (.tuple #[])) (w3.setCell ⟨k, 4, none⟩ (.bool false)) := ⟨rfl, ⟨gs, gl, bm, vw, base, nm, D, hD4.more (fun b h => h.imp id (fun h => ⟨by omega, by omega⟩)) (fun b h => h.elim (fun h => hD4.Flt b (.inl h)) (fun h => h.2)), hK, hnm, hgone⟩, (hO1.trans hO3).then hO4 (fun i hi => (hD.Fk).elim (fun h => .inl (hi ▸ h)) (fun h => .inr (by rw [hi]; exact Nat.le_trans hs1 h.1)))⟩
  clear hD4 hO4 hk4 hO3 hK hgone hnm
  go_wp2_with fail
  go_end0
  exact hfin

end Go.Proofs.Ytkpgbgiamekhaac

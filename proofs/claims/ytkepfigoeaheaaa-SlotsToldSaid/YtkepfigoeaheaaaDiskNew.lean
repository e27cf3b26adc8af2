/-
  A new disk.
-/
import Derived.Test.YtkepfigoeaheaaaDiskRead
import Derived.Laws.MakeOwn
namespace Go.Proofs.Ytkepfigoeaheaaa
open Go.RowKit
set_option linter.unusedVariables false
set_option linter.unusedSimpArgs false

/-- Each number of a row is below m. -/
def RowIn (d : DataW Unit) (m : Nat) : Prop := ∀ xs ps, d = .slice xs ps → ∀ x ∈ xs, ∃ z : Nat, x = .lit (.int .i64 (z : Int)) ∧ z < m
def RowsIn (D : DataW Unit) (m : Nat) : Prop := ∀ kl, RowIn (D.atKey kl .nil) m
/-- The keys of the map are the sectors of the writes, its rows tell of writes. -/
def Keys (D : DataW Unit) (W : List WrF) : Prop := (∀ kl, Maps.has D kl = true → ∃ a : Nat, kl = .int .i64 (a : Nat) ∧ ∃ x ∈ W, x.1 = a) ∧ (∀ x ∈ W, Maps.has D (.int .i64 (x.1 : Nat)) = true) ∧ RowsIn D W.length

/-- A disk of n sectors at block k. -/
def Disk (w : World) (F : Nat → Prop) (k n : Nat) (S L : List (List UInt8)) (W : List WrF) (fu : Bool) (left : Int) : Prop :=
  ∃ gs gl bm vw base nm D, DkW w F k gs gl bm vw base nm n S L W D fu left ∧ Keys D W ∧ nm ≤ W.length ∧ ∀ x ∈ W, x.2.2 = false

def newF (F : Nat → Prop) (w w' : World) : Nat → Prop := fun b => F b ∨ (w.heap.size ≤ b ∧ b < w'.heap.size)

theorem alloc_size (w : World) (o : Obj) : (w.alloc o).heap.size = w.heap.size + 1 := by simp

set_option maxHeartbeats 4000000 in
theorem forget_any (k : Nat) (s l vw wm fu left : Value) (w : World) (hk : Arr w k 98 [s, l, vw, wm, fu, left]) :
    Calls Try.prog 61 #[.pointer (some ⟨k, 0, none⟩)] w fun e w' => e = .returned (.tuple #[]) ∧ Arr w' k 98 [s, l, .slice none 0 0, .map (some w.heap.size), fu, left] ∧ w'.heap[w.heap.size]? = some (.map #[] 0) ∧ Only (fun b => b = k) w w' ∧ w'.heap.size = w.heap.size + 1 := by
  have hlt := hk.lt
  have hmm := @run_makeMap Try.prog
  have hA := (hk.set 2 (.slice none 0 0)).alloc (.map #[] 0)
  have h2 : w.cell? ⟨k, 2, none⟩ = some vw := by rw [hk.cell]; rfl
  have f2 := hk.frozen 2
  have h3 : ((w.setCell ⟨k, 2, none⟩ (.slice none 0 0)).alloc (.map #[] 0)).cell? ⟨k, 3, none⟩ = some wm := by rw [hA.cell]; rfl
  have f3 := hA.frozen 3
  have h3b : (w.setCell ⟨k, 2, none⟩ (.slice none 0 0)).cell? ⟨k, 3, none⟩ = some wm := by rw [(hk.set 2 (.slice none 0 0)).cell]; rfl
  have f3b := (hk.set 2 (.slice none 0 0)).frozen 3
  have hfin := ((hk.set 2 (.slice none 0 0)).set 3 (.map (some w.heap.size))).alloc (.map #[] 0)
  have hO := (((Only.refl (fun b => b = k) w).setCell (p := ⟨k, 2, none⟩) (.inl rfl) (.slice none 0 0)).setCell (p := ⟨k, 3, none⟩) (.inl rfl) (.map (some w.heap.size))).alloc (.map #[] 0)
  have hsz : ((w.setCell ⟨k, 2, none⟩ (.slice none 0 0)).setCell ⟨k, 3, none⟩ (.map (some w.heap.size))).heap.size = w.heap.size := by simp [World.setCell]
  have hmap := heap_alloc_new ((w.setCell ⟨k, 2, none⟩ (.slice none 0 0)).setCell ⟨k, 3, none⟩ (.map (some w.heap.size))) (.map #[] 0)
  rw [hsz] at hmap
  have Hfin := Lib.hid hfin
  have HO := Lib.hid hO
  have Hmap := Lib.hid hmap
  have Hsz := Lib.hid hsz
  clear hfin hO hmap hA hk hsz
  go_enter Try.func61, Try.ntmps61
  go_wp2
  go_end0
  exact ⟨rfl, Hfin.out, Hmap.out, HO.out, by rw [alloc_size, Hsz.out]⟩

theorem secsInfo : (Try.prog.info? 49).map (fun i => (i.zero, i.size, i.bytes)) = some (some (.agg (Lib.byteCells zero64).toArray), 64, 64) := by kernel_rfl

theorem secC_zero (n : Nat) : secC (List.replicate n zero64) = List.replicate (n * 64) (.int .u8 0) := by
  induction n with
  | zero => rfl
  | succ n ih =>
    rw [List.replicate_succ, secC_cons, ih, show (n + 1) * 64 = 64 + n * 64 by omega, ← List.replicate_append_replicate]
    rfl

theorem made_rep (v : Value) (m N : Nat) (hm : 0 < m) : madeCells (List.replicate m v).toArray N = (List.replicate N v).toArray := by
  apply Array.ext
  · rw [size_madeCells]; simp
  · intro k h1 h2
    have hk : k % m < m := Nat.mod_lt _ hm
    simp [madeCells, List.getElem?_replicate, hk]

theorem run_make_secs (n : Nat) (hn : n ≤ 65536) (w : World) :
    (Instr.makeSlice 53 (.int .i64 (n : Nat)) (.int .i64 (n : Nat))).run Try.prog w = .ok (.slice (some ⟨w.heap.size, 0, none⟩) n n) (w.alloc (.cells (secC (List.replicate n zero64)).toArray 49)) := by
  obtain ⟨i0, hi, hz0, hz1, hz2⟩ := info_parts secsInfo
  have h := run_make (P := Try.prog) w 53 49 i0 (.agg (Lib.byteCells zero64).toArray) Try.underlying53 hi hz0 .i64 .i64 (n : Nat) (n : Nat) (by omega) (by omega) (by rw [hz2]; omega) (by omega)
  rw [h, hz1, Int.toNat_natCast]
  have e : madeCells (Value.agg (Lib.byteCells zero64).toArray).cells (n * 64) = (secC (List.replicate n zero64)).toArray := by
    rw [secC_zero]
    exact made_rep (.int .u8 0) 64 (n * 64) (by omega)
  rw [e]

theorem wp_make_sec {o : Oper} {a : Act} {w : World} {K : Act → World → Prop} {Q : Exit → Act → World → Prop} (dd : Option Tmp) (hdd : o.dst = dd) (x y : Operand) (ho : o.op = .makeSlice 53 x y) (n : Nat) (hx : a.eval x = .int .i64 (n : Nat)) (hy : a.eval y = .int .i64 (n : Nat)) (hn : n ≤ 65536)
    (h : K (a.put dd (.slice (some ⟨w.heap.size, 0, none⟩) n n)) (w.alloc (.cells (secC (List.replicate n zero64)).toArray 49))) : Oper.wp Try.prog o a w K Q := by
  subst hdd
  unfold Oper.wp execOp
  simp only [ho, hx, hy, Sem.run_bind, run_make_secs n hn w, Result.andThen_ok]
  exact h

def NewPost (n : Nat) (w : World) (e : Ending) (w' : World) : Prop :=
  ∃ k, e = .returned (.tuple #[.pointer (some ⟨k, 0, none⟩), .int .i64 0]) ∧ Disk w' (newF (fun _ => False) w w') k n (List.replicate n zero64) (List.replicate n zero64) [] false 0 ∧ Below w.heap.size w w'

theorem new_post (n : Nat) (w w8 w9 : World) (k gs gl : Nat) (Z : List Value) (hZ : Z = secC (List.replicate n zero64)) (h1 : 1 ≤ n) (h2 : n ≤ 65536) (hB : Below w.heap.size w w8) (hO : Only (fun b => b = k) w8 w9) (hz : w9.heap.size = w8.heap.size + 1)
    (hk : Arr w9 k 98 [.slice (some ⟨gs, 0, none⟩) n n, .slice (some ⟨gl, 0, none⟩) n n, .slice none 0 0, .map (some w8.heap.size), .bool false, .int .i64 0]) (hm : w9.heap[w8.heap.size]? = some (.map #[] 0))
    (hs : Arr w8 gs 49 Z) (hl : Arr w8 gl 49 Z) (lk : w.heap.size ≤ k) (ls : w.heap.size ≤ gs) (ll : w.heap.size ≤ gl) (ks : k ≠ gs) (kl : k ≠ gl) (sl : gs ≠ gl) :
    NewPost n w (.returned (.tuple #[.pointer (some ⟨k, 0, none⟩), .int .i64 0])) w9 := by
  have hws := hB.size
  have hsl := hs.lt
  have hll := hl.lt
  have hkl : k < w9.heap.size := hk.lt
  have hbm : k ≠ w8.heap.size := fun e => by rw [e] at hk; unfold Arr at hk; rw [hm] at hk; cases hk
  have hmade : w9.ownsGroups (H := Unit) Try.prog 3 (w8.heap.size + 1) 3 .i64 w8.heap.size 0 (.map []) :=
    ⟨#[], 0, hm, ⟨by simp, Go.MapKept.stamped_empty 0, by simp⟩, Nat.le_refl _, rfl, Nat.lt_succ_self _, by simp, by simp⟩
  refine ⟨k, rfl, ⟨gs, gl, w8.heap.size, .slice none 0 0, w8.heap.size + 1, 0, .map [], ⟨hk, ?_, ?_, World.ownsRow_nil _ _ _ _, hmade, ?_, h1, h2, by simp, by simp, ?_, ?_, by simp, by simp, by simp, by omega, by omega, by omega, ?_, ?_, ?_, ?_, ?_, ?_, ?_, ks, kl, hbm, sl, by omega, by omega, by simp [Value.ownBlock], by simp [Value.ownBlock], by simp [Value.ownBlock], by simp [Value.ownBlock]⟩, ⟨fun kl h => ?_, by simp, fun kl xs ps e => (by cases (show (.nil : DataW Unit) = .slice xs ps from e))⟩, by simp, by simp⟩, hB.trans (hO.below hws (by rintro i rfl; exact lk))⟩
  · rw [← hZ]; exact hs.only hO (fun e => ks e.symm)
  · rw [← hZ]; exact hl.only hO (fun e => kl e.symm)
  · intro es clock he x hx
    rw [hm] at he
    cases he
    simp at hx
  · intro s hs; rw [(List.mem_replicate.1 hs).2]; rfl
  · intro s hs; rw [(List.mem_replicate.1 hs).2]; rfl
  · exact .inr ⟨lk, hkl⟩
  · exact .inr ⟨ls, by omega⟩
  · exact .inr ⟨ll, by omega⟩
  · exact .inr ⟨by omega, by omega⟩
  · intro j hj; simp [Value.ownBlock] at hj
  · intro es clock he x hx
    rw [hm] at he
    cases he
    simp at hx
  · rintro b (h | h)
    · exact h.elim
    · exact h.2
  · simp [Maps.has_eq] at h

set_option maxHeartbeats 8000000 in
set_option maxRecDepth 100000 in
theorem new_yes (n : Nat) (w : World) (hn1 : 1 ≤ n) (hn2 : n ≤ 65536) :
    Calls Try.prog 20 #[.int .i64 (n : Nat)] w (NewPost n w) := by
  have hd1 : decide ((n : Int) < 1) = false := by simp; omega
  have hd2 : decide ((65536 : Int) < (n : Int)) = false := by simp; omega
  obtain ⟨Z, hZ⟩ : ∃ Z, Z = secC (List.replicate n zero64) := ⟨_, rfl⟩
  have HZ := Lib.hid hZ
  clear hZ
  go_enter Try.func20, Try.ntmps20
  go_wp2_with fail
  have hB0 : Below w.heap.size w w.drew := below_drewD _ _
  refine wp_region_held_drew (S := fun _ => True) (by kernel_rfl) trivial (fun hHeld => ?_)
  obtain ⟨wd, hwd⟩ : ∃ x, x = w.drew := ⟨_, rfl⟩
  rw [← hwd] at hB0 ⊢
  try rw [← hwd] at hHeld
  clear hwd
  refine dskH_take (i := 0) (v := .int .i64 (n : Nat)) (some 11) rfl rfl (by kernel_rfl) (by kernel_rfl) (by kernel_rfl) (fun _ _ _ h => h) (Or.inl ⟨by rfl, fun _ hw => by rfl⟩) (by assumption) ?_
  simp only [Act.put, List.setIfInBounds_toArray, List.set_cons_zero, List.set_cons_succ]
  refine dskH_take (i := 2) (v := .int .i64 (n : Nat)) (some 13) rfl rfl (by kernel_rfl) (by kernel_rfl) (by kernel_rfl) (fun _ _ _ h => h) (Or.inl ⟨by rfl, fun _ hw => by rfl⟩) (by assumption) ?_
  simp only [Act.put, List.setIfInBounds_toArray, List.set_cons_zero, List.set_cons_succ]
  refine wpAnyH_ready (rs := [1, 3]) (by kernel_rfl) (by simp) ?_
  refine AllReadyH.cons rfl (fun KC hKC => ?_) (AllReadyH.cons rfl (fun KC hKC => ?_) AllReadyH.nil)
  · rw [if_pos (by rfl)]
    refine wp_make_sec (some 12) rfl _ _ rfl n rfl rfl hn2 ?_
    simp only [Act.put, List.setIfInBounds_toArray, List.set_cons_zero, List.set_cons_succ]
    refine hKC.out _ _ trivial (fun hHeld21 => ?_)
    clear hKC KC
    try simp only [Act.put, List.setIfInBounds_toArray, List.set_cons_zero, List.set_cons_succ]
    rw [← HZ.out]
    obtain ⟨g21, hg21⟩ : ∃ x, x = wd.heap.size := ⟨_, rfl⟩
    have N21 := Arr.new wd 49 Z
    have hb21 : Below wd.heap.size wd (wd.alloc (.cells Z.toArray 49)) := (Below.refl _ _).alloc (Nat.le_refl _) _
    have hlo21 : w.heap.size ≤ g21 := by have := hB0.size; omega
    obtain ⟨w21, hw21⟩ : ∃ x, x = wd.alloc (.cells Z.toArray 49) := ⟨_, rfl⟩
    rw [← hw21] at hb21 N21 ⊢
    rw [← hg21] at N21 ⊢
    have hB21 := hB0.trans (hb21.mono hB0.size)
    clear hw21 hg21
    refine wpAnyH_ready (rs := [3]) (by kernel_rfl) (by simp) ?_
    refine AllReadyH.cons rfl (fun KC hKC => ?_) AllReadyH.nil
    rw [if_pos (by rfl)]
    refine wp_make_sec (some 14) rfl _ _ rfl n rfl rfl hn2 ?_
    simp only [Act.put, List.setIfInBounds_toArray, List.set_cons_zero, List.set_cons_succ]
    refine hKC.out _ _ trivial (fun hHeld22 => ?_)
    clear hKC KC
    try simp only [Act.put, List.setIfInBounds_toArray, List.set_cons_zero, List.set_cons_succ]
    rw [← HZ.out]
    obtain ⟨g22, hg22⟩ : ∃ x, x = w21.heap.size := ⟨_, rfl⟩
    have N22 := Arr.new w21 49 Z
    have hb22 : Below w21.heap.size w21 (w21.alloc (.cells Z.toArray 49)) := (Below.refl _ _).alloc (Nat.le_refl _) _
    have hlo22 : w.heap.size ≤ g22 := by have := hB21.size; omega
    have hd22 : g21 ≠ g22 := by have hlt := Arr.lt N21; omega
    obtain ⟨w22, hw22⟩ : ∃ x, x = w21.alloc (.cells Z.toArray 49) := ⟨_, rfl⟩
    rw [← hw22] at hb22 N22 ⊢
    rw [← hg22] at N22 ⊢
    have hB22 := hB21.trans (hb22.mono hB21.size)
    have M22 := Arr.upD N21 hb22
    clear hw22 hg22
    refine dskH_take (i := 4) (v := .agg #[.slice (some ⟨g21, 0, none⟩) n n, .slice (some ⟨g22, 0, none⟩) n n, .slice none 0 0, .map none, .bool false, .int .i64 0]) (some 15) rfl rfl (by kernel_rfl) (by kernel_rfl) (by kernel_rfl) (fun _ _ _ h => h) (Or.inl ⟨by rfl, fun _ hw => by go_simp⟩) (by assumption) ?_
    simp only [Act.put, List.setIfInBounds_toArray, List.set_cons_zero, List.set_cons_succ]
    refine wpAnyH_ready (rs := [5]) (by kernel_rfl) (by simp) ?_
    refine AllReadyH.cons rfl (fun KC hKC => ?_) AllReadyH.nil
    go_simp
    refine hKC.out _ _ trivial (fun hHeld23 => ?_)
    clear hKC KC
    try simp only [Act.put, List.setIfInBounds_toArray, List.set_cons_zero, List.set_cons_succ]
    change wpAnyH _ _ _ _ _ _ _ _ (w22.alloc (.cells #[.slice (some ⟨g21, 0, none⟩) n n, .slice (some ⟨g22, 0, none⟩) n n, .slice none 0 0, .map none, .bool false, .int .i64 0] 98))
    obtain ⟨g23, hg23⟩ : ∃ x, x = w22.heap.size := ⟨_, rfl⟩
    have N23 := Arr.new w22 98 [.slice (some ⟨g21, 0, none⟩) n n, .slice (some ⟨g22, 0, none⟩) n n, .slice none 0 0, .map none, .bool false, .int .i64 0]
    have hb23 : Below w22.heap.size w22 (w22.alloc (.cells #[.slice (some ⟨g21, 0, none⟩) n n, .slice (some ⟨g22, 0, none⟩) n n, .slice none 0 0, .map none, .bool false, .int .i64 0] 98)) := (Below.refl _ _).alloc (Nat.le_refl _) _
    have hlo23 : w.heap.size ≤ g23 := by have := hB22.size; omega
    have hks : g23 ≠ g21 := by have hlt := Arr.lt M22; omega
    have hkl : g23 ≠ g22 := by have hlt := Arr.lt N22; omega
    have Ms := Arr.upD M22 hb23
    have Ml := Arr.upD N22 hb23
    have hB23 := hB22.trans (hb23.mono hB22.size)
    obtain ⟨w23, hw23⟩ : ∃ x, x = w22.alloc (.cells #[.slice (some ⟨g21, 0, none⟩) n n, .slice (some ⟨g22, 0, none⟩) n n, .slice none 0 0, .map none, .bool false, .int .i64 0] 98) := ⟨_, rfl⟩
    rw [← hw23] at hb23 N23 Ms Ml hB23 ⊢
    rw [← hg23] at N23 ⊢
    clear hw23 hg23
    refine dskH_take (i := 6) (v := .pointer (some ⟨g23, 0, none⟩)) (some 4) rfl rfl (by kernel_rfl) (by kernel_rfl) (by kernel_rfl) (fun _ _ _ h => h) (Or.inl ⟨by rfl, fun _ hw => by rfl⟩) (by assumption) ?_
    simp only [Act.put, List.setIfInBounds_toArray, List.set_cons_zero, List.set_cons_succ]
    refine wpAnyH_done (by kernel_rfl) ?_ _
    clear hHeld
    go_wp2_with fail
    refine Calls.mono (forget_any g23 _ _ _ _ _ _ w23 N23) ?_
    rintro e w9 ⟨rfl, hk9, hm9, hO9, hz9⟩
    go_wp2_with fail
    go_ret2
    have hsl : g21 ≠ g22 := by first | exact hd22 | exact fun h => hd22 h.symm
    exact new_post n w w23 w9 g23 g21 g22 Z HZ.out hn1 hn2 hB23 hO9 hz9 hk9 hm9 Ms Ml hlo23 hlo21 hlo22 hks hkl hsl
  · rw [if_pos (by rfl)]
    refine wp_make_sec (some 14) rfl _ _ rfl n rfl rfl hn2 ?_
    simp only [Act.put, List.setIfInBounds_toArray, List.set_cons_zero, List.set_cons_succ]
    refine hKC.out _ _ trivial (fun hHeld24 => ?_)
    clear hKC KC
    try simp only [Act.put, List.setIfInBounds_toArray, List.set_cons_zero, List.set_cons_succ]
    rw [← HZ.out]
    obtain ⟨g24, hg24⟩ : ∃ x, x = wd.heap.size := ⟨_, rfl⟩
    have N24 := Arr.new wd 49 Z
    have hb24 : Below wd.heap.size wd (wd.alloc (.cells Z.toArray 49)) := (Below.refl _ _).alloc (Nat.le_refl _) _
    have hlo24 : w.heap.size ≤ g24 := by have := hB0.size; omega
    obtain ⟨w24, hw24⟩ : ∃ x, x = wd.alloc (.cells Z.toArray 49) := ⟨_, rfl⟩
    rw [← hw24] at hb24 N24 ⊢
    rw [← hg24] at N24 ⊢
    have hB24 := hB0.trans (hb24.mono hB0.size)
    clear hw24 hg24
    refine wpAnyH_ready (rs := [1]) (by kernel_rfl) (by simp) ?_
    refine AllReadyH.cons rfl (fun KC hKC => ?_) AllReadyH.nil
    rw [if_pos (by rfl)]
    refine wp_make_sec (some 12) rfl _ _ rfl n rfl rfl hn2 ?_
    simp only [Act.put, List.setIfInBounds_toArray, List.set_cons_zero, List.set_cons_succ]
    refine hKC.out _ _ trivial (fun hHeld25 => ?_)
    clear hKC KC
    try simp only [Act.put, List.setIfInBounds_toArray, List.set_cons_zero, List.set_cons_succ]
    rw [← HZ.out]
    obtain ⟨g25, hg25⟩ : ∃ x, x = w24.heap.size := ⟨_, rfl⟩
    have N25 := Arr.new w24 49 Z
    have hb25 : Below w24.heap.size w24 (w24.alloc (.cells Z.toArray 49)) := (Below.refl _ _).alloc (Nat.le_refl _) _
    have hlo25 : w.heap.size ≤ g25 := by have := hB24.size; omega
    have hd25 : g24 ≠ g25 := by have hlt := Arr.lt N24; omega
    obtain ⟨w25, hw25⟩ : ∃ x, x = w24.alloc (.cells Z.toArray 49) := ⟨_, rfl⟩
    rw [← hw25] at hb25 N25 ⊢
    rw [← hg25] at N25 ⊢
    have hB25 := hB24.trans (hb25.mono hB24.size)
    have M25 := Arr.upD N24 hb25
    clear hw25 hg25
    refine dskH_take (i := 4) (v := .agg #[.slice (some ⟨g25, 0, none⟩) n n, .slice (some ⟨g24, 0, none⟩) n n, .slice none 0 0, .map none, .bool false, .int .i64 0]) (some 15) rfl rfl (by kernel_rfl) (by kernel_rfl) (by kernel_rfl) (fun _ _ _ h => h) (Or.inl ⟨by rfl, fun _ hw => by go_simp⟩) (by assumption) ?_
    simp only [Act.put, List.setIfInBounds_toArray, List.set_cons_zero, List.set_cons_succ]
    refine wpAnyH_ready (rs := [5]) (by kernel_rfl) (by simp) ?_
    refine AllReadyH.cons rfl (fun KC hKC => ?_) AllReadyH.nil
    go_simp
    refine hKC.out _ _ trivial (fun hHeld26 => ?_)
    clear hKC KC
    try simp only [Act.put, List.setIfInBounds_toArray, List.set_cons_zero, List.set_cons_succ]
    change wpAnyH _ _ _ _ _ _ _ _ (w25.alloc (.cells #[.slice (some ⟨g25, 0, none⟩) n n, .slice (some ⟨g24, 0, none⟩) n n, .slice none 0 0, .map none, .bool false, .int .i64 0] 98))
    obtain ⟨g26, hg26⟩ : ∃ x, x = w25.heap.size := ⟨_, rfl⟩
    have N26 := Arr.new w25 98 [.slice (some ⟨g25, 0, none⟩) n n, .slice (some ⟨g24, 0, none⟩) n n, .slice none 0 0, .map none, .bool false, .int .i64 0]
    have hb26 : Below w25.heap.size w25 (w25.alloc (.cells #[.slice (some ⟨g25, 0, none⟩) n n, .slice (some ⟨g24, 0, none⟩) n n, .slice none 0 0, .map none, .bool false, .int .i64 0] 98)) := (Below.refl _ _).alloc (Nat.le_refl _) _
    have hlo26 : w.heap.size ≤ g26 := by have := hB25.size; omega
    have hks : g26 ≠ g25 := by have hlt := Arr.lt N25; omega
    have hkl : g26 ≠ g24 := by have hlt := Arr.lt M25; omega
    have Ms := Arr.upD N25 hb26
    have Ml := Arr.upD M25 hb26
    have hB26 := hB25.trans (hb26.mono hB25.size)
    obtain ⟨w26, hw26⟩ : ∃ x, x = w25.alloc (.cells #[.slice (some ⟨g25, 0, none⟩) n n, .slice (some ⟨g24, 0, none⟩) n n, .slice none 0 0, .map none, .bool false, .int .i64 0] 98) := ⟨_, rfl⟩
    rw [← hw26] at hb26 N26 Ms Ml hB26 ⊢
    rw [← hg26] at N26 ⊢
    clear hw26 hg26
    refine dskH_take (i := 6) (v := .pointer (some ⟨g26, 0, none⟩)) (some 4) rfl rfl (by kernel_rfl) (by kernel_rfl) (by kernel_rfl) (fun _ _ _ h => h) (Or.inl ⟨by rfl, fun _ hw => by rfl⟩) (by assumption) ?_
    simp only [Act.put, List.setIfInBounds_toArray, List.set_cons_zero, List.set_cons_succ]
    refine wpAnyH_done (by kernel_rfl) ?_ _
    clear hHeld
    go_wp2_with fail
    refine Calls.mono (forget_any g26 _ _ _ _ _ _ w26 N26) ?_
    rintro e w9 ⟨rfl, hk9, hm9, hO9, hz9⟩
    go_wp2_with fail
    go_ret2
    have hsl : g25 ≠ g24 := by first | exact hd25 | exact fun h => hd25 h.symm
    exact new_post n w w26 w9 g26 g25 g24 Z HZ.out hn1 hn2 hB26 hO9 hz9 hk9 hm9 Ms Ml hlo26 hlo25 hlo24 hks hkl hsl

end Go.Proofs.Ytkepfigoeaheaaa

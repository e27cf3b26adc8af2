/-
  VolumeCopies' walk.
-/
import Derived.Test.YtmfamhdjkladoaaVolSpeaks
import Derived.Test.YtmfamhdjkladoaaVolCallW
import Derived.Test.YtmfamhdjkladoaaVolAll
import Derived.Test.YtmfamhdjkladoaaVolumeErrorsWalk
namespace Go.Proofs.Ytmfamhdjkladoaa
open Go.RowKit
set_option linter.unusedVariables false
set_option linter.unusedSimpArgs false

theorem VSl.nil_ (w : World) (G : Nat → Prop) : VSl w G none 0 0 [] := ⟨[], rfl, rfl, Nat.le_refl _, by unfold maxLen; omega, ⟨fun h => absurd h (by decide), fun x hx => by cases hx⟩, .inl ⟨rfl, rfl⟩⟩
theorem VsAt.nil_ (w : World) (G : Nat → Prop) (A : Option Addr) : VsAt w G A [] := ⟨fun h => absurd h (by decide), fun x hx => by cases hx⟩
theorem opL_len {L : List Vol} (h : RiseV L) (x : Cl12) : (opL L x).1.length ≤ L.length + 1 := by
  unfold opL
  split
  · exact (putL_ok h (L' := _) (o := _) (b := _) (k := _) rfl).len
  · split
    · exact (dropL_ok h (L' := _) (o := _) (b := _) (k := _) rfl).len
    · split
      · exact (createL_ok h (L' := _) (k := _) rfl).len
      · split
        · exact (copyL_ok h (L' := _) (k := _) rfl).len
        · exact (deleteL_ok h (L' := _) (k := _) rfl).len
/-- The set and the document's volumes, beside one another. -/
def Pair12 (w : World) (B s : Nat) (A : Option Addr) (n c : Nat) (L : List Vol) : Prop :=
  ∃ (F G : Nat → Prop), SetL w F s L ∧ VSl w G A n c L ∧ (∀ b, G b → ¬ F b) ∧ (∀ b, G b → b < w.heap.size) ∧ (∀ b, F b → B ≤ b) ∧ (∀ b, G b → B ≤ b)
theorem Pair12.below {w w' : World} {B s : Nat} {A : Option Addr} {n c : Nat} {L : List Vol} (h : Pair12 w B s A n c L) (hb : Below w.heap.size w w') : Pair12 w' B s A n c L := by
  obtain ⟨F, G, h1, h2, h3, h4, h5, h6⟩ := h
  exact ⟨F, G, h1.below hb, h2.below hb, h3, fun b hb' => Nat.lt_of_lt_of_le (h4 b hb') hb.size, h5, h6⟩
theorem Pair12.call {w : World} {B s : Nat} {A : Option Addr} {n c : Nat} {L : List Vol} (h : Pair12 w B s A n c L) (hB : B ≤ w.heap.size) (x : Cl12) (hx : C12Ok x) (VL : List Value) (hVL : VL = c12C x) (hl : L.length ≤ 100000) :
    Calls Try.prog 16 #[.pointer (some ⟨s, 0, none⟩), .slice A n c, .agg VL.toArray] w fun e w' => ∃ (A' : Option Addr) (n' c' : Nat), e = .returned (.tuple #[.slice A' n' c', .bool true]) ∧ Pair12 w' B s A' n' c' (opL L x).1 ∧ RiseV L ∧ Below B w w' := by
  obtain ⟨F, G, h1, h2, h3, h4, h5, h6⟩ := h
  refine (call12_any s A n c x hx VL hVL w F G L L h1 h2 h3 h4 hl hl h1.rise h1.ok).mono ?_
  rintro e w' ⟨A', n', c', r, F', G', rfl, q1, q2, q3, q4, q5, q6, q7, q8⟩
  rw [q7 rfl]
  exact ⟨A', n', c', rfl, ⟨F', G', q1, q2, q3, q6, fun b hb => (q4 b hb).elim (h5 b) fun h => by omega, fun b hb => (q5 b hb).elim (h6 b) fun h => by omega⟩, h1.rise, q8.below hB h5⟩

theorem same12_below (A B : Option Addr) (n c m d : Nat) (xs ys : List Vx) (w : World) (G H : Nat → Prop) (h : VsAt w G A xs) (g : VsAt w H B ys) (hn : xs.length = n) (hm : ys.length = m) (hc : n ≤ c) (hcm : c ≤ maxLen) (hd : m ≤ d) (hdm : d ≤ maxLen) (r : Bool) (hr : r = true ↔ xs.map (·.v) = ys.map (·.v)) :
    Calls Try.prog 10 #[.slice A n c, .slice B m d] w fun e w' => e = .returned (.bool r) ∧ Below w.heap.size w w' := by
  refine (same12_any A B n c m d xs ys w G H h g hn hm hc hcm hd hdm r hr).mono ?_
  rintro e w' ⟨rfl, k, rfl⟩
  exact ⟨rfl, Below.dN (Below.refl _ _) k⟩
def ownN : ByteArray := ⟨#[105, 116, 115, 45, 111, 119, 110, 45, 99, 111, 112, 121]⟩
theorem copy_found {L L' : List Vol} (hr : RiseV L') {nm own : ByteArray} {q : Int} {fr : Bool} (hk : copyL L nm own q fr = (L', 0)) :
    ∃ (i j : Nat) (u c : Vol), findI L' nm = (i : Nat) ∧ L'[i]? = some u ∧ findV L' nm = some u ∧ findI L' own = (j : Nat) ∧ L'[j]? = some c ∧ c.name = own ∧ c.frozen = fr ∧ c.cells = u.cells ∧ own ≠ nm := by
  unfold copyL at hk
  by_cases h0 : (namedB own.data.toList && quotaB q) = false
  · rw [if_pos h0] at hk; simp at hk
  rw [if_neg h0] at hk
  cases hf : findV L nm with
  | none => rw [hf] at hk; simp at hk
  | some v =>
    rw [hf] at hk
    dsimp only at hk
    by_cases hh : hasV L own = true
    · rw [if_pos hh] at hk; simp at hk
    rw [if_neg hh] at hk
    by_cases hq : q < v.cells.length
    · rw [if_pos hq] at hk; simp at hk
    rw [if_neg hq] at hk
    simp only [Prod.mk.injEq, and_true] at hk
    obtain ⟨hvm, hvn⟩ := findV_mem hf
    have hno := hasV_no (by simpa using hh)
    have hne : own ≠ nm := fun e => hno v hvm (by rw [hvn, e])
    have hv' : v ∈ L' := by rw [← hk]; exact insV_mem.2 (.inr hvm)
    have hc' : (⟨own, q.toNat, fr, v.cells⟩ : Vol) ∈ L' := by rw [← hk]; exact insV_mem.2 (.inl rfl)
    have hin : ∀ x ∈ L', ∃ y, findV L' x.name = some y := fun x hx => by
      cases h : findV L' x.name with
      | some y => exact ⟨y, rfl⟩
      | none =>
        unfold findV at h
        rw [List.find?_eq_none] at h
        exact absurd (h x hx) (by simp [vkey])
    obtain ⟨y1, hy1⟩ := hin _ hv'
    obtain ⟨y2, hy2⟩ := hin _ hc'
    have e1 : y1 = v := vkey_apart hr (findV_mem hy1).1 hv' (findV_mem hy1).2
    have e2 := vkey_apart hr (findV_mem hy2).1 hc' (findV_mem hy2).2
    rw [e1, hvn] at hy1
    rw [e2] at hy2
    obtain ⟨i, hi, hi'⟩ := findI_at hy1
    obtain ⟨j, hj, hj'⟩ := findI_at hy2
    exact ⟨i, j, v, _, hi, hi', hy1, hj, hj', rfl, rfl, rfl, hne⟩
theorem put_other {L L' : List Vol} {nm : ByteArray} {n : Int} {f o : List UInt8} {b : Bool} {k : Int} (hk : putL L nm n f = (L', o, b, k)) {j : Nat} {c : Vol} (hj : L[j]? = some c) (hne : c.name ≠ nm) : L'[j]? = some c := by
  have hs : ∀ cs, (setV L nm cs)[j]? = some c := fun cs => by
    unfold setV
    rw [List.getElem?_map, hj, Option.map_some, if_neg (show ¬ vkey c = nm.data.toList from fun e => hne (ba_ext e))]
  unfold putL at hk
  cases hf : findV L nm with
  | none => rw [hf] at hk; simp only [Prod.mk.injEq] at hk; rw [← hk.1]; exact hj
  | some v =>
    rw [hf] at hk
    dsimp only at hk
    split at hk
    · split at hk
      · simp only [Prod.mk.injEq] at hk; rw [← hk.1]; exact hj
      · split at hk
        · simp only [Prod.mk.injEq] at hk; rw [← hk.1]; exact hj
        · simp only [Prod.mk.injEq] at hk; rw [← hk.1]; exact hs _
    · simp only [Prod.mk.injEq] at hk; rw [← hk.1]; exact hj
theorem del_put {cs : List Cl} {n : Nat} {f : List UInt8} (h : hasC cs n = false) : delC (putC cs n f) n = cs := by
  unfold putC
  rw [delC_none h]
  have h' : ∀ c ∈ cs, c.1 ≠ n := fun c hc e => by
    unfold hasC at h
    rw [List.any_eq_false] at h
    exact h c hc (by simp [e])
  clear h
  induction cs with
  | nil => simp [insC, delC]
  | cons y r ih =>
    unfold insC
    have hy := h' y (List.mem_cons_self ..)
    have hr : delC r n = r := by
      unfold delC
      rw [List.filter_eq_self]
      exact fun c hc => by simpa using h' c (List.mem_cons_of_mem _ hc)
    split
    · unfold delC at *
      rw [List.filter_cons_of_neg (by simp), List.filter_cons_of_pos (by simpa using hy), hr]
    · have := ih fun c hc => h' c (List.mem_cons_of_mem _ hc)
      unfold delC at *
      rw [List.filter_cons_of_pos (by simpa using hy), this]
theorem put_drop {L L' : List Vol} (hr : RiseV L) {nm : ByteArray} {n : Int} {f o : List UInt8} (hk : putL L nm n f = (L', o, false, 0)) : (dropL L' nm n).1 = L := by
  unfold putL at hk
  cases hf : findV L nm with
  | none => rw [hf] at hk; simp at hk
  | some v =>
    rw [hf] at hk
    dsimp only at hk
    by_cases hn : numB n = true
    · rw [if_pos hn] at hk
      by_cases hfr : v.frozen = true
      · rw [if_pos hfr] at hk; simp at hk
      rw [if_neg hfr] at hk
      split at hk
      · simp at hk
      simp only [Prod.mk.injEq, and_true] at hk
      obtain ⟨hL', _, hh⟩ := hk
      obtain ⟨hvm, hvn⟩ := findV_mem hf
      obtain ⟨i, _, hi⟩ := findI_at hf
      have hset : ∀ cs, setV L nm cs = L.set i { v with cells := cs } := setV_at hr hi hvn
      have hn0 : ((n.toNat : Nat) : Int) = n := by
        unfold numB at hn
        simp at hn
        omega
      have hf' : findV L' nm = some { v with cells := putC v.cells n.toNat f } := by
        rw [← hL']
        unfold findV setV
        unfold findV at hf
        rw [List.find?_map]
        have e : ((fun x : Vol => decide (vkey x = nm.data.toList)) ∘ fun x : Vol => if vkey x = nm.data.toList then { x with cells := putC v.cells n.toNat f } else x) = fun x : Vol => decide (vkey x = nm.data.toList) := by
          funext x
          show decide (vkey (if vkey x = nm.data.toList then _ else x) = nm.data.toList) = _
          by_cases h : vkey x = nm.data.toList
          · rw [if_pos h]; simp [vkey] at h ⊢
          · rw [if_neg h]
        rw [e, hf, Option.map_some, if_pos (by rw [vkey, hvn])]
      unfold dropL
      rw [hf']
      dsimp only
      rw [if_pos hn, if_neg hfr]
      show setV L' nm _ = L
      rw [← hn0] at hh
      rw [← hL', del_put hh]
      unfold setV
      rw [List.map_map]
      conv => rhs; rw [← List.map_id L]
      apply List.map_congr_left
      intro x hx
      show (if vkey (if vkey x = nm.data.toList then _ else x) = nm.data.toList then _ else _) = x
      by_cases h : vkey x = nm.data.toList
      · rw [if_pos h, if_pos (by exact h)]
        have : x = v := vkey_apart hr hx hvm (by rw [hvn]; exact ba_ext h)
        rw [this]
        dsimp only
        rw [if_pos (show vkey v = nm.data.toList by rw [vkey, hvn])]
      · rw [if_neg h, if_neg h]
    · rw [if_neg hn] at hk; simp at hk

end Go.Proofs.Ytmfamhdjkladoaa

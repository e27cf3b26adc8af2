/-
  VolumeTwins' walk: plain facts.
-/
import Derived.Test.YtmfamhdjkladoaaVolTwin
import Derived.Test.YtmfamhdjkladoaaVolumeCopiesHead
namespace Go.Proofs.Ytmfamhdjkladoaa
open Go.RowKit
set_option linter.unusedVariables false
set_option linter.unusedSimpArgs false

theorem delV_none {X : List Vol} {nm : ByteArray} (h : hasV X nm = false) : delV X nm = X := by
  unfold delV
  rw [List.filter_eq_self]
  intro v hv
  have := hasV_no h v hv
  rw [decide_eq_true_eq]
  exact fun e => this (ba_ext e)
theorem delete_del {X X' : List Vol} {nm : ByteArray} {k : Int} (h : deleteL X nm = (X', k)) : X' = delV X nm := by
  unfold deleteL at h
  cases hh : hasV X nm with
  | true => rw [hh, if_pos rfl] at h; injection h with h _; exact h.symm
  | false => rw [hh, if_neg (by simp)] at h; injection h with h _; rw [← h, delV_none hh]
theorem set_del (X : List Vol) (nm : ByteArray) (cs : List Cl) : delV (setV X nm cs) nm = delV X nm := by
  unfold delV setV
  induction X with
  | nil => rfl
  | cons y r ih =>
    rw [List.map_cons]
    by_cases h : vkey y = nm.data.toList
    · rw [if_pos h, List.filter_cons_of_neg (by simpa [vkey] using h), List.filter_cons_of_neg (by simpa using h)]
      exact ih
    · rw [if_neg h, List.filter_cons_of_pos (by simpa using h), List.filter_cons_of_pos (by simpa using h)]
      rw [ih]
theorem put_del {X X' : List Vol} {nm : ByteArray} {n : Int} {f o : List UInt8} {b : Bool} {k : Int} (h : putL X nm n f = (X', o, b, k)) : delV X' nm = delV X nm ∧ X'.length = X.length := by
  unfold putL at h
  cases hf : findV X nm with
  | none => rw [hf] at h; simp only [Prod.mk.injEq] at h; rw [← h.1]; exact ⟨rfl, rfl⟩
  | some v =>
    rw [hf] at h
    dsimp only at h
    split at h
    · split at h
      · simp only [Prod.mk.injEq] at h; rw [← h.1]; exact ⟨rfl, rfl⟩
      · split at h
        · simp only [Prod.mk.injEq] at h; rw [← h.1]; exact ⟨rfl, rfl⟩
        · simp only [Prod.mk.injEq] at h; rw [← h.1]; exact ⟨set_del _ _ _, by simp [setV]⟩
    · simp only [Prod.mk.injEq] at h; rw [← h.1]; exact ⟨rfl, rfl⟩
theorem drop_del {X X' : List Vol} {nm : ByteArray} {n : Int} {o : List UInt8} {b : Bool} {k : Int} (h : dropL X nm n = (X', o, b, k)) : delV X' nm = delV X nm ∧ X'.length = X.length := by
  unfold dropL at h
  cases hf : findV X nm with
  | none => rw [hf] at h; simp only [Prod.mk.injEq] at h; rw [← h.1]; exact ⟨rfl, rfl⟩
  | some v =>
    rw [hf] at h
    dsimp only at h
    split at h
    · split at h
      · simp only [Prod.mk.injEq] at h; rw [← h.1]; exact ⟨rfl, rfl⟩
      · simp only [Prod.mk.injEq] at h; rw [← h.1]; exact ⟨set_del _ _ _, by simp [setV]⟩
    · simp only [Prod.mk.injEq] at h; rw [← h.1]; exact ⟨rfl, rfl⟩
theorem ins_del {x : Vol} {nm : ByteArray} (hx : vkey x = nm.data.toList) : ∀ {L : List Vol}, hasV L nm = false → delV (insV x L) nm = L
  | [], _ => by
    unfold insV delV
    rw [List.filter_cons_of_neg (by simpa using hx)]
    rfl
  | y :: r, h => by
    have hy : vkey y ≠ nm.data.toList := fun e => hasV_no h y List.mem_cons_self (ba_ext e)
    have hr : hasV r nm = false := by
      unfold hasV at h ⊢
      rw [List.any_cons, Bool.or_eq_false_iff] at h
      exact h.2
    unfold insV
    split
    · have e := delV_none h
      unfold delV at e ⊢
      rw [List.filter_cons_of_neg (by simpa using hx)]
      exact e
    · have ih := ins_del hx hr
      unfold delV at ih ⊢
      rw [List.filter_cons_of_pos (by simpa using hy), ih]
theorem copy_del {L L' : List Vol} {nm own : ByteArray} {q : Int} {fr : Bool} (hk : copyL L nm own q fr = (L', 0)) : delV L' own = L := by
  unfold copyL at hk
  by_cases h0 : (namedB own.data.toList && quotaB q) = false
  · rw [if_pos h0] at hk; simp at hk
  rw [if_neg h0] at hk
  cases hf : findV L nm with
  | none => rw [hf] at hk; simp at hk
  | some v =>
    rw [hf] at hk
    dsimp only at hk
    by_cases hh : hasV L own = true
    · rw [if_pos hh] at hk; simp at hk
    rw [if_neg hh] at hk
    by_cases hq : q < v.cells.length
    · rw [if_pos hq] at hk; simp at hk
    rw [if_neg hq] at hk
    simp only [Prod.mk.injEq, and_true] at hk
    rw [← hk]
    exact ins_del rfl (by simpa using hh)

def ff32 : List UInt8 := 255 :: List.replicate 31 0
theorem ff32_built : Try.prog.built 40 [(0, .int .u8 255)] = some (Lib.byteCells ff32).toArray := by kernel_rfl
def digs36 : ByteArray := ⟨#[48, 49, 50, 51, 52, 53, 54, 55, 56, 57, 97, 98, 99, 100, 101, 102, 103, 104, 105, 106, 107, 108, 109, 110, 111, 112, 113, 114, 115, 116, 117, 118, 119, 120, 121, 122]⟩
theorem slice36 (k : Nat) (w : World) : (Instr.slice 9 (.string ⟨#[48, 49, 50, 51, 52, 53, 54, 55, 56, 57, 97, 98, 99, 100, 101, 102, 103, 104, 105, 106, 107, 108, 109, 110, 111, 112, 113, 114, 115, 116, 117, 118, 119, 120, 121, 122]⟩) (some (.int .i64 ((k : Int) % 36))) (some (.int .i64 ((k : Int) % 36 + 1))) none).run Try.prog w = .ok (.string (digs36.extract (k % 36) (k % 36 + 1))) w := by
  have h : digs36.size = 36 := by decide
  have := run_slice_string (P := Try.prog) w 9 digs36 .i64 .i64 ((k : Int) % 36) ((k : Int) % 36 + 1) Try.underlying9 (by omega) (by omega) (by rw [h]; omega)
  have e1 : ((k : Int) % 36).toNat = k % 36 := by omega
  have e2 : ((k : Int) % 36 + 1).toNat = k % 36 + 1 := by omega
  rw [e1, e2] at this
  exact this
theorem slice36_size (k : Nat) : (digs36.extract (k % 36) (k % 36 + 1)).size ≤ 1 := by
  rw [ByteArray.size_extract]
  omega
/-- A set alone, from block B on. -/
def Twn (w : World) (B s : Nat) (L : List Vol) : Prop := ∃ F : Nat → Prop, SetL w F s L ∧ ∀ b, F b → B ≤ b
theorem Twn.below {w w' : World} {B s : Nat} {L : List Vol} (h : Twn w B s L) (hb : Below w.heap.size w w') : Twn w' B s L := by
  obtain ⟨F, h1, h2⟩ := h
  exact ⟨F, h1.below hb, h2⟩
theorem Twn.call {w : World} {B s : Nat} {L : List Vol} (h : Twn w B s L) (hB : B ≤ w.heap.size) (x : Cl12) (hx : C12Ok x) (VL : List Value) (hVL : VL = c12C x) (hl : L.length ≤ 100000) :
    Calls Try.prog 16 #[.pointer (some ⟨s, 0, none⟩), .slice none 0 0, .agg VL.toArray] w fun e w' => ∃ v, e = .returned v ∧ (∃ L', Twn w' B s L' ∧ L'.length ≤ L.length + 1) ∧ Below B w w' := by
  obtain ⟨F, h1, h2⟩ := h
  refine (call12_any s none 0 0 x hx VL hVL w F (fun _ => False) L [] h1 (VSl.nil_ _ _) (fun _ h => h.elim) (fun _ h => h.elim) hl (by simp) List.Pairwise.nil (fun _ h => by cases h)).mono ?_
  rintro e w' ⟨A', n', c', r, F', G', rfl, q1, q2, q3, q4, q5, q6, q7, q8⟩
  exact ⟨_, rfl, ⟨_, ⟨F', q1, fun b hb => (q4 b hb).elim (h2 b) fun h => by omega⟩, opL_len h1.rise x⟩, q8.below hB h2⟩

end Go.Proofs.Ytmfamhdjkladoaa

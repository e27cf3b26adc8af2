/-
  The document's Set, by what it answers.
-/
import Derived.Test.YtcajhndhjlfmaaaGreatVolRSet
import Derived.Test.YtcajhndhjlfmaaaGreatCalls12Arg
namespace Go.Proofs.YtcajhndhjlfmaaaGreat
open Go.RowKit
set_option linter.unusedVariables false
set_option linter.unusedSimpArgs false

theorem atC_none {cs : List Cl} {n : Int} (h : hasC cs n = false) : atC cs n = zeros := by
  unfold atC
  rw [hasC_get] at h
  cases hg : getC cs n with
  | none => rfl
  | some f => rw [hg] at h; cases h

theorem rset_any (A : Option Addr) (n c : Nat) (L : List Vol) (nm : ByteArray) (hsz : nm.size ≤ maxLen) (nu : Int) (w : World) (G : Nat → Prop) (h : VSl w G A n c L) (hG : ∀ b, G b → b < w.heap.size) (hl : L.length ≤ 100000) (hrise : RiseV L) (hok : ∀ v ∈ L, VolOk v) (put : Bool) (f : List UInt8) (hf32 : f.length = 32) (FL : List Value) (hFL : FL = Lib.byteCells f)
    (L' : List Vol) (o : List UInt8) (b : Bool) (k : Int) (hk : setL L nm nu put f = (L', o, b, k)) (OL : List Value) (hOL : OL = Lib.byteCells o) :
    Calls Tryz.prog 20 #[.slice A n c, .string nm, .int .i64 nu, .bool put, .agg FL.toArray] w fun e w' => ∃ A' n' c', e = .returned (.tuple #[.slice A' n' c', .agg OL.toArray, .bool b, .int .i64 k]) ∧ VSl w' (fun b => G b ∨ w.heap.size ≤ b) A' n' c' L' ∧ Below w.heap.size w w' := by
  subst hOL
  cases hfv : findV L nm with
  | none =>
    have hget : getL L nm nu = (zeros, false, 5) := by unfold getL; rw [hfv]
    have hk' : (L', o, b, k) = (L, zeros, false, 5) := by
      rw [← hk]; unfold setL putL dropL; rw [hfv]; split <;> rfl
    simp only [Prod.mk.injEq] at hk'
    obtain ⟨rfl, rfl, rfl, rfl⟩ := hk'
    exact rset_err A n c L' nm hsz nu w G h hG hl put f hf32 FL hFL zeros false 5 hget rfl (by omega)
  | some v =>
    have hvm := findV_mem hfv
    obtain ⟨i, hi, hLi⟩ := findI_at hfv
    cases hn : numB nu with
    | false =>
      have hget : getL L nm nu = (zeros, false, 2) := by unfold getL; rw [hfv]; simp [hn]
      have hk' : (L', o, b, k) = (L, zeros, false, 2) := by
        rw [← hk]; unfold setL putL dropL; rw [hfv]; simp [hn]
      simp only [Prod.mk.injEq] at hk'
      obtain ⟨rfl, rfl, rfl, rfl⟩ := hk'
      exact rset_err A n c L' nm hsz nu w G h hG hl put f hf32 FL hFL zeros false 2 hget rfl (by omega)
    | true =>
      have hget : getL L nm nu = (atC v.cells nu, hasC v.cells nu, 0) := by unfold getL; rw [hfv]; simp [hn]
      have h32 := atC_length (hok v hvm.1) nu
      cases hfr : v.frozen with
      | true =>
        have hk' : (L', o, b, k) = (L, zeros, false, 10) := by
          rw [← hk]; unfold setL putL dropL; rw [hfv]; simp [hn, hfr]
        simp only [Prod.mk.injEq] at hk'
        obtain ⟨rfl, rfl, rfl, rfl⟩ := hk'
        exact rset_frozen A n c L' nm hsz nu w G h hG hl put f hf32 FL hFL _ _ 0 hget h32 rfl i v hi hLi hfr
      | false =>
        by_cases hfull : put = true ∧ hasC v.cells nu = false ∧ v.quota ≤ v.cells.length
        · obtain ⟨rfl, hh, hq⟩ := hfull
          have hk' : (L', o, b, k) = (L, zeros, false, 8) := by
            rw [← hk]; unfold setL putL; rw [hfv]; simp [hn, hfr, hh, hq]
          simp only [Prod.mk.injEq] at hk'
          obtain ⟨rfl, rfl, rfl, rfl⟩ := hk'
          have := rset_full A n c L' nm hsz nu w G h hG hl true f hf32 FL hFL _ _ 0 hget h32 rfl i v hi hLi hfr rfl hh hq
          rw [hh, atC_none hh] at this
          exact this
        · have hyes := numB_yes hn
          obtain ⟨nn, rfl⟩ := Int.eq_ofNat_of_zero_le hyes.1
          have hvo := hok v hvm.1
          have hset : ∀ cs, setV L nm cs = L.set i { v with cells := cs } := fun cs => setV_at hrise hLi hvm.2 cs
          cases put with
          | false =>
            have hk' : (L', o, b, k) = (setV L nm (delC v.cells nn), atC v.cells (nn : Nat), hasC v.cells (nn : Nat), 0) := by
              rw [← hk]; unfold setL dropL; rw [hfv]; simp [hn, hfr]
            simp only [Prod.mk.injEq] at hk'
            obtain ⟨rfl, rfl, rfl, rfl⟩ := hk'
            have hf : finC (accC nn f (!false) v.cells) nn f = delC v.cells nn := acc_drop
            have := rset_good A n c L nm hsz (nn : Nat) w G h hG hl false f hf32 FL hFL _ _ hget h32 i v hi hLi hfr (.inl rfl) nn rfl (by omega) (by rw [hf]; have := List.length_filter_le (fun c : Cl => decide (c.1 ≠ nn)) v.cells; have h2 : (delC v.cells nn).length ≤ v.cells.length := this; have := hvo.le; have := hvo.q; omega)
            rw [hf, ← hset] at this
            exact this
          | true =>
            have hnq : ¬ (hasC v.cells (nn : Nat) = false ∧ v.quota ≤ v.cells.length) := fun h => hfull ⟨rfl, h.1, h.2⟩
            have hk' : (L', o, b, k) = (setV L nm (putC v.cells nn f), atC v.cells (nn : Nat), hasC v.cells (nn : Nat), 0) := by
              rw [← hk]; unfold setL putL; rw [hfv]; simp only [if_true, hn, hfr, if_neg hnq]; simp
            simp only [Prod.mk.injEq] at hk'
            obtain ⟨rfl, rfl, rfl, rfl⟩ := hk'
            have hf : finC (accC nn f (!true) v.cells) nn f = putC v.cells nn f := acc_put hvo.rs
            have hor : hasC v.cells (nn : Nat) = true ∨ v.cells.length < v.quota := by
              cases hh : hasC v.cells (nn : Nat) with
              | true => exact .inl rfl
              | false => exact .inr (by have : ¬ v.quota ≤ v.cells.length := fun h => hnq ⟨hh, h⟩; omega)
            have := rset_good A n c L nm hsz (nn : Nat) w G h hG hl true f hf32 FL hFL _ _ hget h32 i v hi hLi hfr (.inr hor) nn rfl (by omega) (by
              rw [hf, putC_length hvo.rs]
              have := hvo.le
              have := hvo.q
              rcases hor with h | h
              · rw [h]; simp; omega
              · split <;> omega)
            rw [hf, ← hset] at this
            exact this

/-- What a call does to a row of volumes, what it answers. -/
def opL (L : List Vol) (x : Cl12) : List Vol × List UInt8 × Bool × Int :=
  if x.what = 0 then putL L x.name x.num x.finger
  else if x.what = 1 then dropL L x.name x.num
  else if x.what = 2 then let p := createL L x.name x.quota; (p.1, zeros, false, p.2)
  else if x.what = 3 then let p := copyL L x.name x.other x.quota x.frozen; (p.1, zeros, false, p.2)
  else let p := deleteL L x.name; (p.1, zeros, false, p.2)

end Go.Proofs.YtcajhndhjlfmaaaGreat

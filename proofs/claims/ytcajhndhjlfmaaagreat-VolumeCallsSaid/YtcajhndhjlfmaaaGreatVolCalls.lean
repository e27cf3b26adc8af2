/-
  Put and Drop by what they answer; what a call does to a row of volumes; the laws' example.
-/
import Derived.Test.YtcajhndhjlfmaaaGreatVolPut
namespace Go.Proofs.YtcajhndhjlfmaaaGreat
open Go.RowKit
set_option linter.unusedVariables false
set_option linter.unusedSimpArgs false

theorem changeF_err {M : List Vm} {nm : ByteArray} {n : Int} (h : findM M nm = none) : changeF M nm n = (.pointer none, 5) := by unfold changeF; rw [h]
theorem changeF_range {M : List Vm} {nm : ByteArray} {n : Int} {m : Vm} (h : findM M nm = some m) (hn : numB n = false) : changeF M nm n = (.pointer none, 2) := by unfold changeF; rw [h]; simp [hn]
theorem changeF_frozen {M : List Vm} {nm : ByteArray} {n : Int} {m : Vm} (h : findM M nm = some m) (hn : numB n = true) (hf : m.v.frozen = true) : changeF M nm n = (.pointer none, 10) := by unfold changeF; rw [h]; simp [hn, hf]

theorem put_any (s : Nat) (nm : ByteArray) (hsz : nm.size ≤ maxLen) (n : Int) (w : World) (F : Nat → Prop) (L : List Vol) (h : SetL w F s L) (f : List UInt8) (hf32 : f.length = 32) (FL : List Value) (hFL : FL = Lib.byteCells f)
    (L' : List Vol) (o : List UInt8) (b : Bool) (k : Int) (hk : putL L nm n f = (L', o, b, k)) (OL : List Value) (hOL : OL = Lib.byteCells o) :
    Calls Tryz.prog 19 #[.pointer (some ⟨s, 0, none⟩), .string nm, .int .i64 n, .agg FL.toArray] w fun e w' => e = .returned (.tuple #[.agg OL.toArray, .bool b, .int .i64 k]) ∧ SetL w' (newF F w w') s L' ∧ Only F w w' := by
  subst hOL
  obtain ⟨M, hM, rfl⟩ := h
  unfold putL at hk
  rw [vs_find] at hk
  cases hfd : findM M nm with
  | none =>
    rw [hfd] at hk
    simp only [Option.map_none, Prod.mk.injEq] at hk
    obtain ⟨rfl, rfl, rfl, rfl⟩ := hk
    exact put_err s nm hsz n w F M hM f hf32 FL hFL 5 (changeF_err hfd) (by omega)
  | some m =>
    rw [hfd] at hk
    simp only [Option.map_some] at hk
    cases hn : numB n with
    | false =>
      rw [hn, if_neg (by simp)] at hk
      simp only [Prod.mk.injEq] at hk
      obtain ⟨rfl, rfl, rfl, rfl⟩ := hk
      exact put_err s nm hsz n w F M hM f hf32 FL hFL 2 (changeF_range hfd hn) (by omega)
    | true =>
      rw [hn, if_pos rfl] at hk
      cases hfr : m.v.frozen with
      | true =>
        rw [hfr, if_pos rfl] at hk
        simp only [Prod.mk.injEq] at hk
        obtain ⟨rfl, rfl, rfl, rfl⟩ := hk
        exact put_err s nm hsz n w F M hM f hf32 FL hFL 10 (changeF_frozen hfd hn hfr) (by omega)
      | false =>
        rw [hfr, if_neg (by simp)] at hk
        obtain ⟨mb, hQ⟩ := hM
        by_cases hq : hasC m.v.cells n = false ∧ m.v.quota ≤ m.v.cells.length
        · rw [if_pos hq] at hk
          simp only [Prod.mk.injEq] at hk
          obtain ⟨rfl, rfl, rfl, rfl⟩ := hk
          exact put_full s nm hsz n w F mb M hQ f hf32 FL hFL m hfd hn hfr hq.1 hq.2
        · rw [if_neg hq] at hk
          simp only [Prod.mk.injEq] at hk
          obtain ⟨rfl, rfl, rfl, rfl⟩ := hk
          refine put_good s nm hsz n w F mb M hQ f hf32 FL hFL m hfd hn hfr _ rfl ?_
          cases hh : hasC m.v.cells n with
          | true => exact .inl rfl
          | false => exact .inr (by have : ¬ m.v.quota ≤ m.v.cells.length := fun h => hq ⟨hh, h⟩; omega)

theorem drop_any (s : Nat) (nm : ByteArray) (hsz : nm.size ≤ maxLen) (n : Int) (w : World) (F : Nat → Prop) (L : List Vol) (h : SetL w F s L)
    (L' : List Vol) (o : List UInt8) (b : Bool) (k : Int) (hk : dropL L nm n = (L', o, b, k)) (OL : List Value) (hOL : OL = Lib.byteCells o) :
    Calls Tryz.prog 21 #[.pointer (some ⟨s, 0, none⟩), .string nm, .int .i64 n] w fun e w' => e = .returned (.tuple #[.agg OL.toArray, .bool b, .int .i64 k]) ∧ SetL w' (newF F w w') s L' ∧ Only F w w' := by
  subst hOL
  obtain ⟨M, hM, rfl⟩ := h
  unfold dropL at hk
  rw [vs_find] at hk
  cases hfd : findM M nm with
  | none =>
    rw [hfd] at hk
    simp only [Option.map_none, Prod.mk.injEq] at hk
    obtain ⟨rfl, rfl, rfl, rfl⟩ := hk
    exact drop_err s nm hsz n w F M hM 5 (changeF_err hfd) (by omega)
  | some m =>
    rw [hfd] at hk
    simp only [Option.map_some] at hk
    cases hn : numB n with
    | false =>
      rw [hn, if_neg (by simp)] at hk
      simp only [Prod.mk.injEq] at hk
      obtain ⟨rfl, rfl, rfl, rfl⟩ := hk
      exact drop_err s nm hsz n w F M hM 2 (changeF_range hfd hn) (by omega)
    | true =>
      rw [hn, if_pos rfl] at hk
      cases hfr : m.v.frozen with
      | true =>
        rw [hfr, if_pos rfl] at hk
        simp only [Prod.mk.injEq] at hk
        obtain ⟨rfl, rfl, rfl, rfl⟩ := hk
        exact drop_err s nm hsz n w F M hM 10 (changeF_frozen hfd hn hfr) (by omega)
      | false =>
        rw [hfr, if_neg (by simp)] at hk
        obtain ⟨mb, hQ⟩ := hM
        simp only [Prod.mk.injEq] at hk
        obtain ⟨rfl, rfl, rfl, rfl⟩ := hk
        exact drop_good s nm hsz n w F mb M hQ m hfd hn hfr _ rfl

/-! ### plain facts -/
theorem hasV_find {L : List Vol} {nm : ByteArray} : hasV L nm = (findV L nm).isSome := by
  unfold hasV findV
  rw [Bool.eq_iff_iff, List.find?_isSome, List.any_eq_true]
theorem findV_mem {L : List Vol} {nm : ByteArray} {v : Vol} (h : findV L nm = some v) : v ∈ L ∧ v.name = nm := by
  unfold findV at h
  exact ⟨List.mem_of_find?_eq_some h, ba_ext (by simpa [vkey] using List.find?_some h)⟩
theorem hasV_no {L : List Vol} {nm : ByteArray} (h : hasV L nm = false) : ∀ v ∈ L, v.name ≠ nm := fun v hv e => by
  unfold hasV at h
  have := List.any_eq_false.1 h v hv
  rw [decide_eq_true_eq] at this
  exact this (by rw [vkey, e])
theorem insV_mem {x c : Vol} : ∀ {L : List Vol}, c ∈ insV x L ↔ c = x ∨ c ∈ L
  | [] => by simp [insV]
  | y :: r => by
    unfold insV
    split
    · simp
    · simp only [List.mem_cons, insV_mem (L := r)]
      constructor
      · rintro (h | h | h) <;> simp [h]
      · rintro (h | h | h) <;> simp [h]
theorem insV_length (x : Vol) : ∀ L : List Vol, (insV x L).length = L.length + 1
  | [] => rfl
  | y :: r => by
    unfold insV
    split
    · rfl
    · simp [insV_length x r]
theorem vkey_apart {L : List Vol} (h : RiseV L) {a b : Vol} (ha : a ∈ L) (hb : b ∈ L) (e : a.name = b.name) : a = b := by
  unfold RiseV at h
  have e' : vkey a = vkey b := by rw [vkey, vkey, e]
  clear e
  induction L with
  | nil => simp at ha
  | cons y r ih =>
    rw [List.pairwise_cons] at h
    rcases List.mem_cons.1 ha with ha | ha <;> rcases List.mem_cons.1 hb with hb | hb
    · rw [ha, hb]
    · have := h.1 b hb
      rw [← ha, e', Go.WideAt.bytes_irrefl] at this
      cases this
    · have := h.1 a ha
      rw [← hb, e', Go.WideAt.bytes_irrefl] at this
      cases this
    · exact ih h.2 ha hb
theorem setV_mem {L : List Vol} {nm : ByteArray} {cs : List Cl} {c : Vol} (h : c ∈ setV L nm cs) : ∃ v ∈ L, (c = v ∧ v.name ≠ nm) ∨ (v.name = nm ∧ c = { v with cells := cs }) := by
  unfold setV at h
  obtain ⟨v, hv, rfl⟩ := List.mem_map.1 h
  refine ⟨v, hv, ?_⟩
  split
  · rename_i e
    exact .inr ⟨ba_ext e, rfl⟩
  · rename_i e
    exact .inl ⟨rfl, fun e2 => e (by rw [vkey, e2])⟩

/-- What was there, frozen, is there as it was. -/
def Keeps (L L' : List Vol) : Prop := ∀ v ∈ L', v.frozen = true → ∀ u ∈ L, u.name = v.name → u = v
theorem Keeps.refl {L : List Vol} (h : RiseV L) : Keeps L L := fun v hv _ u hu e => vkey_apart h hu hv e
theorem Keeps.ins {L : List Vol} (h : RiseV L) {x : Vol} (hx : hasV L x.name = false) : Keeps L (insV x L) := fun v hv _ u hu e => by
  rcases insV_mem.1 hv with rfl | hv
  · exact absurd e (hasV_no hx u hu)
  · exact vkey_apart h hu hv e
theorem Keeps.set {L : List Vol} (h : RiseV L) {nm : ByteArray} {v0 : Vol} (hf : findV L nm = some v0) (h0 : v0.frozen = false) (cs : List Cl) : Keeps L (setV L nm cs) := fun v hv hfr u hu e => by
  obtain ⟨x, hx, ⟨rfl, hne⟩ | ⟨hn, rfl⟩⟩ := setV_mem hv
  · exact vkey_apart h hu hx e
  · have : x = v0 := vkey_apart h hx (findV_mem hf).1 (by rw [hn, (findV_mem hf).2])
    rw [this] at hfr
    rw [show ({ v0 with cells := cs } : Vol).frozen = v0.frozen from rfl, h0] at hfr
    cases hfr

/-- What a call of one of these kinds leads to: the volumes, the error's number. -/
structure StepOk (L L' : List Vol) (k : Int) : Prop where
  err : k ≠ 0 → L' = L
  keeps : Keeps L L'
  len : L'.length ≤ L.length + 1
theorem StepOk.same {L : List Vol} (h : RiseV L) (k : Int) : StepOk L L k := ⟨fun _ => rfl, Keeps.refl h, by omega⟩
theorem putL_ok {L L' : List Vol} (h : RiseV L) {nm : ByteArray} {n : Int} {f o : List UInt8} {b : Bool} {k : Int} (hk : putL L nm n f = (L', o, b, k)) : StepOk L L' k := by
  unfold putL at hk
  cases hf : findV L nm with
  | none => rw [hf] at hk; simp only [Prod.mk.injEq] at hk; obtain ⟨rfl, rfl, rfl, rfl⟩ := hk; exact StepOk.same h _
  | some v =>
    rw [hf] at hk
    dsimp only at hk
    by_cases hn : numB n = true
    · rw [if_pos hn] at hk
      by_cases hfr : v.frozen = true
      · rw [if_pos hfr] at hk; simp only [Prod.mk.injEq] at hk; obtain ⟨rfl, rfl, rfl, rfl⟩ := hk; exact StepOk.same h _
      · rw [if_neg hfr] at hk
        by_cases hq : hasC v.cells n = false ∧ v.quota ≤ v.cells.length
        · rw [if_pos hq] at hk; simp only [Prod.mk.injEq] at hk; obtain ⟨rfl, rfl, rfl, rfl⟩ := hk; exact StepOk.same h _
        · rw [if_neg hq] at hk
          simp only [Prod.mk.injEq] at hk
          obtain ⟨rfl, rfl, rfl, rfl⟩ := hk
          exact ⟨fun h => absurd rfl h, Keeps.set h hf (by simpa using hfr) _, by simp [setV]⟩
    · rw [if_neg hn] at hk; simp only [Prod.mk.injEq] at hk; obtain ⟨rfl, rfl, rfl, rfl⟩ := hk; exact StepOk.same h _
theorem dropL_ok {L L' : List Vol} (h : RiseV L) {nm : ByteArray} {n : Int} {o : List UInt8} {b : Bool} {k : Int} (hk : dropL L nm n = (L', o, b, k)) : StepOk L L' k := by
  unfold dropL at hk
  cases hf : findV L nm with
  | none => rw [hf] at hk; simp only [Prod.mk.injEq] at hk; obtain ⟨rfl, rfl, rfl, rfl⟩ := hk; exact StepOk.same h _
  | some v =>
    rw [hf] at hk
    dsimp only at hk
    by_cases hn : numB n = true
    · rw [if_pos hn] at hk
      by_cases hfr : v.frozen = true
      · rw [if_pos hfr] at hk; simp only [Prod.mk.injEq] at hk; obtain ⟨rfl, rfl, rfl, rfl⟩ := hk; exact StepOk.same h _
      · rw [if_neg hfr] at hk
        simp only [Prod.mk.injEq] at hk
        obtain ⟨rfl, rfl, rfl, rfl⟩ := hk
        exact ⟨fun h => absurd rfl h, Keeps.set h hf (by simpa using hfr) _, by simp [setV]⟩
    · rw [if_neg hn] at hk; simp only [Prod.mk.injEq] at hk; obtain ⟨rfl, rfl, rfl, rfl⟩ := hk; exact StepOk.same h _
theorem createL_ok {L L' : List Vol} (h : RiseV L) {nm : ByteArray} {q k : Int} (hk : createL L nm q = (L', k)) : StepOk L L' k := by
  unfold createL at hk
  split at hk
  · injection hk with h1 h2; subst h1 h2; exact StepOk.same h _
  · split at hk
    · injection hk with h1 h2; subst h1 h2; exact StepOk.same h _
    · rename_i hh
      injection hk with h1 h2
      subst h1 h2
      exact ⟨fun h => absurd rfl h, Keeps.ins h (by simpa using hh), by rw [insV_length]; exact Nat.le_refl _⟩
theorem copyL_ok {L L' : List Vol} (h : RiseV L) {nm other : ByteArray} {q k : Int} {fr : Bool} (hk : copyL L nm other q fr = (L', k)) : StepOk L L' k := by
  unfold copyL at hk
  split at hk
  · injection hk with h1 h2; subst h1 h2; exact StepOk.same h _
  · split at hk
    · injection hk with h1 h2; subst h1 h2; exact StepOk.same h _
    · split at hk
      · injection hk with h1 h2; subst h1 h2; exact StepOk.same h _
      · rename_i hh
        split at hk
        · injection hk with h1 h2; subst h1 h2; exact StepOk.same h _
        · injection hk with h1 h2
          subst h1 h2
          exact ⟨fun h => absurd rfl h, Keeps.ins h (by simpa using hh), by rw [insV_length]; exact Nat.le_refl _⟩
theorem deleteL_ok {L L' : List Vol} (h : RiseV L) {nm : ByteArray} {k : Int} (hk : deleteL L nm = (L', k)) : StepOk L L' k := by
  unfold deleteL at hk
  split at hk
  · injection hk with h1 h2
    subst h1 h2
    exact ⟨fun h => absurd rfl h, fun v hv _ u hu e => vkey_apart h hu (List.mem_filter.1 hv).1 e, Nat.le_trans (List.length_filter_le _ _) (Nat.le_succ _)⟩
  · injection hk with h1 h2; subst h1 h2; exact StepOk.same h _

theorem putL_32 {L L' : List Vol} (hok : ∀ v ∈ L, VolOk v) {nm : ByteArray} {n : Int} {f o : List UInt8} {b : Bool} {k : Int} (hk : putL L nm n f = (L', o, b, k)) : o.length = 32 := by
  unfold putL at hk
  cases hf : findV L nm with
  | none => rw [hf] at hk; simp only [Prod.mk.injEq] at hk; obtain ⟨rfl, rfl, rfl, rfl⟩ := hk; rfl
  | some v =>
    rw [hf] at hk
    dsimp only at hk
    split at hk
    · split at hk
      · simp only [Prod.mk.injEq] at hk; obtain ⟨rfl, rfl, rfl, rfl⟩ := hk; rfl
      · split at hk
        · simp only [Prod.mk.injEq] at hk; obtain ⟨rfl, rfl, rfl, rfl⟩ := hk; rfl
        · simp only [Prod.mk.injEq] at hk; obtain ⟨rfl, rfl, rfl, rfl⟩ := hk; exact atC_length (hok v (findV_mem hf).1) n
    · simp only [Prod.mk.injEq] at hk; obtain ⟨rfl, rfl, rfl, rfl⟩ := hk; rfl

/-! ### the example -/
def one32 : List UInt8 := 1 :: List.replicate 31 0
theorem one32_built : Tryz.prog.built 29 [(0, .int .u8 1)] = some (Lib.byteCells one32).toArray := by kernel_rfl
def nameA : ByteArray := ⟨#[97]⟩
theorem ex_create : createL [] nameA 1 = ([⟨nameA, 1, false, []⟩], 0) := by rfl
theorem ex_put0 : putL [⟨nameA, 1, false, []⟩] nameA 0 one32 = ([⟨nameA, 1, false, [(0, one32)]⟩], zeros, false, 0) := by rfl
theorem ex_put1 : putL [⟨nameA, 1, false, [(0, one32)]⟩] nameA 1 one32 = ([⟨nameA, 1, false, [(0, one32)]⟩], zeros, false, 8) := by rfl
end Go.Proofs.YtcajhndhjlfmaaaGreat

/-
  A commit as a value.
-/
import Derived.Test.YtkepfigoeaheaaaComMem
namespace Go.Proofs.Ytkepfigoeaheaaa
open Go.RowKit
set_option linter.unusedVariables false
set_option linter.unusedSimpArgs false

/-- A commit, and where its bins and its events lie. -/
structure Cx where
  c : Com
  Ab : Option Addr
  cb : Nat
  Ae : Option Addr
  ce : Nat
def comV (ep : Nat) (R1 R2 R3 : List Value) (bv : Value) (SL : List Value) (ev : Value) : List Value := .int .u64 (ep : Nat) :: (R1 ++ (R2 ++ (R3 ++ (bv :: (SL ++ [ev])))))
def comC (x : Cx) : List Value := comV x.c.ep (rC x.c.r1) (rC x.c.r2) (rC x.c.r3) (.slice x.Ab x.c.bins.length x.cb) (Lib.byteCells x.c.st) (.slice x.Ae x.c.evs.length x.ce)
structure CxOk (w : World) (B : Nat) (x : Cx) : Prop where
  ep : x.c.ep < 18446744073709551616
  r1 : RefW x.c.r1
  r2 : RefW x.c.r2
  r3 : RefW x.c.r3
  bw : ∀ b ∈ x.c.bins, BinW b
  st : x.c.st.length = 32
  lb : x.c.bins.length ≤ x.cb
  mb : x.cb ≤ maxLen
  le : x.c.evs.length ≤ x.ce
  me : x.ce ≤ maxLen
  bins : RowOf bC 35 w B x.Ab x.c.bins
  evs : RowsAt w B x.Ae x.c.evs
theorem CxOk.below {w w' : World} {B B' : Nat} {x : Cx} (h : CxOk w B x) (hb : Below B' w w') (hB : B ≤ B') : CxOk w' B x := { h with bins := h.bins.below hb hB, evs := h.evs.below hb hB }
theorem CxOk.more {w : World} {B B' : Nat} {x : Cx} (h : CxOk w B x) (hB : B ≤ B') : CxOk w B' x := { h with bins := h.bins.more hB, evs := h.evs.more hB }
theorem comV_length {ep : Nat} {R1 R2 R3 SL : List Value} {bv ev : Value} (h1 : R1.length = 34) (h2 : R2.length = 34) (h3 : R3.length = 34) (hs : SL.length = 32) : (comV ep R1 R2 R3 bv SL ev).length = 137 := by
  unfold comV
  simp only [List.length_cons, List.length_append, List.length_nil, h1, h2, h3, hs]
theorem comC_length {w : World} {B : Nat} {x : Cx} (h : CxOk w B x) : (comC x).length = 137 := comV_length (rC_length h.r1) (rC_length h.r2) (rC_length h.r3) (by rw [Lib.byteCells_length, h.st])
theorem comC_one (x : Cx) : ∀ v ∈ comC x, v.oneCell' = true := by
  intro v hv
  simp only [comC, comV, List.mem_cons, List.mem_append, List.not_mem_nil, or_false] at hv
  rcases hv with rfl | hv | hv | hv | rfl | hv | rfl
  · rfl
  · exact rC_one _ v hv
  · exact rC_one _ v hv
  · exact rC_one _ v hv
  · rfl
  · exact byteCells_one _ v hv
  · rfl
theorem comSize : (Try.prog.info? 30).map (·.size) = some 137 := by kernel_rfl
theorem mid_at {pre l post : List Value} {k : Nat} (hk : pre.length = k) (j : Nat) (v : Value) (hj : l[j]? = some v) : (pre ++ (l ++ post))[k + j]? = some v := by
  rw [List.getElem?_append_right (by omega), hk, Nat.add_sub_cancel_left, List.getElem?_append_left (List.getElem?_eq_some_iff.1 hj).1]
  exact hj
/-- What lies at a commit's places. -/
theorem comV_parts {ep : Nat} {R1 R2 R3 SL : List Value} {bv ev : Value} (h1 : R1.length = 34) (h2 : R2.length = 34) (h3 : R3.length = 34) (hs : SL.length = 32) :
    (comV ep R1 R2 R3 bv SL ev)[0]? = some (.int .u64 (ep : Nat)) ∧ (∀ j v, R1[j]? = some v → (comV ep R1 R2 R3 bv SL ev)[1 + j]? = some v) ∧ (∀ j v, R2[j]? = some v → (comV ep R1 R2 R3 bv SL ev)[35 + j]? = some v) ∧ (∀ j v, R3[j]? = some v → (comV ep R1 R2 R3 bv SL ev)[69 + j]? = some v) ∧
    (comV ep R1 R2 R3 bv SL ev)[103]? = some bv ∧ (∀ j v, SL[j]? = some v → (comV ep R1 R2 R3 bv SL ev)[104 + j]? = some v) ∧ (comV ep R1 R2 R3 bv SL ev)[136]? = some ev := by
  refine ⟨rfl, fun j v hj => ?_, fun j v hj => ?_, fun j v hj => ?_, ?_, fun j v hj => ?_, ?_⟩
  · exact mid_at (pre := [.int .u64 (ep : Nat)]) (l := R1) (post := R2 ++ (R3 ++ (bv :: (SL ++ [ev])))) rfl j v hj
  · have := mid_at (pre := .int .u64 (ep : Nat) :: R1) (l := R2) (post := R3 ++ (bv :: (SL ++ [ev]))) (k := 35) (by simp [h1]) j v hj
    simpa [comV] using this
  · have := mid_at (pre := .int .u64 (ep : Nat) :: (R1 ++ R2)) (l := R3) (post := bv :: (SL ++ [ev])) (k := 69) (by simp [h1, h2]) j v hj
    simpa [comV] using this
  · have := mid_at (pre := .int .u64 (ep : Nat) :: (R1 ++ (R2 ++ R3))) (l := [bv]) (post := SL ++ [ev]) (k := 103) (by simp [h1, h2, h3]) 0 bv rfl
    simpa [comV] using this
  · have := mid_at (pre := .int .u64 (ep : Nat) :: (R1 ++ (R2 ++ (R3 ++ [bv])))) (l := SL) (post := [ev]) (k := 104) (by simp [h1, h2, h3]) j v hj
    simpa [comV] using this
  · have := mid_at (pre := .int .u64 (ep : Nat) :: (R1 ++ (R2 ++ (R3 ++ (bv :: SL))))) (l := [ev]) (post := []) (k := 136) (by simp [h1, h2, h3, hs]) 0 ev rfl
    simpa [comV] using this
/-- What a commit's block holds, by its places. -/
structure ComAt (w : World) (g : Nat) (ep : Nat) (R1 R2 R3 : List Value) (bv : Value) (SL : List Value) (ev : Value) : Prop where
  ep : w.cell? ⟨g, 0, none⟩ = some (.int .u64 (ep : Nat))
  r1 : w.rangeAt g 1 R1
  r2 : w.rangeAt g 35 R2
  r3 : w.rangeAt g 69 R3
  bins : w.cell? ⟨g, 103, none⟩ = some bv
  st : w.rangeAt g 104 SL
  evs : w.cell? ⟨g, 136, none⟩ = some ev
theorem Arr.com {w : World} {g : Nat} {T : TypeId} {ep : Nat} {R1 R2 R3 SL : List Value} {bv ev : Value} (h : Arr w g T (comV ep R1 R2 R3 bv SL ev)) (h1 : R1.length = 34) (h2 : R2.length = 34) (h3 : R3.length = 34) (hs : SL.length = 32) : ComAt w g ep R1 R2 R3 bv SL ev := by
  obtain ⟨p0, p1, p2, p3, p4, p5, p6⟩ := comV_parts (ep := ep) (bv := bv) (ev := ev) h1 h2 h3 hs
  exact ⟨by rw [h.cell]; exact p0, fun j v hj => by rw [h.cell]; exact p1 j v hj, fun j v hj => by rw [h.cell]; exact p2 j v hj, fun j v hj => by rw [h.cell]; exact p3 j v hj, by rw [h.cell]; exact p4, fun j v hj => by rw [h.cell]; exact p5 j v hj, by rw [h.cell]; exact p6⟩

end Go.Proofs.Ytkepfigoeaheaaa

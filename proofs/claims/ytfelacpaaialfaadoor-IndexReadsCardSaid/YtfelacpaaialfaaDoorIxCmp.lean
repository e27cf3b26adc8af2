/-
  Fingerprints compared by bytes.Compare.
-/
import Derived.Test.YtfelacpaaialfaaDoorIxMath
import Derived.Test.YtfelacpaaialfaaDoorGen
import Derived.Lib.BytesEntry
import Derived.Lib.Bytealg
import Derived.Deep.DeepCutAuto
import Derived.Deep.CutBlock
import Derived.Outline
import Derived.IntWalk
namespace Go.Proofs.YtfelacpaaialfaaDoor
open Go.RowKit
set_option linter.unusedVariables false
set_option linter.unusedSimpArgs false

theorem cmp_lt : ∀ a b : List UInt8, a.length = b.length → (decide (Lib.compareBytes a b < 0)) = ltD a b
  | [], [], _ => rfl
  | [], _ :: _, h => by simp at h
  | _ :: _, [], h => by simp at h
  | a :: x, b :: y, h => by
    have ih := cmp_lt x y (by simpa using h)
    unfold Lib.compareBytes ltD
    by_cases h1 : a.toNat < b.toNat
    · rw [if_pos h1, if_pos (UInt8.lt_iff_toNat_lt.2 h1)]
      rfl
    · rw [if_neg h1, if_neg (fun h => h1 (UInt8.lt_iff_toNat_lt.1 h))]
      by_cases h2 : b.toNat < a.toNat
      · rw [if_pos h2, if_pos (UInt8.lt_iff_toNat_lt.2 h2)]
        rfl
      · rw [if_neg h2, if_neg (fun h => h2 (UInt8.lt_iff_toNat_lt.1 h))]
        exact ih
theorem bytesOf_toNat (l : List UInt8) : Lib.bytesOf (l.map fun b => ((b.toNat : Nat) : Int)) = l := by
  induction l with
  | nil => rfl
  | cons a l ih =>
    unfold Lib.bytesOf at ih ⊢
    rw [List.map_cons, List.map_cons, ih]
    congr 1
    simp
theorem load_dig (w : World) (b o : Nat) (d : List UInt8) (h : w.rangeAt b o (Lib.byteCells d)) :
    (Extern.Bytes.loadBytes ⟨b, o, none⟩ d.length .empty).run Tryd.prog w = .ok ⟨d.toArray⟩ w := by
  have hl := Lib.run_loadBytesX (P := Tryd.prog) w (d.map fun b => ((b.toNat : Nat) : Int)) ⟨b, o, none⟩ .empty (fun j x hj => by
    rw [List.getElem?_map] at hj
    cases hd : d[j]? with
    | none => rw [hd] at hj; cases hj
    | some v =>
      rw [hd] at hj
      injection hj with hj
      subst hj
      have e : (⟨b, o, none⟩ : Addr).add j = ⟨b, o + j, none⟩ := by simp [Addr.add]
      rw [e]
      refine h j _ ?_
      unfold Lib.byteCells
      rw [List.getElem?_map, hd]
      rfl)
  rw [List.length_map, bytesOf_toNat] at hl
  simpa using hl
theorem run_cmp (w : World) (b1 o1 b2 o2 c1 c2 : Nat) (d1 d2 : List UInt8) (h1 : w.rangeAt b1 o1 (Lib.byteCells d1)) (h2 : w.rangeAt b2 o2 (Lib.byteCells d2)) :
    (Extern.BytealgCompare.compare #[.slice (some ⟨b1, o1, none⟩) d1.length c1, .slice (some ⟨b2, o2, none⟩) d2.length c2]).run Tryd.prog w = .ok (.int .i64 (Lib.compareBytes d1 d2)) w := by
  change Sem.run Tryd.prog (do pure (goInt (Extern.BytealgCompare.cmp (← Extern.Bytes.loadBytes ⟨b1, o1, none⟩ d1.length .empty) (← Extern.Bytes.loadBytes ⟨b2, o2, none⟩ d2.length .empty)))) w = _
  simp only [Sem.run_bind, Sem.run_pure, load_dig w b1 o1 d1 h1, load_dig w b2 o2 d2 h2, Result.andThen]
  rw [Lib.cmp_eq]
  rfl

set_option maxHeartbeats 4000000 in
set_option maxRecDepth 100000 in
theorem cmp_any (b1 o1 b2 o2 c1 c2 : Nat) (d1 d2 : List UInt8) (l1 : d1.length = 32) (l2 : d2.length = 32) (w : World) (h1 : w.rangeAt b1 o1 (Lib.byteCells d1)) (h2 : w.rangeAt b2 o2 (Lib.byteCells d2)) :
    Calls Tryd.prog 18 #[.slice (some ⟨b1, o1, none⟩) 32 c1, .slice (some ⟨b2, o2, none⟩) 32 c2] w fun e w' => e = .returned (.int .i64 (Lib.compareBytes d1 d2)) ∧ w' = w := by
  have hr := run_cmp w b1 o1 b2 o2 c1 c2 d1 d2 h1 h2
  rw [l1, l2] at hr
  go_enter Tryd.func18, Tryd.ntmps18
  go_wp2
  rw [run_callFunc_extern Tryd.func33 (by kernel_rfl) (by kernel_rfl) (by kernel_rfl) (e := Extern.BytealgCompare.compare) (by kernel_rfl), hr]
  simp only [Result.andThen]
  rw [Oper.upon_value]
  go_wp2
  go_ret
  exact ⟨rfl, rfl⟩

end Go.Proofs.YtfelacpaaialfaaDoor

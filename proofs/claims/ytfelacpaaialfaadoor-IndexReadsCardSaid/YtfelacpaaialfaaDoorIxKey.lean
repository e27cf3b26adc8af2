/-
  A fingerprint as a map's key.
-/
import Derived.Test.YtfelacpaaialfaaDoorIxMay
import Derived.Maps.OwnSet
import Derived.Maps.Views
import Derived.DeepKeys3
namespace Go.Proofs.YtfelacpaaialfaaDoor
open Go.RowKit
open Go.Maps (Keyed)
set_option linter.unusedVariables false
set_option linter.unusedSimpArgs false

theorem mapM_all {α β : Type} {f : α → Option β} {g : α → β} : ∀ l : List α, (∀ x ∈ l, f x = some (g x)) → l.mapM f = some (l.map g)
  | [], _ => rfl
  | a :: l, h => by
    rw [List.mapM_cons, h a List.mem_cons_self, mapM_all l fun x hx => h x (List.mem_cons_of_mem _ hx)]
    rfl
theorem flat_ones {α β : Type} (h : α → β) : ∀ L : List α, (L.map fun i => [h i]).flatten = L.map h
  | [] => rfl
  | a :: L => by simp [flat_ones h L]
theorem keyBytes_bytes : ∀ l : List UInt8, keyBytes (l.map fun b => Lit.int .u8 (b.toNat : Nat)) = l
  | [] => rfl
  | a :: l => by
    have ih := keyBytes_bytes l
    unfold keyBytes at ih ⊢
    rw [List.map_cons, List.flatMap_cons, ih]
    have h : Lit.keyBytes (.int .u8 (a.toNat : Nat)) = [a] := by
      have ha := a.toNat_lt
      simp only [Lit.keyBytes, IntKind.bits]
      have e : (((a.toNat : Nat) : Int) % 2 ^ 8).toNat = a.toNat := by omega
      rw [e]
      simp [bytesBE, bytesLE, Nat.mod_eq_of_lt ha]
    rw [h]
    rfl
theorem dgWide : (match Tryd.prog.underlying 39 with | some (.array _ _) | some (.struct _) => true | _ => false) = true := by kernel_rfl
set_option maxRecDepth 100000 in
theorem dgKeyed : Keyed Tryd.prog 39 := Go.Maps.Keyed.of_law (deep_law (m := 2) (by omega) (by kernel_rfl) (by kernel_rfl) dgWide)
set_option maxRecDepth 100000 in
theorem keyOf_dg {l : List UInt8} (hl : l.length = 32) : keyOf Tryd.prog 39 (digV l) = some (.string l) := by
  have hu := Tryd.underlying39
  have hb := Tryd.underlying5
  have hc : Tryd.prog.cellsOf 39 = 32 := by kernel_rfl
  have hc1 : Tryd.prog.cellsOf 5 = 1 := by kernel_rfl
  have hkt : Tryd.prog.keyType 39 = true := by kernel_rfl
  obtain ⟨m, hm⟩ : ∃ m, Tryd.prog.types.size = m + 1 := ⟨_, (by kernel_rfl : Tryd.prog.types.size = (Tryd.prog.types.size - 1) + 1)⟩
  have hcl : (Lib.byteCells l).length = 32 := by rw [Lib.byteCells_length, hl]
  have hone : ∀ i ∈ List.range 32, Tryd.prog.keyLits (m + 1) 5 (((Lib.byteCells l).drop (i * 1)).take 1) = some [Lit.int .u8 ((l.getD i 0).toNat : Nat)] := by
    intro i hi
    have hi := List.mem_range.1 hi
    have hg := byteCells_get (l := l) (j := i) (by omega)
    rw [Nat.mul_one]
    have : ((Lib.byteCells l).drop i).take 1 = [.int .u8 ((l.getD i 0).toNat : Nat)] := by
      rw [List.drop_eq_getElem_cons (by omega)]
      have h2 := List.getElem?_eq_getElem (l := Lib.byteCells l) (i := i) (by omega)
      rw [h2] at hg
      injection hg with hg
      rw [hg]
      rfl
    rw [this]
    unfold Program.keyLits
    rw [hb]
    have hlt := (l.getD i 0).toNat_lt
    have hlt2 : (l[i]?.getD 0).toNat < 256 := (l[i]?.getD 0).toNat_lt
    simp [Lit.wf, IntKind.min, IntKind.max, IntKind.signed, IntKind.bits]
    omega
  have hk : Tryd.prog.keyLits (Tryd.prog.types.size + 1) 39 (Lib.byteCells l) = some (l.map fun b => Lit.int .u8 (b.toNat : Nat)) := by
    rw [hm]
    unfold Program.keyLits
    rw [hu]
    simp only [hc, hc1, hcl, if_true]
    rw [mapM_all _ hone]
    simp only [Option.map_some]
    rw [flat_ones]
    have e : (List.range 32).map (fun i => Lit.int .u8 ((l.getD i 0).toNat : Nat)) = l.map fun b => Lit.int .u8 (b.toNat : Nat) := by
      refine List.ext_getElem (by rw [List.length_map, List.length_range, List.length_map, hl]) fun i h1 h2 => ?_
      have hi : i < l.length := by rw [List.length_map] at h2; exact h2
      rw [List.getElem_map, List.getElem_map, List.getElem_range, List.getD, List.getElem?_eq_getElem hi, Option.getD_some]
    rw [e]
  unfold keyOf
  rw [hu]
  simp only [hkt, digV, Value.formed, hu, hc, List.size_toArray, hcl, beq_self_eq_true, Bool.and_self, if_true, Value.cells, List.toList_toArray, hk, Option.map_some, keyBytes_bytes]

end Go.Proofs.YtfelacpaaialfaaDoor

/-
  The keys of a map, sorted: 'slices.Sorted(maps.Keys(m))' at names and at numbers.
-/
import Derived.Test.YtcajhndhjlfmaaaVolPure
import Derived.Shelf.SlIter.Nil
import Derived.Shelf.SlIterI.Nil
import Derived.Shelf.SortM.Plain
import Derived.Shelf.SortM.SortNone
import Derived.Shelf.SlGeneric
import Derived.Ground.GgzProg
import Derived.Ground.SlgmProg
namespace Go.Proofs.Ytcajhndhjlfmaaa
open Go.RowKit Go.Maps Go.Sort Go.Shelf
set_option linter.unusedVariables false

shelf_lay_g SlLaysZI.n7 Ggz 7 at Try 73 as Try.keysI
shelf_lay_g SlLaysZI.n6 Ggz 6 at Try 72 as Try.sortedI
shelf_lay_g SlLaysM.n5 Slgm 5 at Try 86 as Try.sortI
shelf_lay_g SlLaysZ.n7 Ggz 7 at Try 41 as Try.keysS
shelf_lay_g SlLaysZ.n6 Ggz 6 at Try 40 as Try.sortedS
shelf_lay_g SlLaysM.n6 Slgm 6 at Try 70 as Try.sortS

theorem Try.sortsI (m : Nat) : AnyZI.SortsIn Try.prog Try.sortedI_ren Fence.wide m :=
  ⟨fun blk off cap ss W hH hblk hsz => callsIn_wide.2 (AnyM.slices_Sort_int Try.sortI blk off cap ss W hH hblk hsz),
   fun p cap W => callsIn_wide.2 (AnyM.slices_Sort_int_none Try.sortI p cap W)⟩
theorem Try.sortsS (m : Nat) : AnyZ.SortsIn Try.prog Try.sortedS_ren Fence.wide m :=
  ⟨fun blk off cap ss W hH hblk hsz => callsIn_wide.2 (AnyM.slices_Sort_string Try.sortS blk off cap ss W hH hblk hsz),
   fun p cap W => callsIn_wide.2 (AnyM.slices_Sort_string_none Try.sortS p cap W)⟩

theorem keysI_any (b : Nat) (w : World) : Calls Try.prog 73 #[.map (some b)] w fun e w' =>
    e = .returned (.func (.func 87) #[] #[.pointer (some ⟨w.heap.size, 0, none⟩)]) ∧ w' = w.alloc (.cells #[.map (some b)] 91) :=
  callsIn_wide.1 (AnyZI.keys_in Try.keysI Fence.wide 5 trivial rfl (some b) w)
theorem keysS_any (b : Nat) (w : World) : Calls Try.prog 41 #[.map (some b)] w fun e w' =>
    e = .returned (.func (.func 71) #[] #[.pointer (some ⟨w.heap.size, 0, none⟩)]) ∧ w' = w.alloc (.cells #[.map (some b)] 74) :=
  callsIn_wide.1 (AnyZ.keys_in Try.keysS Fence.wide 5 trivial rfl (some b) w)

/-- The numbers of a volume's blocks, rising. -/
theorem sortedI_any (m : Vm) (w : World) (h : VmOk w m) : Calls Try.prog 72 #[.func (.func 87) #[] #[.pointer (some ⟨w.heap.size, 0, none⟩)]] (w.alloc (.cells #[.map (some m.bb)] 91)) fun e w' =>
    ∃ v, e = .returned v ∧ w'.ownsRow (w.heap.size + 1) 3 1 v m.v.cells.length (m.v.cells.map fun c => .int .i64 (c.1 : Nat)) ∧ Below w.heap.size w w' := by
  have hown := h.hc
  have hbl := World.ownsMap.lt hown
  have hsz := cellsD_size m.v.cells
  have hle := h.ok.le
  have hq := h.ok.q
  have hseq : SeqGives Fence.wide 2 Try.prog 87 #[.pointer (some ⟨w.heap.size, 0, none⟩)] encZ (fun ss => ss.Perm (intKeys (cellsD m.v.cells))) (Maps.size (cellsD m.v.cells)) (w.alloc (.cells #[.map (some m.bb)] 91)) :=
    AnyZI.keys_gives (ρ := Try.keysI_ren) { Try.keysI with } Fence.wide _ trivial rfl (by omega) w.heap.size m.bb m.v.cells.length (cellsD m.v.cells) _ (by simp) (by simp) (World.ownsMap.alloc hown _)
  have cS := AnyZI.sorted_in Try.sortedI Fence.wide 5 trivial trivial trivial trivial rfl (by omega) (Try.sortsI _) (enters_of Try.func86 (by kernel_rfl) rfl) 87 #[.pointer (some ⟨w.heap.size, 0, none⟩)] trivial (enters_of Try.func87 (by kernel_rfl) rfl) _ _ (by unfold maxLen; omega) (by omega) _ hseq
  change CallsIn _ _ Try.prog 72 _ _ _ at cS
  refine (callsIn_wide.1 cS).mono ?_
  rintro e w' ⟨v, ss, rfl, hS, hrow, hnil, hb⟩
  have hso := sorted_ints h.ok.rs hS
  have hlen : ss.length = m.v.cells.length := by
    have := congrArg List.length hso
    simpa using this
  refine ⟨v, rfl, ?_, ((Below.refl _ w).alloc (Nat.le_refl _) _).trans (hb.mono (by simp))⟩
  rw [hso, hlen] at hrow
  rw [List.map_map] at hrow
  change w'.ownsRow _ 3 1 v _ _ at hrow
  simpa [Function.comp_def, encZ] using hrow

/-- The names of a set's volumes, rising. -/
theorem sortedS_any (s mb : Nat) (F : Nat → Prop) (M : List Vm) (w : World) (h : SetQ w F s mb M) (hM : M.length ≤ 100000) : Calls Try.prog 40 #[.func (.func 71) #[] #[.pointer (some ⟨w.heap.size, 0, none⟩)]] (w.alloc (.cells #[.map (some mb)] 74)) fun e w' =>
    ∃ v, e = .returned v ∧ w'.ownsRow (w.heap.size + 1) 9 1 v M.length (M.map fun m => .string m.v.name) ∧ Below w.heap.size w w' := by
  have hown := h.hm
  have hbl := World.ownsMap.lt hown
  have hsz := ptrD_size M
  have hseq : SeqGives Fence.wide 2 Try.prog 71 #[.pointer (some ⟨w.heap.size, 0, none⟩)] encStr (fun ss => ss.Perm (strKeys (ptrD M))) (Maps.size (ptrD M)) (w.alloc (.cells #[.map (some mb)] 74)) :=
    AnyZ.keys_gives (ρ := Try.keysS_ren) { Try.keysS with } Fence.wide _ trivial rfl (by omega) w.heap.size mb M.length (ptrD M) _ (by simp) (by simp) (World.ownsMap.alloc hown _)
  have cS := AnyZ.sorted_in Try.sortedS Fence.wide 5 trivial trivial trivial trivial rfl (by omega) (Try.sortsS _) (enters_of Try.func70 (by kernel_rfl) rfl) 71 #[.pointer (some ⟨w.heap.size, 0, none⟩)] trivial (enters_of Try.func71 (by kernel_rfl) rfl) _ _ (by unfold maxLen; omega) (by omega) _ hseq
  change CallsIn _ _ Try.prog 40 _ _ _ at cS
  refine (callsIn_wide.1 cS).mono ?_
  rintro e w' ⟨v, ss, rfl, hS, hrow, hnil, hb⟩
  have hso := sorted_names h.rs hS
  have hlen : ss.length = M.length := by
    have := congrArg List.length hso
    simpa using this
  refine ⟨v, rfl, ?_, ((Below.refl _ w).alloc (Nat.le_refl _) _).trans (hb.mono (by simp))⟩
  rw [hso, hlen] at hrow
  rw [List.map_map] at hrow
  have e1 : (M.map (encStr ∘ key)) = M.map fun m => .string m.v.name := by
    apply List.map_congr_left
    intro m _
    simp [encStr, key]
  rw [e1] at hrow
  change w'.ownsRow _ 9 1 v _ _ at hrow
  simpa using hrow

end Go.Proofs.Ytcajhndhjlfmaaa

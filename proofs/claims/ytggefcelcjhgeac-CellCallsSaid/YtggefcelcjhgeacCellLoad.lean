/-
  Load of the cell.
-/
import Derived.Test.YtggefcelcjhgeacCellBytes
import Derived.Laws.Bits64b
import Derived.Laws.Cover3
namespace Go.Proofs.Ytggefcelcjhgeac
open Go.RowKit
set_option linter.unusedVariables false

theorem or_byte64 {x b : Nat} (hx : x < 72057594037927936) (hb : b < 256) : bits .or .u64 ((x : Int) * 256) (b : Int) = ((x * 256 + b : Nat) : Int) := by
  have e : (x : Int) * 256 = ((x * 256 : Nat) : Int) := by omega
  have h1 := Nat.two_pow_add_eq_or_of_lt (i := 8) (b := b) (by omega) x
  rw [e, bits_or_u64_nat (x * 256) b (by omega) (by omega), Nat.mul_comm x 256]
  exact congrArg (fun n : Nat => (n : Int)) h1.symm

set_option maxHeartbeats 8000000 in
set_option maxRecDepth 100000 in
theorem load_any (l : List UInt8) (w : World) (hl : l.length = 40) :
    Calls Try.prog 20 #[digV l] w (NewPost (un8 (l.take 8)) (l.drop 8) w) := by
  unfold digV
  obtain ⟨V, hV⟩ : ∃ V, V = (Lib.byteCells l).toArray := ⟨_, rfl⟩
  obtain ⟨D, hD⟩ : ∃ D, D = (Lib.byteCells (l.drop 8)).toArray := ⟨_, rfl⟩
  obtain ⟨C, hC⟩ : ∃ C, C = (cellC 0 (l.drop 8)).toArray := ⟨_, rfl⟩
  have hA0 : Arr (w.alloc (.cells V 51)) w.heap.size 51 (Lib.byteCells l) := by rw [hV]; exact Arr.new w _ _
  have hsrc : Hid (∀ j v, D.toList[j]? = some v → (w.alloc (.cells V 51)).cell? ((⟨w.heap.size, 8, none⟩ : Addr).add j) = some v) := by
    have h1 : Arr (w.alloc (.cells V 51)) w.heap.size 51 (Lib.byteCells (l.take 8) ++ Lib.byteCells (l.drop 8)) := by rw [← Lib.byteCells_append, List.take_append_drop]; exact hA0
    have h2 := h1.part 8 (by rw [Lib.byteCells_length, List.length_take]; omega)
    rw [hD]
    exact h2
  have HDi := Lib.hid (show (Try.prog.info? 44).map (·.size) = some D.size by rw [hD, dig_size (n := 32) (by rw [List.length_drop]; omega)]; exact digInfo)
  have HCb := Lib.hid (show Try.prog.built 73 [(1, .agg D)] = some C by rw [hD, hC]; exact cell_built1 _ (by simp [Lib.byteCells, hl]))
  obtain ⟨W, hW⟩ : ∃ W, W = (w.alloc (.cells V 51)).alloc (.cells C 73) := ⟨_, rfl⟩
  have hb : Below w.heap.size w W := by rw [hW]; exact ((Below.refl _ w).alloc (Nat.le_refl _) _).alloc (by simp) _
  have hWs : W.heap.size = w.heap.size + 2 := by rw [hW]; simp
  have hA : Arr W w.heap.size 51 (Lib.byteCells l) := by rw [hW]; exact hA0.alloc _
  have hN : Arr W (w.heap.size + 1) 73 (cellC 0 (l.drop 8)) := by
    have h1 := Arr.new (w.alloc (.cells V 51)) 73 (cellC 0 (l.drop 8))
    rw [hW, hC]; simpa using h1
  rw [← hV]
  have HW := Lib.hid hW
  have HV := Lib.hid hV
  clear hV hD hC hA0 hW
  have hat : ∀ w', (Instr.arrayAt 44 (.slice (some ⟨w.heap.size, 8, none⟩) 32 32)).run Try.prog w' = .ok (.pointer (some ⟨w.heap.size, 8, none⟩)) w' := fun w' => run_arrayAt w' 44 5 32 _ 32 32 Try.underlying44 (by omega)
  go_enter Try.func20, Try.ntmps20
  go_wp2_with (first
    | (refine wpList_load_at rfl _ _ rfl ⟨w.heap.size, 8, none⟩ rfl D _ hsrc.out Try.underlying44 rfl HDi.out ?_)
    | (refine wpList_built rfl _ _ rfl _ rfl C HCb.out ?_))
  change Code.wp _ _ _ _ ((w.alloc (.cells V 51)).alloc (.cells C 73))
  rw [← HW.out]
  obtain ⟨g, hg⟩ : ∃ g, g = w.heap.size + 1 := ⟨_, rfl⟩
  rw [← hg] at hN ⊢
  have hg1 : w.heap.size < g := by omega
  have hg2 : g < W.heap.size := by omega
  have hN0 : Arr W g 73 (cellC (un8 (l.take 0)) (l.drop 8)) := hN
  clear hg hN hsrc HDi HCb HW hat
  go_loopw [13] (fun c wr => ∃ i : Nat, i ≤ 8 ∧ c = .int .i64 i ∧ Arr wr g 73 (cellC (un8 (l.take i)) (l.drop 8)) ∧ Only (fun k => k = g) W wr ∧ wr.heap.size = W.heap.size) (fun c _ => 8 - (intOf c).toNat)
  case atStart => exact ⟨0, by omega, rfl, hN0, Only.refl _ _, rfl⟩
  case round =>
    clear hN0
    obtain ⟨i, hi8, rfl, hAi, ho, hsz⟩ := hrel
    obtain ⟨w1, rfl⟩ : ∃ wo : World, wo = wr := ⟨_, rfl⟩
    by_cases hi : i < 8
    · have hn := un8_take (l := l) (i := i) (by omega)
      have hlt := un8_lt i (l.take i) (by rw [List.length_take]; omega)
      have hp : 256 ^ i ≤ 256 ^ 7 := Nat.pow_le_pow_right (by omega) (by omega)
      have hc : w1.cell? ⟨w.heap.size, i, none⟩ = some (.int .u8 ((l.getD i 0).toNat : Nat)) := by rw [(hA.only ho (show ¬ w.heap.size = g by omega)).cell]; exact byteCells_get (by omega)
      have hx := UInt8.toNat_lt (l.getD i 0)
      have h0 : w1.cell? ⟨g, 0, none⟩ = some (.int .u64 (un8 (l.take i) : Nat)) := hAi.cell 0
      have hfro := hAi.frozen 0
      obtain ⟨y, hy⟩ : ∃ y, un8 (l.take i) = y := ⟨_, rfl⟩
      obtain ⟨x, hxx⟩ : ∃ x, (l.getD i 0).toNat = x := ⟨_, rfl⟩
      rw [hy] at hn hlt h0 hAi
      rw [hxx] at hn hc hx
      have hy2 : y < 72057594037927936 := Nat.lt_of_lt_of_le hlt hp
      have hor := or_byte64 hy2 hx
      have hd1 : decide ((i : Int) < 8) = true := by simp; omega
      have Hn := Lib.hid hn
      have hA2 : Hid (Arr (w1.setCell ⟨g, 0, none⟩ (.int .u64 ((y * 256 + x : Nat) : Int))) g 73 (cellC (y * 256 + x) (l.drop 8))) := hAi.set 0 _
      clear hlt hp hn hy hxx
      go_wp2_with fail
      go_roundw
      case rel =>
        refine ⟨i + 1, by omega, by go_num, ?_, ?_, ?_⟩
        · rw [Hn.out]; exact hA2.out
        · exact ho.setCell (.inl rfl) _
        · simpa [World.setCell] using hsz
      case measure => simp [intOf]; omega
    · obtain rfl : i = 8 := by omega
      have hd1 : decide (((8 : Nat) : Int) < 8) = false := by simp
      go_wp2_with fail
      exact bodyPost_ret (v := .pointer (some ⟨g, 0, none⟩)) (by simp [results, Try.f20]) rfl ⟨g, rfl, by omega, hAi, hb.trans (ho.below (by omega) (by rintro k rfl; omega))⟩

end Go.Proofs.Ytggefcelcjhgeac

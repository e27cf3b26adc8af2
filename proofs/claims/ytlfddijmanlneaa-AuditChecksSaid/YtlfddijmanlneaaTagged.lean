/-
  Tagged: the digest of rows for a use, the program's and the document's.
-/
import Derived.Test.YtlfddijmanlneaaSum
import Derived.Test.YtlfddijmanlneaaBytes
namespace Go.Proofs.Ytlfddijmanlneaa
open Go.RowKit
set_option linter.unusedVariables false

/-- What is digested of rows for a use. -/
def tagF (use : UInt8) (rs : List (List UInt8)) : List UInt8 := use :: rs.flatMap fun r => Lib.uvarint r.length ++ r

/-- Rows of bytes, as they lie in memory. -/
def RowsAt (w : World) (B : Nat) (A : Option Addr) (rs : List (List UInt8)) : Prop :=
  0 < rs.length → ∃ blk off, A = some ⟨blk, off, none⟩ ∧ blk < B ∧ ∀ i, i < rs.length → ∃ A' c, w.cell? ⟨blk, off + i, none⟩ = some (.slice A' (rs.getD i []).length c) ∧ (rs.getD i []).length ≤ c ∧ c ≤ maxLen ∧ Bs w B A' (rs.getD i [])

theorem RowsAt.keep {w w' : World} {B : Nat} {A : Option Addr} {rs : List (List UInt8)} (h : RowsAt w B A rs) (hk : ∀ b o, b < B → w'.cell? ⟨b, o, none⟩ = w.cell? ⟨b, o, none⟩) : RowsAt w' B A rs := fun hn => by
  obtain ⟨blk, off, e, hb, hr⟩ := h hn
  refine ⟨blk, off, e, hb, fun i hi => ?_⟩
  obtain ⟨A', c, h1, h2, h3, h4⟩ := hr i hi
  exact ⟨A', c, (hk _ _ hb).trans h1, h2, h3, h4.keep hk⟩
theorem RowsAt.more {w : World} {B B' : Nat} {A : Option Addr} {rs : List (List UInt8)} (h : RowsAt w B A rs) (hB : B ≤ B') : RowsAt w B' A rs := fun hn => by
  obtain ⟨blk, off, e, hb, hr⟩ := h hn
  refine ⟨blk, off, e, by omega, fun i hi => ?_⟩
  obtain ⟨A', c, h1, h2, h3, h4⟩ := hr i hi
  exact ⟨A', c, h1, h2, h3, h4.more hB⟩
theorem RowsAt.below {w w' : World} {B B' : Nat} {A : Option Addr} {rs : List (List UInt8)} (h : RowsAt w B A rs) (hb : Below B' w w') (hB : B ≤ B') : RowsAt w' B A rs :=
  h.keep fun b o hlt => hb.cell (p := ⟨b, o, none⟩) (show b < B' by omega)

theorem tagF_snoc (use : UInt8) (rs : List (List UInt8)) {k : Nat} (hk : k < rs.length) : tagF use (rs.take (k + 1)) = tagF use (rs.take k) ++ (Lib.uvarint (rs.getD k []).length ++ rs.getD k []) := by
  unfold tagF
  rw [List.take_succ_eq_append_getElem hk, List.flatMap_append]
  simp [List.getD, hk]
theorem tagF_le (use : UInt8) (rs : List (List UInt8)) (k : Nat) : (tagF use (rs.take k)).length ≤ (tagF use rs).length := by
  have h : rs = rs.take k ++ rs.drop k := (List.take_append_drop k rs).symm
  have h2 : tagF use rs = tagF use (rs.take k) ++ ((rs.drop k).flatMap fun r => Lib.uvarint r.length ++ r) := by
    conv => lhs; rw [h]
    unfold tagF
    rw [List.flatMap_append]
    rfl
  rw [h2, List.length_append]
  omega

def TagPost (use : UInt8) (rs : List (List UInt8)) (w : World) (e : Ending) (w' : World) : Prop :=
  e = .returned (digV (shaF (tagF use rs))) ∧ Below w.heap.size w w'

set_option maxHeartbeats 8000000 in
set_option maxRecDepth 100000 in
theorem tagged_any (use : UInt8) (rs : List (List UInt8)) (A : Option Addr) (n c : Nat) (w : World) (hn : rs.length = n) (hn2 : n ≤ 1000000) (hr : RowsAt w w.heap.size A rs) (hlim : (tagF use rs).length ≤ 1000000) :
    Calls Try.prog 69 #[.int .u8 (use.toNat : Nat), .slice A n c] w (TagPost use rs w) := by
  have hul : use.toNat < 256 := UInt8.toNat_lt _
  obtain ⟨W1, hW1⟩ : ∃ W1, W1 = w.alloc (.cells (Lib.byteCells zeros).toArray 24) := ⟨_, rfl⟩
  have hW1s : W1.heap.size = w.heap.size + 1 := by rw [hW1]; simp
  have hR1 : Arr W1 w.heap.size 24 (Lib.byteCells zeros) := by rw [hW1]; exact Arr.new w _ _
  have hb1 : Below w.heap.size w W1 := by rw [hW1]; exact (Below.refl _ w).alloc (Nat.le_refl _) _
  have hown1 : Owns (W1.alloc (.cells #[.int .u8 (use.toNat : Nat)] 5)) W1.heap.size 5 (.slice (some ⟨W1.heap.size, 0, none⟩) 1 1) (tagF use (rs.take 0)) := by
    have h := Owns.of_row (w := W1.alloc (.cells #[.int .u8 (use.toNat : Nat)] 5)) (B := W1.heap.size) (T := 5) (g := W1.heap.size) (c := 1) (l := [use]) (cur := [.int .u8 (use.toNat : Nat)]) (Nat.le_refl _) (Nat.le_refl _) (by unfold maxLen; omega) (heap_alloc_new W1 _) rfl rfl
    simpa [tagF] using h
  have hb2 : Below W1.heap.size W1 (W1.alloc (.cells #[.int .u8 (use.toNat : Nat)] 5)) := (Below.refl _ W1).alloc (Nat.le_refl _) _
  have HW1 := Lib.hid hW1
  have Hn := Lib.hid hn
  obtain ⟨B1, hB1⟩ : ∃ B, B = w.heap.size + 1 := ⟨_, rfl⟩
  rw [hW1s, ← hB1] at hown1 hb2
  have hB1w : w.heap.size < B1 := by omega
  have hB1s : B1 ≤ W1.heap.size := by omega
  obtain ⟨u, hu⟩ : ∃ u, use.toNat = u := ⟨_, rfl⟩
  rw [hu] at hown1 hb2 hul ⊢
  have Hu := Lib.hid hu
  have HB1 := Lib.hid hB1
  clear hW1 hn hW1s hu hB1
  go_enter Try.func69, Try.ntmps69
  go_wp2_with fail
  change Code.wp _ _ _ _ ((w.alloc (.cells (Lib.byteCells zeros).toArray 24)).alloc (.cells #[.int .u8 (u : Nat)] 5))
  rw [← HW1.out, show w.heap.size + 1 = B1 from HB1.out.symm]
  go_loopw [5, 12] (fun v i wr => ∃ k : Nat, k ≤ n ∧ i = .int .i64 k ∧ Owns wr B1 5 v (tagF use (rs.take k)) ∧ Below B1 W1 wr) (fun _ i _ => n - (intOf i).toNat)
  case atStart => exact ⟨0, by omega, rfl, hown1, hb2⟩
  case round =>
    clear hown1 hb2
    obtain ⟨k, hk, rfl, hown, hbel⟩ := hrel
    have hbz := hbel.size
    by_cases hlt : k < n
    · have hkr : k < rs.length := by rw [Hn.out]; exact hlt
      have hrr : RowsAt wr w.heap.size A rs := (hr.below hb1 (Nat.le_refl _)).below hbel (by omega)
      obtain ⟨blk, off, rfl, hblk, hrow⟩ := hrr (by omega)
      obtain ⟨A', c', hcell, hlc, hcm, hbs⟩ := hrow k hkr
      have hsn := tagF_snoc use rs hkr
      have hle := tagF_le use rs (k + 1)
      rw [hsn] at hle
      obtain ⟨r, hre⟩ : ∃ r, rs.getD k [] = r := ⟨_, rfl⟩
      rw [hre] at hcell hlc hbs hsn hle
      obtain ⟨Y, hY⟩ : ∃ Y, tagF use (rs.take k) = Y := ⟨_, rfl⟩
      rw [hY] at hown hsn hle
      simp only [List.length_append] at hle
      have hki : (k : Int) < (n : Int) := by omega
      have hd1 : decide (k < n) = true := by simp; omega
      have Hsn := Lib.hid hsn
      have hlt1 := hown.lt
      clear hsn hre hY hrow
      go_wp2_with (go_at_call 30; refine Calls.mono (bytes_any B1 _ Y r A' c' wr hown (by omega) (hbs.more (by omega)) hlc (by omega)) ?_; rintro e w5 ⟨v5, rfl, hown5, hgr5⟩)
      have hb5 : Below B1 W1 w5 := hbel.trans (hgr5.below (by omega) (fun j hj => (hlt1 j hj).1))
      go_roundw
      case rel => exact ⟨k + 1, by omega, by go_num, by rw [Hsn.out]; exact hown5, hb5⟩
      case measure => simp [intOf]; omega
    · have hkn : k = n := by omega
      have hd1 : decide (k < n) = false := by simp; omega
      have htk : rs.take k = rs := List.take_of_length_le (by rw [Hn.out]; omega)
      rw [htk] at hown
      obtain ⟨A6, c6, rfl, h61, h62, h63⟩ := hown.slice
      obtain ⟨L, hL⟩ : ∃ L, tagF use rs = L := ⟨_, rfl⟩
      rw [hL] at hlim h61 h63 ⊢
      obtain ⟨m, hm⟩ : ∃ m, L.length = m := ⟨_, rfl⟩
      rw [hm] at hlim h61 ⊢
      have Hm := Lib.hid hm
      have HL := Lib.hid hL
      have hRr : Arr wr w.heap.size 24 (Lib.byteCells zeros) := hR1.below hbel (by omega)
      have hBw : Below w.heap.size w wr := hb1.trans (hbel.mono (by omega))
      obtain ⟨k0, rfl⟩ : ∃ x, x = k := ⟨_, rfl⟩
      clear hown htk hkn hm hL hR1 hlt
      obtain ⟨DV, hDV⟩ : ∃ DV, DV = (Lib.byteCells (shaF L)).toArray := ⟨_, rfl⟩
      have hDs : DV.size = 32 := by rw [hDV]; simp [Lib.byteCells, shaF_length]
      have HDi := Lib.hid (show (Try.prog.info? 24).map (·.size) = some DV.size by rw [hDs]; exact digInfo)
      have HD1 := Lib.hid (show DV.all (·.oneCell') = true by rw [hDV]; simpa using byteCells_one (shaF L))
      have Hzs := Lib.hid (show (Lib.byteCells zeros).toArray.size = DV.size by rw [hDs]; simp [Lib.byteCells, zeros])
      have HDV := Lib.hid hDV
      clear hDV hDs
      go_wp2_with fail
      refine Calls.mono (sum_any L A6 c6 m wr Hm.out h63 h61 h62 (by omega)) ?_
      rintro e w5 ⟨rfl, hb5⟩
      unfold digV
      rw [← HDV.out]
      have hR5 : Hid (w5.heap[w.heap.size]? = some (.cells (Lib.byteCells zeros).toArray 24 (0, 0))) := hRr.below hb5 (by omega)
      go_wp2_with (refine wpList_store_row rfl _ _ _ rfl w.heap.size DV rfl rfl 24 _ hR5.out HDi.out Hzs.out HD1.out ?_)
      have hset : Hid ((w5.setRow w.heap.size DV).heap[w.heap.size]? = some (.cells DV 24 (0, 0))) := setRow_heap w5 w.heap.size _ DV _ _ hR5.out
      have hbf : Below w.heap.size w (w5.setRow w.heap.size DV) := (hBw.trans (hb5.mono (by omega))).trans (((Only.refl (fun k => k = w.heap.size) w5).setRow (.inl rfl) DV).below (by have := hb5.size; omega) (by rintro k rfl; omega))
      exact bodyPost_ret (v := .agg DV) (results_cell_row (by rfl) _ _ w.heap.size 24 DV (0, 0) _ (by rfl) hset.out Try.underlying24 rfl HDi.out) rfl ⟨by unfold digV; rw [HDV.out, HL.out], hbf⟩

end Go.Proofs.Ytlfddijmanlneaa

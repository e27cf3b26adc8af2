/-
  RefNum RTagged ShaAt TrieSumC TrieSum TrieSumD TrieRoot Items R8Find R8Drop R8Less: texts on the way to the laws, as one.
-/
import Derived.Test.YtblgmnjegkfoaaaGreatK03
import Derived.Test.YtblgmnjegkfoaaaGreatK01
import Derived.Lib.AppendZeros
import Derived.Test.YtblgmnjegkfoaaaGreatK05
import Derived.Test.YtblgmnjegkfoaaaGreatK11
import Derived.Test.YtblgmnjegkfoaaaGreatK08
import Derived.Test.YtblgmnjegkfoaaaGreatK09
import Derived.Maps.AppendAt
import Derived.Deep.DeepCutAuto
import Derived.Deep.CutBlock
import Derived.Deep.RegionHeld3
import Derived.IntWalk
set_option maxRecDepth 100000
namespace Go.Proofs.YtblgmnjegkfoaaaGreat
open Go.RowKit
set_option linter.unusedVariables false

def RefPost (B : Nat) (sv : Value) (l : List UInt8) (w : World) (e : Ending) (w' : World) : Prop :=
  ∃ v', e = .returned v' ∧ Owns w' B 5 v' l ∧ Grew w w' sv v'

set_option maxHeartbeats 4000000 in
set_option maxRecDepth 100000 in
theorem rnumber_any (B x : Nat) (hx : x < 18446744073709551616) (sv : Value) (bs : List UInt8) (w : World) (hown : Owns w B 5 sv bs) (hBw : B ≤ w.heap.size) (hlim : bs.length + 10 ≤ 140737488355328) :
    Calls Tryz.prog 52 #[sv, .int .u64 x] w (RefPost B sv (bs ++ Lib.uvarint x) w) := by
  obtain ⟨i0, hi, hz0, hz1, hz2⟩ := info_parts byteInfo
  have hlen := Lib.uvarint_length64 hx
  go_enter Tryz.func52, Tryz.ntmps52
  go_wp2
  go_loopw [0, 1, 5] (fun vb vx vi wr => ∃ (y i : Nat) (pre : List UInt8), vx = .int .u64 y ∧ vi = .int .i64 i ∧ i ≤ 9 ∧ pre.length = i ∧ y ≤ x ∧ Hid (Lib.uvarint x = pre ++ Lib.uvarint y) ∧ Owns wr B 5 vb (bs ++ pre) ∧ Grew w wr sv vb)
    (fun _ vx _ _ => (intOf vx).toNat)
  case atStart => exact ⟨x, 0, [], rfl, rfl, by omega, rfl, Nat.le_refl _, rfl, by simpa using hown, Grew.refl _ _⟩
  case round =>
    obtain ⟨y, i, pre, rfl, rfl, hi9, hpi, hy, Hs, hown1, hgr⟩ := hrel
    have hpl : pre.length + (Lib.uvarint y).length ≤ 10 := by
      have h2 := congrArg List.length Hs.out
      rw [List.length_append] at h2
      omega
    have hyp := Lib.uvarint_pos y
    have hsz := hgr.1.size
    have hle : (bs ++ pre).length + 1 ≤ 140737488355328 := by rw [List.length_append]; omega
    have Hpi := Lib.hid hpi
    by_cases h128 : 128 ≤ y
    · have hi8 : i + 1 ≤ 9 := by
        rw [Lib.uvarint_big h128, List.length_cons] at hpl
        have := Lib.uvarint_pos (y / 128)
        omega
      have hq : (((y : Int) / 128) == 0) = false := by rw [beq_eq_false_iff_ne]; omega
      clear hpi
      go_wp2_with (at_builtin; refine wpList_append_own_at _ rfl _ _ 38 rfl B 5 i0 (.int .u8 0) 1 1 Tryz.underlying38 hi hz0 hz1 hz2 rfl (by decide) _ _ _ rfl (World.ownsRow.alloc hown1 _) ⟨wr.heap.size, 0, none⟩ 1 1 [Value.int .u8 ((y % 128 + 128 : Nat) : Int)] rfl rfl ?c1 ?c2 ?c3 ?c4 ?c5 ?_)
      case c1 =>
        intro j u hj
        match j, hj with
        | 0, hj => simp at hj; subst hj; simp [Addr.add]
      case c2 => intro u hu; simp at hu; subst hu; rfl
      case c3 => unfold maxLen; omega
      case c4 => omega
      case c5 => simp; omega
      intro v' w1 hown' hgrow _ hplace
      have hgr1 : Grew w w1 sv v' := (hgr.alloc _).step hgrow (by simpa using hplace)
      go_wp2
      go_roundw
      case rel =>
        refine ⟨y / 128, i + 1, pre ++ [(y % 128 + 128).toUInt8], by go_num, by go_num, hi8, by rw [List.length_append, Hpi.out]; rfl, by omega, (show _ = _ by rw [Hs.out, Lib.uvarint_big h128]; simp), ?_, hgr1⟩
        rw [← List.append_assoc]
        exact Owns.snoc (by omega) (by rw [List.length_append]) (by omega) hown'
      case measure => simp [intOf]; omega
    · have Hm := Lib.hid (Lib.uvarint_small (x := y) (by omega))
      have hq : (((y : Int) / 128) == 0) = true := by rw [beq_iff_eq]; omega
      have hy1 : y < 128 := by omega
      clear hpi h128
      go_wp2_with (at_builtin; refine wpList_append_own_at _ rfl _ _ 38 rfl B 5 i0 (.int .u8 0) 1 1 Tryz.underlying38 hi hz0 hz1 hz2 rfl (by decide) _ _ _ rfl (World.ownsRow.alloc hown1 _) ⟨wr.heap.size, 0, none⟩ 1 1 [Value.int .u8 ((y : Int) % 128)] rfl rfl ?c1 ?c2 ?c3 ?c4 ?c5 ?_)
      case c1 =>
        intro j u hj
        match j, hj with
        | 0, hj => simp at hj; subst hj; simp [Addr.add]
      case c2 => intro u hu; simp at hu; subst hu; rfl
      case c3 => unfold maxLen; omega
      case c4 => omega
      case c5 => simp; omega
      intro v' w1 hown' hgrow _ hplace
      have hgr1 : Grew w w1 sv v' := (hgr.alloc _).step hgrow (by simpa using hplace)
      go_wp2
      go_ret
      refine ⟨v', rfl, ?_, hgr1⟩
      rw [Hs.out, Hm.out, ← List.append_assoc]
      exact Owns.snoc (by omega) (by rw [List.length_append]) (by omega) hown'

set_option maxHeartbeats 4000000 in
set_option maxRecDepth 100000 in
theorem rbytes_any (B : Nat) (sv : Value) (out bs : List UInt8) (A : Option Addr) (c : Nat) (w : World) (hown : Owns w B 5 sv out) (hB : B ≤ w.heap.size) (hb : Bs w B A bs)
    (hlim : out.length + bs.length + 20 ≤ 140737488355328) :
    Calls Tryz.prog 45 #[sv, .slice A bs.length c] w (RefPost B sv (out ++ (Lib.uvarint bs.length ++ bs)) w) := by
  obtain ⟨i0, hi, hz0, hz1, hz2⟩ := info_parts byteInfo
  have hlt := hown.lt
  have hk2 := Lib.uvarint_length64 (x := bs.length) (by omega)
  go_enter Tryz.func45, Tryz.ntmps45
  go_wp2_with fail
  refine (rnumber_any B bs.length (by omega) sv out w hown hB (by omega)).mono ?_
  rintro e w1 ⟨v1, rfl, hown1, hg1⟩
  have hB1 := Nat.le_trans hB hg1.1.size
  have hb1 := hb.below (hg1.below hB (fun k hk => (hlt k hk).1)) (Nat.le_refl _)
  have hX1 := Lib.hid (byteCells_one bs)
  have hl1 := Lib.hid (show (Lib.byteCells bs).length = bs.length * 1 by simp [Lib.byteCells])
  have hln : (out ++ Lib.uvarint bs.length).length + bs.length ≤ 140737488355328 := by rw [List.length_append]; omega
  rcases A with _ | ad
  · have hl0 : bs.length = 0 := by
      rcases Nat.eq_zero_or_pos bs.length with e | e
      · exact e
      · obtain ⟨_, _, e, _⟩ := hb e; cases e
    obtain rfl : bs = [] := List.eq_nil_of_length_eq_zero hl0
    clear hl0
    have hrun : ∀ c ty, (Builtin.append_ #[38, 38] ty #[v1, .slice none 0 c]).run Tryz.prog w1 = .ok v1 w1 := by
      intro c ty
      exact run_append_nothing w1 B _ ty _ i0 1 Tryz.underlying38 hi v1 _ _ hown1 c
    go_wp2_with (at_builtin; refine Lib.wpList_append_run _ rfl _ _ _ _ rfl _ _ rfl rfl _ _ (hrun _ _) ?_)
    go_ret
    exact ⟨v1, rfl, by simpa using hown1, hg1⟩
  · have hcells : ∀ j v, (Lib.byteCells bs)[j]? = some v → w1.cell? (ad.add j) = some v := by
      intro j v hj
      obtain ⟨ad', e, hc⟩ := hb1.cells (by have := (List.getElem?_eq_some_iff.1 hj).1; omega)
      injection e with e
      subst e
      exact hc j v hj
    have Hc := Lib.hid hcells
    clear hcells
    go_wp2_with (at_builtin; refine wpList_append_own_at _ rfl _ _ 38 rfl B 5 i0 (.int .u8 0) 1 1 Tryz.underlying38 hi hz0 hz1 hz2 rfl (by decide) _ _ _ rfl hown1 ad bs.length c (Lib.byteCells bs) rfl hl1.out Hc.out hX1.out ?c3 ?c4 hB1 ?_)
    case c3 => unfold maxLen; omega
    case c4 => omega
    intro v' w2 hown' hgrow _ hplace
    go_wp2
    go_ret
    refine ⟨v', rfl, ?_, hg1.step hgrow hplace⟩
    have : out ++ (Lib.uvarint bs.length ++ bs) = (out ++ Lib.uvarint bs.length) ++ bs := by simp
    rw [this]
    unfold Owns
    rw [Lib.byteCells_append, List.length_append (bs := bs)]
    simpa using hown'

end Go.Proofs.YtblgmnjegkfoaaaGreat

namespace Go.Proofs.YtblgmnjegkfoaaaGreat
open Go.RowKit
set_option linter.unusedVariables false

set_option maxHeartbeats 8000000 in
set_option maxRecDepth 100000 in
theorem rtagged_any (use : UInt8) (rs : List (List UInt8)) (A : Option Addr) (n c : Nat) (w : World) (hn : rs.length = n) (hn2 : n ≤ 1000000) (hr : RowsAt w w.heap.size A rs) (hlim : (tagF use rs).length ≤ 1000000) :
    Calls Tryz.prog 24 #[.int .u8 (use.toNat : Nat), .slice A n c] w (TagPost use rs w) := by
  have hul : use.toNat < 256 := UInt8.toNat_lt _
  obtain ⟨W1, hW1⟩ : ∃ W1, W1 = w.alloc (.cells (Lib.byteCells zeros).toArray 24) := ⟨_, rfl⟩
  have hW1s : W1.heap.size = w.heap.size + 1 := by rw [hW1]; simp
  have hR1 : Arr W1 w.heap.size 24 (Lib.byteCells zeros) := by rw [hW1]; exact Arr.new w _ _
  have hb1 : Below w.heap.size w W1 := by rw [hW1]; exact (Below.refl _ w).alloc (Nat.le_refl _) _
  have hown1 : Owns (W1.alloc (.cells #[.int .u8 (use.toNat : Nat)] 5)) W1.heap.size 5 (.slice (some ⟨W1.heap.size, 0, none⟩) 1 1) (tagF use (rs.take 0)) := by
    have h := Owns.of_row (w := W1.alloc (.cells #[.int .u8 (use.toNat : Nat)] 5)) (B := W1.heap.size) (T := 5) (g := W1.heap.size) (c := 1) (l := [use]) (cur := [.int .u8 (use.toNat : Nat)]) (Nat.le_refl _) (Nat.le_refl _) (by unfold maxLen; omega) (heap_alloc_new W1 _) rfl rfl
    simpa [tagF] using h
  have hb2 : Below W1.heap.size W1 (W1.alloc (.cells #[.int .u8 (use.toNat : Nat)] 5)) := (Below.refl _ W1).alloc (Nat.le_refl _) _
  have HW1 := Lib.hid hW1
  have Hn := Lib.hid hn
  obtain ⟨B1, hB1⟩ : ∃ B, B = w.heap.size + 1 := ⟨_, rfl⟩
  rw [hW1s, ← hB1] at hown1 hb2
  have hB1w : w.heap.size < B1 := by omega
  have hB1s : B1 ≤ W1.heap.size := by omega
  obtain ⟨u, hu⟩ : ∃ u, use.toNat = u := ⟨_, rfl⟩
  rw [hu] at hown1 hb2 hul ⊢
  have Hu := Lib.hid hu
  have HB1 := Lib.hid hB1
  clear hW1 hn hW1s hu hB1
  go_enter Tryz.func24, Tryz.ntmps24
  go_wp2_with fail
  change Code.wp _ _ _ _ ((w.alloc (.cells (Lib.byteCells zeros).toArray 24)).alloc (.cells #[.int .u8 (u : Nat)] 5))
  rw [← HW1.out, show w.heap.size + 1 = B1 from HB1.out.symm]
  go_loopw [5, 6] (fun v i wr => ∃ k : Nat, k ≤ n ∧ i = .int .i64 k ∧ Owns wr B1 5 v (tagF use (rs.take k)) ∧ Below B1 W1 wr) (fun _ i _ => n - (intOf i).toNat)
  case atStart => exact ⟨0, by omega, rfl, hown1, hb2⟩
  case round =>
    clear hown1 hb2
    obtain ⟨k, hk, rfl, hown, hbel⟩ := hrel
    have hbz := hbel.size
    by_cases hlt : k < n
    · have hkr : k < rs.length := by rw [Hn.out]; exact hlt
      have hrr : RowsAt wr w.heap.size A rs := (hr.below hb1 (Nat.le_refl _)).below hbel (by omega)
      obtain ⟨blk, off, rfl, hblk, hrow⟩ := hrr (by omega)
      obtain ⟨A', c', hcell, hlc, hcm, hbs⟩ := hrow k hkr
      have hsn := tagF_snoc use rs hkr
      have hle := tagF_le use rs (k + 1)
      rw [hsn] at hle
      obtain ⟨r, hre⟩ : ∃ r, rs.getD k [] = r := ⟨_, rfl⟩
      rw [hre] at hcell hlc hbs hsn hle
      obtain ⟨Y, hY⟩ : ∃ Y, tagF use (rs.take k) = Y := ⟨_, rfl⟩
      rw [hY] at hown hsn hle
      simp only [List.length_append] at hle
      have hki : (k : Int) < (n : Int) := by omega
      have hd1 : decide (k < n) = true := by simp; omega
      have Hsn := Lib.hid hsn
      have hlt1 := hown.lt
      clear hsn hre hY hrow
      go_wp2_with (go_at_call 45; refine Calls.mono (rbytes_any B1 _ Y r A' c' wr hown (by omega) (hbs.more (by omega)) (by omega)) ?_; rintro e w5 ⟨v5, rfl, hown5, hgr5⟩)
      have hb5 : Below B1 W1 w5 := hbel.trans (hgr5.below (by omega) (fun j hj => (hlt1 j hj).1))
      go_roundw
      case rel => exact ⟨k + 1, by omega, by go_num, by rw [Hsn.out]; exact hown5, hb5⟩
      case measure => simp [intOf]; omega
    · have hkn : k = n := by omega
      have hd1 : decide (k < n) = false := by simp; omega
      have htk : rs.take k = rs := List.take_of_length_le (by rw [Hn.out]; omega)
      rw [htk] at hown
      obtain ⟨A6, c6, rfl, h61, h62, h63⟩ := hown.slice
      obtain ⟨L, hL⟩ : ∃ L, tagF use rs = L := ⟨_, rfl⟩
      rw [hL] at hlim h61 h63 ⊢
      obtain ⟨m, hm⟩ : ∃ m, L.length = m := ⟨_, rfl⟩
      rw [hm] at hlim h61 ⊢
      have Hm := Lib.hid hm
      have HL := Lib.hid hL
      have hRr : Arr wr w.heap.size 24 (Lib.byteCells zeros) := hR1.below hbel (by omega)
      have hBw : Below w.heap.size w wr := hb1.trans (hbel.mono (by omega))
      obtain ⟨k0, rfl⟩ : ∃ x, x = k := ⟨_, rfl⟩
      clear hown htk hkn hm hL hR1 hlt
      obtain ⟨DV, hDV⟩ : ∃ DV, DV = (Lib.byteCells (shaF L)).toArray := ⟨_, rfl⟩
      have hDs : DV.size = 32 := by rw [hDV]; simp [Lib.byteCells, shaF_length]
      have HDi := Lib.hid (show (Tryz.prog.info? 24).map (·.size) = some DV.size by rw [hDs]; exact digInfo)
      have HD1 := Lib.hid (show DV.all (·.oneCell') = true by rw [hDV]; simpa using byteCells_one (shaF L))
      have Hzs := Lib.hid (show (Lib.byteCells zeros).toArray.size = DV.size by rw [hDs]; simp [Lib.byteCells, zeros])
      have HDV := Lib.hid hDV
      clear hDV hDs
      go_wp2_with fail
      refine Calls.mono (rsum_any L A6 c6 m wr Hm.out h63 h61 (by omega)) ?_
      rintro e w5 ⟨rfl, hb5⟩
      unfold digV
      rw [← HDV.out]
      have hR5 : Hid (w5.heap[w.heap.size]? = some (.cells (Lib.byteCells zeros).toArray 24 (0, 0))) := hRr.below hb5 (by omega)
      go_wp2_with (refine wpList_store_row rfl _ _ _ rfl w.heap.size DV rfl rfl 24 _ hR5.out HDi.out Hzs.out HD1.out ?_)
      have hset : Hid ((w5.setRow w.heap.size DV).heap[w.heap.size]? = some (.cells DV 24 (0, 0))) := setRow_heap w5 w.heap.size _ DV _ _ hR5.out
      have hbf : Below w.heap.size w (w5.setRow w.heap.size DV) := (hBw.trans (hb5.mono (by omega))).trans (((Only.refl (fun k => k = w.heap.size) w5).setRow (.inl rfl) DV).below (by have := hb5.size; omega) (by rintro k rfl; omega))
      exact bodyPost_ret (v := .agg DV) (results_cell_row (by rfl) _ _ w.heap.size 24 DV (0, 0) _ (by rfl) hset.out Tryz.underlying24 rfl HDi.out) rfl ⟨by unfold digV; rw [HDV.out, HL.out], hbf⟩

end Go.Proofs.YtblgmnjegkfoaaaGreat

namespace Go.Proofs.YtblgmnjegkfoaaaGreat
open Go.RowKit
set_option linter.unusedVariables false

theorem sum_at (l : List UInt8) (SL : List Value) (A : Option Addr) (c n : Nat) (w : World) (hS : SL = Lib.byteCells (shaF l)) (hn : l.length = n) (hb : Bs w w.heap.size A l) (hc : n ≤ c) (hcm : c ≤ maxLen) (hm : n ≤ 140737488355000) :
    Calls Tryz.prog 49 #[.slice A n c] w fun e w' => e = .returned (.agg SL.toArray) ∧ Below w.heap.size w w' := by
  subst hS; exact sum_any l A c n w hn hb hc hcm hm
theorem rsum_at (l : List UInt8) (SL : List Value) (A : Option Addr) (c n : Nat) (w : World) (hS : SL = Lib.byteCells (shaF l)) (hn : l.length = n) (hb : Bs w w.heap.size A l) (hc : n ≤ c) (hm : n ≤ 140737488355000) :
    Calls Tryz.prog 46 #[.slice A n c] w fun e w' => e = .returned (.agg SL.toArray) ∧ Below w.heap.size w w' := by
  subst hS; exact rsum_any l A c n w hn hb hc hm
theorem tag_at (use : UInt8) (u : Nat) (rs : List (List UInt8)) (SL : List Value) (A : Option Addr) (n c : Nat) (w : World) (hu : use.toNat = u) (hS : SL = Lib.byteCells (shaF (tagF use rs))) (hn : rs.length = n) (hn2 : n ≤ 1000000) (hr : RowsAt w w.heap.size A rs) (hlim : (tagF use rs).length ≤ 1000000) :
    Calls Tryz.prog 27 #[.int .u8 (u : Nat), .slice A n c] w fun e w' => e = .returned (.agg SL.toArray) ∧ Below w.heap.size w w' := by
  subst hS hu; exact tagged_any use rs A n c w hn hn2 hr hlim
theorem rtag_at (use : UInt8) (u : Nat) (rs : List (List UInt8)) (SL : List Value) (A : Option Addr) (n c : Nat) (w : World) (hu : use.toNat = u) (hS : SL = Lib.byteCells (shaF (tagF use rs))) (hn : rs.length = n) (hn2 : n ≤ 1000000) (hr : RowsAt w w.heap.size A rs) (hlim : (tagF use rs).length ≤ 1000000) :
    Calls Tryz.prog 24 #[.int .u8 (u : Nat), .slice A n c] w fun e w' => e = .returned (.agg SL.toArray) ∧ Below w.heap.size w w' := by
  subst hS hu; exact rtagged_any use rs A n c w hn hn2 hr hlim

theorem flat_bound : ∀ (rs : List (List UInt8)), (∀ r ∈ rs, r.length ≤ 300) → (rs.flatMap fun r => Lib.uvarint r.length ++ r).length ≤ 310 * rs.length
  | [], _ => by simp
  | r :: rs, h => by
    have h1 := flat_bound rs fun x hx => h x (by simp [hx])
    have h3 := h r (by simp)
    have h2 := Lib.uvarint_length64 (x := r.length) (by omega)
    simp only [List.flatMap_cons, List.length_append, List.length_cons]
    omega
theorem tagF_bound (use : UInt8) (rs : List (List UInt8)) (h : ∀ r ∈ rs, r.length ≤ 300) : (tagF use rs).length ≤ 310 * rs.length + 1 := by
  have := flat_bound rs h
  unfold tagF
  simp only [List.length_cons]
  omega

end Go.Proofs.YtblgmnjegkfoaaaGreat

namespace Go.Proofs.YtblgmnjegkfoaaaGreat
open Go.RowKit
set_option linter.unusedVariables false
set_option linter.unusedSimpArgs false

theorem nd_rows_one {w : World} {B : Nat} {A : Option Addr} {l : List UInt8} {n c : Nat} (T : TypeId) (hn : l.length = n) (hc : n ≤ c) (hm : c ≤ maxLen) (h : Bs w B A l) (hB : B ≤ w.heap.size) :
    RowsAt (w.alloc (.cells #[.slice A n c] T)) (w.heap.size + 1) (some ⟨w.heap.size, 0, none⟩) [l] := fun _ => by
  subst hn
  have ha := Arr.new w T [.slice A l.length c]
  have hb : Below w.heap.size w (w.alloc (.cells #[.slice A l.length c] T)) := (Below.refl _ w).alloc (Nat.le_refl _) _
  refine ⟨w.heap.size, 0, rfl, by omega, fun i hi => ?_⟩
  have hi2 : i = 0 := by simp at hi; omega
  subst hi2
  exact ⟨A, c, ha.cell 0, hc, hm, (h.below hb hB).more (by omega)⟩

theorem nd_store_to {P : Program} {op : Oper} {a : Act} {w : World} {K : Act → World → Prop} {Q : Exit → Act → World → Prop} (hd : op.dst = none) (ty : TypeId) (x y : Operand) (ho : op.op = .store ty x y)
    (b o : Nat) (cells : Array Value) (hx : a.eval x = .pointer (some ⟨b, o, none⟩)) (hy : a.eval y = .agg cells)
    (ht : w.there b o cells.size) (hi : (P.info? ty).map (·.size) = some cells.size) (h1 : cells.all (·.oneCell') = true)
    (h : K a (w.setCells b o cells.toList)) : op.wp P a w K Q :=
  wp_store_mid ty x y ho b o cells hx hy ht hi h1 (by rw [hd]; exact h)

theorem node_there {w : World} {g : Nat} {NL : List Value} (h : Arr w g 87 NL) (hl : NL.length = 71) : w.there g 39 32 := fun j hj => by
  refine ⟨?_, h.frozen _⟩
  rw [h.cell, List.getElem?_eq_getElem (by omega)]
  rfl
theorem node_newdig {key : List UInt8} (hk : key.length = 32) (f t : Int) (vv nn : Value) (d m s : Int) (dig dig' : List UInt8) : (nodeC key f t vv nn d m s dig).take 39 ++ Lib.byteCells dig' = nodeC key f t vv nn d m s dig' := by
  have hl : (Lib.byteCells key).length = 32 := by rw [Lib.byteCells_length, hk]
  unfold nodeC
  rw [List.take_append, hl, List.take_of_length_le (by omega), List.append_assoc]
  rfl

set_option maxHeartbeats 8000000 in
set_option maxRecDepth 100000 in
theorem sumC_run (key : List UInt8) (hk : key.length = 32) (g : Nat) (f t : Int) (vv nn : Value) (d m s : Int) (dig : List UInt8) (hdl : dig.length = 32) (NL : List Value) (hNL : NL = nodeC key f t vv nn d m s dig) (pl : Nat) (hpl : pl ≠ g)
    (F : Nat → Prop) (hFg : ¬ F g) (hFp : ¬ F pl) (I : World → Prop) (hIk : ∀ w1 w2, I w1 → Only (fun k => k = g) w1 w2 → I w2) (Y : List UInt8) (hY : (tagF 4 [Y]).length ≤ 1000000)
    (hbytes : ∀ w', I w' → Arr w' g 87 NL → Calls Tryz.prog 31 #[.pointer (some ⟨g, 0, none⟩)] w' fun e w'' => ∃ v, e = .returned v ∧ Owns w'' w'.heap.size 5 v Y ∧ I w'' ∧ Only F w' w'')
    (w : World) (hI : I w) (hN : Arr w g 87 NL) (hp : Arr w pl 60 [.pointer (some ⟨g, 0, none⟩)]) :
    Calls Tryz.prog 51 #[.pointer (some ⟨pl, 0, none⟩)] w fun e w' => e = .returned (.tuple #[]) ∧ Arr w' g 87 (nodeC key f t vv nn d m s (shaF (tagF 4 [Y]))) ∧ I w' ∧ Only (fun k => F k ∨ k = g) w w' := by
  obtain ⟨SL, hSL⟩ : ∃ SL, SL = Lib.byteCells (shaF (tagF 4 [Y])) := ⟨_, rfl⟩
  have hsl : SL.length = 32 := by rw [hSL, Lib.byteCells_length]; exact shaF_length _
  have Hsi := Lib.hid (show (Tryz.prog.info? 24).map (·.size) = some SL.toArray.size by rw [List.size_toArray, hsl]; kernel_rfl)
  have Hs1 := Lib.hid (show SL.toArray.all (·.oneCell') = true from all_oneCell_toArray (by rw [hSL]; exact byteCells_one _))
  have hnl : NL.length = 71 := by rw [hNL]; exact nodeC_length f t vv nn d m s hk hdl
  have HSL := Lib.hid hSL
  have HNL := Lib.hid hNL
  have Hbytes := Lib.hid hbytes
  have HIk := Lib.hid hIk
  have Hsl := Lib.hid hsl
  have Hnl := Lib.hid hnl
  have HY := Lib.hid hY
  have hI1 : I w.drew := hIk _ _ hI ((Only.refl _ w).drewN 1)
  clear hSL hNL hbytes hIk hsl hnl hY
  go_enter Tryz.func51, Tryz.ntmps51
  go_upto_region 0 with fail
  refine wp_region_held_drew (S := fun w' => Arr w' pl 60 [.pointer (some ⟨g, 0, none⟩)]) (by kernel_rfl) (hp.drewN 1) (fun hHeld => ?_)
  refine anyH_take (i := 0) (v := .pointer (some ⟨g, 0, none⟩)) (some 1) rfl rfl (by kernel_rfl) (by kernel_rfl) (by kernel_rfl) (fun _ _ _ h => h) (Or.inl ⟨by rfl, fun w' hw => by (have hc : w'.cell? ⟨pl, 0, none⟩ = some (.pointer (some ⟨g, 0, none⟩)) := hw.cell 0; go_simp)⟩) (by assumption) ?_
  simp only [Act.put, List.setIfInBounds_toArray, List.set_cons_zero, List.set_cons_succ]
  refine anyH_take (i := 1) (v := .pointer (some ⟨g, 0, none⟩)) (some 2) rfl rfl (by kernel_rfl) (by kernel_rfl) (by kernel_rfl) (fun _ _ _ h => h) (Or.inl ⟨by rfl, fun w' hw => by (have hc : w'.cell? ⟨pl, 0, none⟩ = some (.pointer (some ⟨g, 0, none⟩)) := hw.cell 0; go_simp)⟩) (by assumption) ?_
  simp only [Act.put, List.setIfInBounds_toArray, List.set_cons_zero, List.set_cons_succ]
  refine wpAnyH_ready (rs := [2]) (by kernel_rfl) (by simp) ?_
  refine AllReadyH.cons rfl (fun K hK => ?_) AllReadyH.nil
  go_simp
  go_at_call 31
  refine Calls.mono (Hbytes.out _ hI1 (hN.drewN 1)) ?_
  rintro e w2 ⟨v, rfl, hown2, hI2, hO2⟩
  have hN2 : Arr w2 g 87 NL := Arr.only (w := w.drewN 1) (hN.drewN 1) hO2 hFg
  have hp2 : Arr w2 pl 60 [.pointer (some ⟨g, 0, none⟩)] := Arr.only (w := w.drewN 1) (hp.drewN 1) hO2 hFp
  have hO2' : Only (fun k => F k ∨ k = g) w w2 := (((Only.refl (fun k => F k ∨ k = g) w).drewN 1)).then hO2 (fun k hk => .inl (.inl hk))
  obtain ⟨A2, c2, rfl, h21, h22, h23⟩ := hown2.slice
  obtain ⟨n2, hn2⟩ : ∃ n2, Y.length = n2 := ⟨_, rfl⟩
  rw [hn2] at h21 ⊢
  have Hn2 := Lib.hid hn2
  clear hn2 hown2 hO2 hI1
  dsimp only
  go_wp2_with fail
  refine hK.out _ _ hp2 (fun hHeldx => ?_)
  clear hK K
  try simp only [Act.put, List.setIfInBounds_toArray, List.set_cons_zero, List.set_cons_succ]
  refine wpAnyH_ready (rs := [3]) (by kernel_rfl) (by simp) ?_
  refine AllReadyH.cons rfl (fun K hK => ?_) AllReadyH.nil
  go_simp
  have hrow3 : RowsAt (w2.alloc (.cells #[.slice A2 n2 c2] 38)) (w2.alloc (.cells #[.slice A2 n2 c2] 38)).heap.size (some ⟨w2.heap.size, 0, none⟩) [Y] := (nd_rows_one (w := w2) (B := w2.heap.size) 38 Hn2.out h21 h22 h23 (Nat.le_refl _)).more (Nat.le_of_eq (by simp))
  have hb3 : Below w2.heap.size w2 (w2.alloc (.cells #[.slice A2 n2 c2] 38)) := (Below.refl _ w2).alloc (Nat.le_refl _) _
  obtain ⟨w3, hw3⟩ : ∃ x, x = w2.alloc (.cells #[.slice A2 n2 c2] 38) := ⟨_, rfl⟩
  change K _ (w2.alloc (.cells #[.slice A2 n2 c2] 38))
  rw [← hw3] at hrow3 hb3 ⊢
  have hN3 := hN2.up hb3
  have hp3 := hp2.up hb3
  have hI3 : I w3 := HIk.out _ _ hI2 (Only.of_below hb3)
  have hO3 := hO2'.step hb3
  clear hw3 hb3 hN2 hp2 hI2 hO2' h21 h22 h23
  refine hK.out _ _ hp3 (fun hHeldx => ?_)
  clear hK K
  try simp only [Act.put, List.setIfInBounds_toArray, List.set_cons_zero, List.set_cons_succ]
  refine wpAnyH_ready (rs := [4]) (by kernel_rfl) (by simp) ?_
  refine AllReadyH.cons rfl (fun K hK => ?_) AllReadyH.nil
  go_simp
  go_at_call 27
  refine Calls.mono (tag_at 4 4 [Y] SL _ 1 1 w3 rfl HSL.out rfl (by omega) hrow3 HY.out) ?_
  rintro e w4 ⟨rfl, hb4⟩
  have hN4 := hN3.up hb4
  have hp4 := hp3.up hb4
  have hI4 : I w4 := HIk.out _ _ hI3 (Only.of_below hb4)
  have hO4 := hO3.step hb4
  clear hb4 hN3 hp3 hI3 hO3 hrow3
  dsimp only
  go_wp2_with fail
  refine hK.out _ _ hp4 (fun hHeldx => ?_)
  clear hK K
  try simp only [Act.put, List.setIfInBounds_toArray, List.set_cons_zero, List.set_cons_succ]
  refine anyH_take (i := 5) (v := .pointer (some ⟨g, 0, none⟩)) (some 6) rfl rfl (by kernel_rfl) (by kernel_rfl) (by kernel_rfl) (fun _ _ _ h => h) (Or.inl ⟨by rfl, fun w' hw => by go_simp⟩) (by assumption) ?_
  simp only [Act.put, List.setIfInBounds_toArray, List.set_cons_zero, List.set_cons_succ]
  refine anyH_take (i := 6) (v := .pointer (some ⟨g, 39, none⟩)) (some 7) rfl rfl (by kernel_rfl) (by kernel_rfl) (by kernel_rfl) (fun _ _ _ h => h) (Or.inl ⟨by rfl, fun w' hw => by go_simp⟩) (by assumption) ?_
  simp only [Act.put, List.setIfInBounds_toArray, List.set_cons_zero, List.set_cons_succ]
  have hth : w4.there g 39 SL.toArray.size := by rw [List.size_toArray, Hsl.out]; exact node_there hN4 Hnl.out
  have hN5 := Arr.setCells SL 39 NL w4 hN4 (by rw [Hsl.out, Hnl.out])
  have hO45 : Only (fun k => k = g) w4 (w4.setCells g 39 SL) := Only.setCells (R := fun k => k = g) rfl SL 39 w4 (Only.refl _ w4)
  have hp5 := hp4.only hO45 hpl
  have hI5 : I (w4.setCells g 39 SL) := HIk.out _ _ hI4 hO45
  have hO5 : Only (fun k => F k ∨ k = g) w (w4.setCells g 39 SL) := hO4.then hO45 (fun k hk => .inl (.inr hk))
  refine wpAnyH_ready (rs := [7]) (by kernel_rfl) (by simp) ?_
  refine AllReadyH.cons rfl (fun K hK => ?_) AllReadyH.nil
  rw [if_pos (by rfl)]
  refine nd_store_to rfl 24 _ _ rfl g 39 SL.toArray rfl rfl hth Hsi.out Hs1.out ?_
  try rw [show SL.toArray.toList = SL from rfl]
  refine hK.out _ _ hp5 (fun hHeldx => ?_)
  clear hK K
  try simp only [Act.put, List.setIfInBounds_toArray, List.set_cons_zero, List.set_cons_succ]
  refine wpAnyH_done (by kernel_rfl) ?_ _
  clear hHeld hHeldx
  go_wp2_with fail
  try go_end0
  refine ⟨rfl, ?_, hI5, hO5⟩
  rw [HNL.out, HSL.out, node_newdig hk] at hN5
  rw [HSL.out]
  exact hN5

end Go.Proofs.YtblgmnjegkfoaaaGreat

namespace Go.Proofs.YtblgmnjegkfoaaaGreat
open Go.RowKit
set_option linter.unusedVariables false
set_option linter.unusedSimpArgs false

theorem node_set36 {key : List UInt8} (hk : key.length = 32) (f t : Int) (vv nn : Value) (d m s d' : Int) (dig : List UInt8) : (nodeC key f t vv nn d m s dig).set 36 (.int .u32 d') = nodeC key f t vv nn d' m s dig := by
  have hl : (Lib.byteCells key).length = 32 := by rw [Lib.byteCells_length, hk]
  unfold nodeC
  rw [List.set_append_right 36 _ (by omega), hl]; rfl
theorem node_set37 {key : List UInt8} (hk : key.length = 32) (f t : Int) (vv nn : Value) (d m s m' : Int) (dig : List UInt8) : (nodeC key f t vv nn d m s dig).set 37 (.int .i32 m') = nodeC key f t vv nn d m' s dig := by
  have hl : (Lib.byteCells key).length = 32 := by rw [Lib.byteCells_length, hk]
  unfold nodeC
  rw [List.set_append_right 37 _ (by omega), hl]; rfl

set_option maxHeartbeats 8000000 in
set_option maxRecDepth 100000 in
theorem sum_first (key : List UInt8) (hk : key.length = 32) (g : Nat) (f t : Int) (vv nn : Value) (s : Int) (dig : List UInt8) (hdl : dig.length = 32) (NL : List Value) (hNL : NL = nodeC key f t vv nn 0 0 s dig)
    (F : Nat → Prop) (hFg : ¬ F g) (I : World → Prop) (hIk : ∀ w1 w2, I w1 → Only (fun k => k = g) w1 w2 → I w2) (n0 : Nat) (hIf : ∀ w1 w2, I w1 → Only (fun k => n0 ≤ k) w1 w2 → I w2) (Y : List UInt8) (hY : (tagF 4 [Y]).length ≤ 1000000) (SL : List Value) (hSL : SL = Lib.byteCells (shaF (tagF 4 [Y])))
    (hbytes : ∀ w', I w' → Arr w' g 87 (nodeC key f t vv nn 0 1 s dig) → Calls Tryz.prog 31 #[.pointer (some ⟨g, 0, none⟩)] w' fun e w'' => ∃ v, e = .returned v ∧ Owns w'' w'.heap.size 5 v Y ∧ I w'' ∧ Only F w' w'')
    (w : World) (hn0 : n0 ≤ w.heap.size) (hFw : ∀ k, F k → k < w.heap.size) (hI : I w) (hN : Arr w g 87 NL) :
    Calls Tryz.prog 28 #[.pointer (some ⟨g, 0, none⟩)] w fun e w' => e = .returned (.agg SL.toArray) ∧ Arr w' g 87 (nodeC key f t vv nn 1 0 s (shaF (tagF 4 [Y]))) ∧ I w' ∧ Only (fun k => F k ∨ k = g) w w' := by
  have hgw := hN.lt
  have hz : z32.length = 32 := rfl
  have hsl : SL.length = 32 := by rw [hSL, Lib.byteCells_length]; exact shaF_length _
  obtain ⟨W1, hW1⟩ : ∃ W1, W1 = (w.alloc (.cells #[.pointer (some ⟨g, 0, none⟩)] 60)).alloc (.cells (Lib.byteCells z32).toArray 24) := ⟨_, rfl⟩
  have hb1 : Below w.heap.size w W1 := by rw [hW1]; exact ((Below.refl _ w).alloc (Nat.le_refl _) _).alloc (by simp) _
  have hp1 : Arr W1 w.heap.size 60 [.pointer (some ⟨g, 0, none⟩)] := by rw [hW1]; exact (Arr.new w _ [.pointer (some ⟨g, 0, none⟩)]).alloc _
  have hR1 : Arr W1 (w.heap.size + 1) 24 (Lib.byteCells z32) := by
    rw [hW1, ← World.size_alloc w (.cells #[.pointer (some ⟨g, 0, none⟩)] 60)]; exact Arr.new _ _ _
  have hN1 := hN.up hb1
  have hI1 : I W1 := hIk _ _ hI (Only.of_below hb1)
  have hO1 : Only (fun k => F k ∨ k = g) w W1 := (Only.refl _ w).step hb1
  obtain ⟨W2, hW2⟩ : ∃ W2, W2 = W1.setCell ⟨g, 37, none⟩ (.int .i32 1) := ⟨_, rfl⟩
  have hO12 : Only (fun k => k = g) W1 W2 := by rw [hW2]; exact (Only.refl (fun k => k = g) W1).setCell (p := ⟨g, 37, none⟩) (.inl rfl) _
  have hN2 : Arr W2 g 87 (nodeC key f t vv nn 0 1 s dig) := by
    rw [hW2, ← node_set37 hk f t vv nn 0 0 s 1 dig, ← hNL]; exact hN1.set 37 _
  have hp2 := hp1.only hO12 (Nat.ne_of_gt hgw)
  have hI2 := hIk _ _ hI1 hO12
  have hat := node_at hNL hk hN1
  have hFp : ¬ F w.heap.size := fun h => Nat.lt_irrefl _ (hFw _ h)
  have hcall := sumC_run key hk g f t vv nn 0 1 s dig hdl _ rfl w.heap.size (Nat.ne_of_gt hgw) F hFg hFp I hIk Y hY hbytes W2 hI2 hN2 hp2
  rw [hW2] at hcall
  have hdo := onceFirst g 36 ⟨w.heap.size, 0, none⟩ (fun w' => Arr w' g 87 (nodeC key f t vv nn 0 1 s (shaF (tagF 4 [Y]))) ∧ I w' ∧ Only (fun k => F k ∨ k = g) W2 w') W1 hat.2.2.2.2.1 hat.2.2.2.2.2.1 (hN1.frozen 36) (hN1.frozen 37)
    (hcall.mono (by
      rintro e w' ⟨rfl, hA, hIx, hOx⟩
      have ha2 := node_at (w := w') (g := g) rfl hk hA
      rw [← hW2] at hOx
      exact ⟨rfl, ha2.2.2.2.2.1, ha2.2.2.2.2.2.1, hA.frozen 36, hA.frozen 37, hA, hIx, hOx⟩))
  have Hdo := Lib.hid hdo
  have HIk := Lib.hid hIk
  have HIf := Lib.hid hIf
  have HFw := Lib.hid hFw
  have Hk1 := Lib.hid (show (Tryz.prog.info? 24).map (·.size) = some SL.length by rw [hsl]; kernel_rfl)
  have Hki := Lib.hid (show (Tryz.prog.info? 24).map (·.size) = some SL.toArray.size by rw [List.size_toArray, hsl]; kernel_rfl)
  have Hks := Lib.hid (show (Lib.byteCells z32).toArray.size = SL.toArray.size by rw [List.size_toArray, List.size_toArray, hsl, Lib.byteCells_length]; rfl)
  have Hs1 := Lib.hid (show SL.toArray.all (·.oneCell') = true from all_oneCell_toArray (by rw [hSL]; exact byteCells_one _))
  have HSL := Lib.hid hSL
  have HW1 := Lib.hid hW1
  have hgs : g ≠ w.heap.size + 1 := by omega
  have hw1s : W1.heap.size = w.heap.size + 2 := by rw [hW1]; simp
  have Hws := Lib.hid hw1s
  have hpc := hp1.cell 0
  clear hW1 hW2 hSL hsl hdo hIk hIf hFw hcall hat hNL hN hbytes hw1s hN2 hp2 hI2 hI hI1
  have hpc1 : W1.cell? ⟨w.heap.size, 0, none⟩ = some (.pointer (some ⟨g, 0, none⟩)) := hpc
  clear hpc
  go_enter Tryz.func28, Tryz.ntmps28
  go_upto_region 1 with fail
  change Code.wp _ _ _ _ ((w.alloc (.cells #[.pointer (some ⟨g, 0, none⟩)] 60)).alloc (.cells (Lib.byteCells z32).toArray 24))
  rw [← HW1.out]
  clear HW1
  have hmf : ∀ (fn : Fn) (first cap : Array Value) (w : World), (Instr.makeFunc fn first cap).run Tryz.prog w = .ok (.func fn first cap) w := fun _ _ _ _ => rfl
  go_wp2_with fail
  go_at_call 50
  refine Calls.mono Hdo.out ?_
  rintro e w3 ⟨rfl, w2, ⟨hA, hIx, hOx⟩, rfl⟩
  have hO13 : Only (fun k => F k ∨ k = g) W1 w2 := (hO12.more (fun k _ hk => .inr hk)).trans hOx
  have hnp : ¬ (F w.heap.size ∨ w.heap.size = g) := fun h => h.elim hFp (Nat.ne_of_gt hgw)
  have hnr : ¬ (F (w.heap.size + 1) ∨ w.heap.size + 1 = g) := fun h => h.elim (fun h => by have := HFw.out _ h; omega) (fun h => hgs h.symm)
  have hp4 := (((hp1.only hO13 hnp).drewN 1).setOther (p := ⟨g, 36, none⟩) (Nat.ne_of_gt hgw) (.int .u32 1)).setOther (p := ⟨g, 37, none⟩) (Nat.ne_of_gt hgw) (.int .i32 0)
  have hR4 := (((hR1.only hO13 hnr).drewN 1).setOther (p := ⟨g, 36, none⟩) (Ne.symm hgs) (.int .u32 1)).setOther (p := ⟨g, 37, none⟩) (Ne.symm hgs) (.int .i32 0)
  have hN4 := ((hA.drewN 1).set 36 (.int .u32 1)).set 37 (.int .i32 0)
  rw [node_set36 hk, node_set37 hk] at hN4
  have hO24 : Only (fun k => k = g) w2 (((w2.drewN 1).setCell ⟨g, 36, none⟩ (.int .u32 1)).setCell ⟨g, 37, none⟩ (.int .i32 0)) := (((Only.refl (fun k => k = g) w2).drewN 1).setCell (p := ⟨g, 36, none⟩) (.inl rfl) _).setCell (p := ⟨g, 37, none⟩) (.inl rfl) _
  have hI4 := HIk.out _ _ hIx hO24
  have hO4 : Only (fun k => F k ∨ k = g) w (((w2.drewN 1).setCell ⟨g, 36, none⟩ (.int .u32 1)).setCell ⟨g, 37, none⟩ (.int .i32 0)) := (hO1.trans hO13).then hO24 (fun k hk => .inl (.inr hk))
  obtain ⟨w4, hw4⟩ : ∃ x, x = (w2.drew.setCell ⟨g, 36, none⟩ (.int .u32 1)).setCell ⟨g, 36 + 1, none⟩ (.int .i32 0) := ⟨_, rfl⟩
  have hN4' : Arr w4 g 87 (nodeC key f t vv nn 1 0 s (shaF (tagF 4 [Y]))) := by rw [hw4]; exact hN4
  have hp4' : Arr w4 w.heap.size 60 [.pointer (some ⟨g, 0, none⟩)] := by rw [hw4]; exact hp4
  have hR4' : Arr w4 (w.heap.size + 1) 24 (Lib.byteCells z32) := by rw [hw4]; exact hR4
  have hI4' : I w4 := by rw [hw4]; exact hI4
  have hO4' : Only (fun k => F k ∨ k = g) w w4 := by rw [hw4]; exact hO4
  rw [← hw4]
  clear hw4 hN4 hp4 hR4 hI4 hO4 hO24 hO13 hO12 hO1 hOx hIx hA hp1 hR1 hN1 hpc1 hb1 Hdo Hws
  have hpc4 : w4.cell? ⟨w.heap.size, 0, none⟩ = some (.pointer (some ⟨g, 0, none⟩)) := hp4'.cell 0
  have hrng := node_dig (w := w4) (g := g) rfl hk HSL.out hN4'
  have hset := hR4'.setRow SL
  have hN5 : Arr (w4.setRow (w.heap.size + 1) SL.toArray) g 87 (nodeC key f t vv nn 1 0 s (shaF (tagF 4 [Y]))) := hN4'.rowOther hgs _
  have hO45 : Only (fun k => k = w.heap.size + 1) w4 (w4.setRow (w.heap.size + 1) SL.toArray) := (Only.refl (fun k => k = w.heap.size + 1) w4).setRow (.inl rfl) _
  have hI5 : I (w4.setRow (w.heap.size + 1) SL.toArray) := HIf.out _ _ hI4' (hO45.more (fun k _ hk => by omega))
  have hO5 : Only (fun k => F k ∨ k = g) w (w4.setRow (w.heap.size + 1) SL.toArray) := hO4'.then hO45 (fun k hk => .inr (by omega))
  have HR4 := Lib.hid hR4'
  have HN5 := Lib.hid hN5
  have Hrng := Lib.hid hrng
  have Hset := Lib.hid hset
  clear hN4' hR4' hN5 hrng hset hp4'
  dsimp only
  go_wp2_with (first
    | (refine wpList_load_mid rfl _ _ rfl g 39 rfl SL _ Hrng.out Tryz.underlying24 rfl Hk1.out ?_)
    | (refine wpList_store_row rfl _ _ _ rfl (w.heap.size + 1) SL.toArray rfl rfl 24 (Lib.byteCells z32).toArray HR4.out Hki.out Hks.out Hs1.out ?_))
  exact bodyPost_ret (v := .agg SL.toArray) (results_cell_row (by rfl) _ _ (w.heap.size + 1) 24 SL.toArray (0, 0) _ (by rfl) Hset.out Tryz.underlying24 rfl Hki.out) rfl ⟨rfl, HN5.out, hI5, hO5⟩

end Go.Proofs.YtblgmnjegkfoaaaGreat

namespace Go.Proofs.YtblgmnjegkfoaaaGreat
open Go.RowKit
set_option linter.unusedVariables false
set_option linter.unusedSimpArgs false

set_option maxHeartbeats 8000000 in
set_option maxRecDepth 100000 in
theorem sum_done (key : List UInt8) (hk : key.length = 32) (g : Nat) (f t : Int) (vv nn : Value) (d m s : Int) (hd : d ≠ 0) (dig : List UInt8) (hdl : dig.length = 32) (NL : List Value) (hNL : NL = nodeC key f t vv nn d m s dig) (SL : List Value) (hSL : SL = Lib.byteCells dig)
    (w : World) (hN : Arr w g 87 NL) :
    Calls Tryz.prog 28 #[.pointer (some ⟨g, 0, none⟩)] w fun e w' => e = .returned (.agg SL.toArray) ∧ Below w.heap.size w w' := by
  have hgw := hN.lt
  have hsl : SL.length = 32 := by rw [hSL, Lib.byteCells_length]; exact hdl
  obtain ⟨W1, hW1⟩ : ∃ W1, W1 = (w.alloc (.cells #[.pointer (some ⟨g, 0, none⟩)] 60)).alloc (.cells (Lib.byteCells z32).toArray 24) := ⟨_, rfl⟩
  have hb1 : Below w.heap.size w W1 := by rw [hW1]; exact ((Below.refl _ w).alloc (Nat.le_refl _) _).alloc (by simp) _
  have hp1 : Arr W1 w.heap.size 60 [.pointer (some ⟨g, 0, none⟩)] := by rw [hW1]; exact (Arr.new w _ [.pointer (some ⟨g, 0, none⟩)]).alloc _
  have hR1 : Arr W1 (w.heap.size + 1) 24 (Lib.byteCells z32) := by
    rw [hW1, ← World.size_alloc w (.cells #[.pointer (some ⟨g, 0, none⟩)] 60)]; exact Arr.new _ _ _
  have hN1 := hN.up hb1
  have hat := node_at hNL hk hN1
  have hdo := onceDone ⟨g, 36, none⟩ d hd (.func (.func 51) #[] #[.pointer (some ⟨w.heap.size, 0, none⟩)]) W1 hat.2.2.2.2.1
  have hrng := node_dig hNL hk hSL hN1
  have hset := hR1.setRow SL
  have hb5 : Below w.heap.size w (W1.setRow (w.heap.size + 1) SL.toArray) := hb1.trans (((Only.refl (fun k => k = w.heap.size + 1) W1).setRow (.inl rfl) _).below hb1.size (by rintro k rfl; omega))
  have hpc1 : W1.cell? ⟨w.heap.size, 0, none⟩ = some (.pointer (some ⟨g, 0, none⟩)) := hp1.cell 0
  have Hdo := Lib.hid hdo
  have Hk1 := Lib.hid (show (Tryz.prog.info? 24).map (·.size) = some SL.length by rw [hsl]; kernel_rfl)
  have Hki := Lib.hid (show (Tryz.prog.info? 24).map (·.size) = some SL.toArray.size by rw [List.size_toArray, hsl]; kernel_rfl)
  have Hks := Lib.hid (show (Lib.byteCells z32).toArray.size = SL.toArray.size by rw [List.size_toArray, List.size_toArray, hsl, Lib.byteCells_length]; rfl)
  have Hs1 := Lib.hid (show SL.toArray.all (·.oneCell') = true from all_oneCell_toArray (by rw [hSL]; exact byteCells_one _))
  have HW1 := Lib.hid hW1
  have HR1 := Lib.hid hR1
  have Hrng := Lib.hid hrng
  have Hset := Lib.hid hset
  clear hW1 hSL hsl hdo hat hNL hN hN1 hR1 hrng hset hp1 hb1
  go_enter Tryz.func28, Tryz.ntmps28
  go_upto_region 1 with fail
  change Code.wp _ _ _ _ ((w.alloc (.cells #[.pointer (some ⟨g, 0, none⟩)] 60)).alloc (.cells (Lib.byteCells z32).toArray 24))
  rw [← HW1.out]
  clear HW1
  have hmf : ∀ (fn : Fn) (first cap : Array Value) (w : World), (Instr.makeFunc fn first cap).run Tryz.prog w = .ok (.func fn first cap) w := fun _ _ _ _ => rfl
  go_wp2_with fail
  go_at_call 50
  refine Calls.mono Hdo.out ?_
  rintro e w3 ⟨rfl, rfl⟩
  clear Hdo
  dsimp only
  go_wp2_with (first
    | (refine wpList_load_mid rfl _ _ rfl g 39 rfl SL _ Hrng.out Tryz.underlying24 rfl Hk1.out ?_)
    | (refine wpList_store_row rfl _ _ _ rfl (w.heap.size + 1) SL.toArray rfl rfl 24 (Lib.byteCells z32).toArray HR1.out Hki.out Hks.out Hs1.out ?_))
  exact bodyPost_ret (v := .agg SL.toArray) (results_cell_row (by rfl) _ _ (w.heap.size + 1) 24 SL.toArray (0, 0) _ (by rfl) Hset.out Tryz.underlying24 rfl Hki.out) rfl ⟨rfl, hb5⟩

end Go.Proofs.YtblgmnjegkfoaaaGreat

namespace Go.Proofs.YtblgmnjegkfoaaaGreat
open Go.RowKit
set_option linter.unusedVariables false
set_option linter.unusedSimpArgs false

set_option maxHeartbeats 8000000 in
set_option maxRecDepth 100000 in
theorem root_none (a : Nat) (SL : List Value) (hSL : SL = Lib.byteCells (shaF (tagF 5 []))) (w : World) (h : w.cell? ⟨a, 0, none⟩ = some (.pointer none)) (ha : a < w.heap.size) :
    Calls Tryz.prog 9 #[.pointer (some ⟨a, 0, none⟩)] w fun e w' => e = .returned (.agg SL.toArray) ∧ Below w.heap.size w w' := by
  have hsl : SL.length = 32 := by rw [hSL, Lib.byteCells_length]; exact shaF_length _
  obtain ⟨W1, hW1⟩ : ∃ W1, W1 = w.alloc (.cells (Lib.byteCells z32).toArray 24) := ⟨_, rfl⟩
  have hb1 : Below w.heap.size w W1 := by rw [hW1]; exact (Below.refl _ w).alloc (Nat.le_refl _) _
  have hR1 : Arr W1 w.heap.size 24 (Lib.byteCells z32) := by rw [hW1]; exact Arr.new w _ _
  have h1 : W1.cell? ⟨a, 0, none⟩ = some (.pointer none) := by rw [hW1, World.cell?_alloc_past _ _ _ ha]; exact h
  have hrow : RowsAt W1 W1.heap.size none [] := fun h => absurd h (by simp)
  have hlim : (tagF 5 []).length ≤ 1000000 := by simp [tagF]
  have htag := tag_at 5 5 [] SL none 0 0 W1 rfl hSL rfl (by omega) hrow hlim
  have Htag := Lib.hid htag
  have Hki := Lib.hid (show (Tryz.prog.info? 24).map (·.size) = some SL.toArray.size by rw [List.size_toArray, hsl]; kernel_rfl)
  have Hks := Lib.hid (show (Lib.byteCells z32).toArray.size = SL.toArray.size by rw [List.size_toArray, List.size_toArray, hsl, Lib.byteCells_length]; rfl)
  have Hs1 := Lib.hid (show SL.toArray.all (·.oneCell') = true from all_oneCell_toArray (by rw [hSL]; exact byteCells_one _))
  have HW1 := Lib.hid hW1
  have HR1 := Lib.hid hR1
  clear hW1 hSL hsl h hrow hlim htag hR1
  go_enter Tryz.func9, Tryz.ntmps9
  go_upto_region 1 with fail
  change Code.wp _ _ _ _ (w.alloc (.cells (Lib.byteCells z32).toArray 24))
  rw [← HW1.out]
  clear HW1
  go_wp2_with fail
  go_at_call 27
  refine Calls.mono Htag.out ?_
  rintro e w2 ⟨rfl, hb2⟩
  have hR2 := HR1.out.up hb2
  have hb22 := hb1.trans (hb2.mono hb1.size)
  have hset := hR2.setRow SL
  have hb5 : Below w.heap.size w (w2.setRow w.heap.size SL.toArray) := hb22.trans (((Only.refl (fun k => k = w.heap.size) w2).setRow (.inl rfl) _).below hb22.size (by rintro k rfl; exact Nat.le_refl _))
  have HR2 := Lib.hid hR2
  have Hset := Lib.hid hset
  clear Htag hb2 hR2 hset HR1 hb22
  dsimp only
  go_wp2_with (refine wpList_store_row rfl _ _ _ rfl w.heap.size SL.toArray rfl rfl 24 (Lib.byteCells z32).toArray HR2.out Hki.out Hks.out Hs1.out ?_)
  exact bodyPost_ret (v := .agg SL.toArray) (results_cell_row (by rfl) _ _ w.heap.size 24 SL.toArray (0, 0) _ (by rfl) Hset.out Tryz.underlying24 rfl Hki.out) rfl ⟨rfl, hb5⟩

set_option maxHeartbeats 8000000 in
set_option maxRecDepth 100000 in
/-- Root of a trie with keys, given what sum does from a world that has one block more. -/
theorem root_some (a g : Nat) (SL : List Value) (hsl : SL.length = 32) (hso : ∀ v ∈ SL, v.oneCell' = true) (P : Nat → Prop) (J : World → Prop) (w : World) (h : w.cell? ⟨a, 0, none⟩ = some (.pointer (some ⟨g, 0, none⟩))) (ha : a < w.heap.size) (hP : ∀ k, P k → k < w.heap.size)
    (hJ : ∀ w1 w2, J w1 → Only (fun k => w.heap.size ≤ k) w1 w2 → J w2)
    (hsum : ∀ w', Below w.heap.size w w' → Calls Tryz.prog 28 #[.pointer (some ⟨g, 0, none⟩)] w' fun e w'' => e = .returned (.agg SL.toArray) ∧ J w'' ∧ Only P w' w'') :
    Calls Tryz.prog 9 #[.pointer (some ⟨a, 0, none⟩)] w fun e w' => e = .returned (.agg SL.toArray) ∧ J w' ∧ Only P w w' := by
  obtain ⟨W1, hW1⟩ : ∃ W1, W1 = w.alloc (.cells (Lib.byteCells z32).toArray 24) := ⟨_, rfl⟩
  have hb1 : Below w.heap.size w W1 := by rw [hW1]; exact (Below.refl _ w).alloc (Nat.le_refl _) _
  have hR1 : Arr W1 w.heap.size 24 (Lib.byteCells z32) := by rw [hW1]; exact Arr.new w _ _
  have h1 : W1.cell? ⟨a, 0, none⟩ = some (.pointer (some ⟨g, 0, none⟩)) := by rw [hW1, World.cell?_alloc_past _ _ _ ha]; exact h
  have hs1 := hsum W1 hb1
  have Hsum := Lib.hid hs1
  have Hki := Lib.hid (show (Tryz.prog.info? 24).map (·.size) = some SL.toArray.size by rw [List.size_toArray, hsl]; kernel_rfl)
  have Hks := Lib.hid (show (Lib.byteCells z32).toArray.size = SL.toArray.size by rw [List.size_toArray, List.size_toArray, hsl, Lib.byteCells_length]; rfl)
  have Hs1 := Lib.hid (show SL.toArray.all (·.oneCell') = true from all_oneCell_toArray hso)
  have HW1 := Lib.hid hW1
  have HR1 := Lib.hid hR1
  have HJ := Lib.hid hJ
  have HP := Lib.hid hP
  clear hW1 hsl hso h hsum hs1 hR1 hJ hP
  go_enter Tryz.func9, Tryz.ntmps9
  go_upto_region 1 with fail
  change Code.wp _ _ _ _ (w.alloc (.cells (Lib.byteCells z32).toArray 24))
  rw [← HW1.out]
  clear HW1
  go_wp2_with fail
  go_at_call 28
  refine Calls.mono Hsum.out ?_
  rintro e w2 ⟨rfl, hJ2, hO2⟩
  have hR2 := HR1.out.only hO2 (fun hk => Nat.lt_irrefl _ (HP.out _ hk))
  have hO02 : Only P w w2 := ((Only.refl P w).step hb1).trans hO2
  have hset := hR2.setRow SL
  have hO23 : Only (fun k => k = w.heap.size) w2 (w2.setRow w.heap.size SL.toArray) := (Only.refl (fun k => k = w.heap.size) w2).setRow (.inl rfl) _
  have hO3 : Only P w (w2.setRow w.heap.size SL.toArray) := hO02.then hO23 (fun k hk => .inr (by omega))
  have hJ3 : J (w2.setRow w.heap.size SL.toArray) := HJ.out _ _ hJ2 (hO23.more (fun k _ hk => by omega))
  have HR2 := Lib.hid hR2
  have Hset := Lib.hid hset
  clear Hsum hO2 hO02 hO23 hR2 hset HR1 hb1 hJ2
  dsimp only
  go_wp2_with (refine wpList_store_row rfl _ _ _ rfl w.heap.size SL.toArray rfl rfl 24 (Lib.byteCells z32).toArray HR2.out Hki.out Hks.out Hs1.out ?_)
  exact bodyPost_ret (v := .agg SL.toArray) (results_cell_row (by rfl) _ _ w.heap.size 24 SL.toArray (0, 0) _ (by rfl) Hset.out Tryz.underlying24 rfl Hki.out) rfl ⟨rfl, hJ3, hO3⟩

end Go.Proofs.YtblgmnjegkfoaaaGreat

namespace Go.Proofs.YtblgmnjegkfoaaaGreat
open Go.RowKit
set_option linter.unusedVariables false
set_option linter.unusedSimpArgs false

theorem fill_midI (place : Nat → Option (Nat × Nat)) (cells : Array Value) (i off : Nat) (l : List Value) (hp : place i = some (off, l.length)) (h : off + l.length ≤ cells.size) :
    Instr.fill place cells [(i, .agg l.toArray)] = some (cells.toList.take off ++ (l ++ cells.toList.drop (off + l.length))).toArray := by
  simp only [Instr.fill, hp, Value.cells, List.size_toArray]
  rw [if_neg (by simp; omega)]
  congr 1
  obtain ⟨g1, g2⟩ := Great.foldl_set off l 0 cells
  have e : (l.toArray.zipIdx.foldl (fun cs (x : Value × Nat) => cs.setIfInBounds (off + x.2) x.1) cells) = ((l.zipIdx 0).foldl (fun cs (x : Value × Nat) => cs.setIfInBounds (off + x.2) x.1) cells) := by
    rw [← Array.foldl_toList, Array.toList_zipIdx]
  show (l.toArray.zipIdx.foldl (fun cs (x : Value × Nat) => cs.setIfInBounds (off + x.2) x.1) cells) = _
  rw [e]
  apply Array.ext_getElem?
  intro k
  rw [g2 k]
  have hto : (cells.toList.take off).length = off := by simp; omega
  simp only [List.getElem?_toArray, Nat.add_zero]
  by_cases hk : off ≤ k
  · rw [List.getElem?_append_right (by omega), hto]
    by_cases hk2 : k < off + l.length
    · rw [if_pos ⟨hk, hk2, by omega⟩, List.getElem?_append_left (by omega)]
    · rw [if_neg (by omega), List.getElem?_append_right (by omega), List.getElem?_drop]
      rw [show off + l.length + (k - off - l.length) = k by omega]
      simp
  · rw [if_neg (by omega), List.getElem?_append_left (by omega)]
    simp [show k < off from by omega]

theorem fill_consI (place : Nat → Option (Nat × Nat)) (cells : Array Value) (x : Nat × Value) (rest : List (Nat × Value)) (c : Array Value) (h : Instr.fill place cells [x] = some c) : Instr.fill place cells (x :: rest) = Instr.fill place c rest := by
  obtain ⟨i, v⟩ := x
  unfold Instr.fill at h ⊢
  cases hp : place i with
  | none => simp [hp] at h
  | some p =>
    obtain ⟨off, n⟩ := p
    simp only [hp] at h ⊢
    split at h
    · cases h
    · rename_i hc
      rw [if_neg hc]
      simp only [Instr.fill] at h
      injection h with h
      rw [h]
      conv => lhs; unfold Instr.fill

/-- An item: key, value, and where the value lies. -/
structure Itm where
  key : List UInt8
  val : List UInt8
  adr : Option Addr
  cap : Nat
def Itm.it (x : Itm) : It := (x.key, x.val)
def itC (x : Itm) : List Value := Lib.byteCells x.key ++ [.slice x.adr x.val.length x.cap]
def itsC (xs : List Itm) : List Value := xs.flatMap itC
theorem itC_length {x : Itm} (h : x.key.length = 32) : (itC x).length = 33 := by simp [itC, Lib.byteCells_length, h]
theorem itC_one (x : Itm) : ∀ v ∈ itC x, v.oneCell' = true := by
  intro v hv
  rcases List.mem_append.1 hv with hv | hv
  · simp only [Lib.byteCells, List.mem_map] at hv
    obtain ⟨b, _, rfl⟩ := hv
    rfl
  · simp only [List.mem_singleton] at hv
    subst hv
    rfl
theorem itsC_append (a b : List Itm) : itsC (a ++ b) = itsC a ++ itsC b := by unfold itsC; rw [List.flatMap_append]
theorem itsC_one (x : Itm) : itsC [x] = itC x := by simp [itsC]
theorem itsC_cons (x : Itm) (xs : List Itm) : itsC (x :: xs) = itC x ++ itsC xs := by unfold itsC; rw [List.flatMap_cons]
theorem itsC_at {xs : List Itm} (h : ∀ x ∈ xs, x.key.length = 32) {i : Nat} {x : Itm} (hi : xs[i]? = some x) (j : Nat) (v : Value) (hj : (itC x)[j]? = some v) : (itsC xs)[i * 33 + j]? = some v := by
  induction xs generalizing i with
  | nil => simp at hi
  | cons y xs ih =>
    have hl := itC_length (h y List.mem_cons_self)
    rw [itsC_cons]
    cases i with
    | zero =>
      simp at hi
      subst hi
      rw [Nat.zero_mul, Nat.zero_add, List.getElem?_append_left (List.getElem?_eq_some_iff.1 hj).1]
      exact hj
    | succ i =>
      have := ih (fun x hx => h x (List.mem_cons_of_mem _ hx)) (i := i) (by simpa using hi)
      rw [List.getElem?_append_right (by rw [hl]; omega), hl, show (i + 1) * 33 + j - 33 = i * 33 + j by omega]
      exact this

/-- An item's value lies below B. -/
structure ItOk (w : World) (B : Nat) (x : Itm) : Prop where
  k32 : x.key.length = 32
  le : x.val.length ≤ x.cap
  lim : x.cap ≤ maxLen
  bs : Bs w B x.adr x.val
def ItsOk (w : World) (B : Nat) (xs : List Itm) : Prop := ∀ x ∈ xs, ItOk w B x
theorem ItsOk.below {w w' : World} {B B' : Nat} {xs : List Itm} (h : ItsOk w B xs) (hb : Below B' w w') (hB : B ≤ B') : ItsOk w' B xs := fun x hx => ⟨(h x hx).k32, (h x hx).le, (h x hx).lim, (h x hx).bs.below hb hB⟩
theorem ItsOk.sub {w : World} {B : Nat} {xs ys : List Itm} (h : ItsOk w B xs) (hs : ∀ y ∈ ys, y ∈ xs) : ItsOk w B ys := fun y hy => h y (hs y hy)

/-- A row of items of the call's own, from block B on. -/
def IRow (w : World) (B : Nat) (v : Value) (xs : List Itm) : Prop := (∀ x ∈ xs, x.key.length = 32) ∧ w.ownsRow B 40 33 v xs.length (itsC xs)
/-- Items in memory, one behind the other. -/
def ItsAt (w : World) (A : Option Addr) (xs : List Itm) : Prop :=
  0 < xs.length → ∃ b off, A = some ⟨b, off, none⟩ ∧ b < w.heap.size ∧ ∀ i x, xs[i]? = some x → x.key.length = 32 ∧ w.rangeAt b (off + i * 33) (itC x)
theorem ItsAt.up {w w' : World} {A : Option Addr} {xs : List Itm} (h : ItsAt w A xs) (hb : Below w.heap.size w w') : ItsAt w' A xs := fun hp => by
  obtain ⟨b, off, e, hlt, hr⟩ := h hp
  refine ⟨b, off, e, Nat.lt_of_lt_of_le hlt hb.size, fun i x hx => ⟨(hr i x hx).1, fun j v hj => ?_⟩⟩
  rw [← (hr i x hx).2 j v hj]
  exact World.cell?_of_block (hb.block b hlt)
theorem ItsAt.drewN {w : World} {A : Option Addr} {xs : List Itm} (h : ItsAt w A xs) (n : Nat) : ItsAt (w.drewN n) A xs := h
theorem ItsAt.key {w : World} {b off i : Nat} {x : Itm} (h : w.rangeAt b (off + i * 33) (itC x)) (KL : List Value) (hK : KL = Lib.byteCells x.key) : w.rangeAt b (off + i * 33) KL := fun j v hj => by
  refine h j v ?_
  unfold itC
  rw [← hK, List.getElem?_append_left (List.getElem?_eq_some_iff.1 hj).1]
  exact hj
theorem ItsAt.val {w : World} {b off i : Nat} {x : Itm} (hk : x.key.length = 32) (h : w.rangeAt b (off + i * 33) (itC x)) : w.cell? ⟨b, off + i * 33 + 32, none⟩ = some (.slice x.adr x.val.length x.cap) := by
  refine h 32 _ ?_
  unfold itC
  rw [List.getElem?_append_right (by rw [Lib.byteCells_length, hk]; exact Nat.le_refl _), Lib.byteCells_length, hk]
  rfl

theorem IRow.lt {w : World} {B : Nat} {v : Value} {xs : List Itm} (h : IRow w B v xs) : ∀ k, v.ownBlock = some k → B ≤ k ∧ k < w.heap.size := World.ownsRow.lt h.2
/-- A block of another type isn't the row's. -/
theorem IRow.apartI {w : World} {B : Nat} {v : Value} {xs : List Itm} (h : IRow w B v xs) {g : Nat} {T : TypeId} {cs : List Value} (hg : Arr w g T cs) (hT : T ≠ 40) : ∀ k, v.ownBlock = some k → k ≠ g := by
  intro k hk e
  subst e
  rcases h.2.2 with ⟨rfl, _⟩ | ⟨g', cap, cur, rfl, _, hg', _⟩
  · cases hk
  · simp only [Value.ownBlock, Option.some.injEq] at hk
    subst hk
    have := hg.symm.trans hg'
    simp only [Option.some.injEq, Obj.cells.injEq] at this
    exact hT this.2.1
theorem IRow.up {w w' : World} {B : Nat} {v : Value} {xs : List Itm} (h : IRow w B v xs) (hb : Below w.heap.size w w') : IRow w' B v xs := by
  refine ⟨h.1, h.2.1, ?_⟩
  rcases h.2.2 with hn | ⟨g, cap, cur, rfl, h1, hg, rest⟩
  · exact .inl hn
  · exact .inr ⟨g, cap, cur, rfl, h1, (hb.block g (Array.getElem?_eq_some_iff.1 hg).1).trans hg, rest⟩
theorem IRow.base {w : World} {B B' : Nat} {v : Value} {xs : List Itm} (h : IRow w B v xs) (hB : B' ≤ B) : IRow w B' v xs := by
  refine ⟨h.1, h.2.1, ?_⟩
  rcases h.2.2 with hn | ⟨g, cap, cur, rfl, h1, rest⟩
  · exact .inl hn
  · exact .inr ⟨g, cap, cur, rfl, Nat.le_trans hB h1, rest⟩
theorem IRow.empty (w : World) (B : Nat) (hB : B ≤ w.heap.size) : IRow (w.alloc (.cells #[] 40)) B (.slice (some ⟨w.heap.size, 0, none⟩) 0 0) [] :=
  ⟨by simp, rfl, .inr ⟨w.heap.size, 0, #[], rfl, hB, heap_alloc_new w _, Nat.le_refl _, by unfold maxLen; omega, rfl, rfl⟩⟩
theorem IRow.slice {w : World} {B : Nat} {v : Value} {xs : List Itm} (h : IRow w B v xs) : ∃ A c, v = .slice A xs.length c ∧ xs.length ≤ c ∧ c ≤ maxLen ∧ ItsAt w A xs := by
  rcases h.2.2 with ⟨rfl, hn⟩ | ⟨g, cap, cur, rfl, h1, hg, h2, h3, h4, h5⟩
  · exact ⟨none, 0, by rw [hn], by omega, by unfold maxLen; omega, fun hp => by omega⟩
  · refine ⟨_, cap, rfl, h2, h3, fun hp => ⟨g, 0, rfl, (Array.getElem?_eq_some_iff.1 hg).1, fun i x hx => ⟨h.1 x (List.mem_of_getElem? hx), fun j v hj => ?_⟩⟩⟩
    have hd := itsC_at h.1 hx j v hj
    rw [← h5] at hd
    have hlt : i * 33 + j < xs.length * 33 := by
      have := (List.getElem?_eq_some_iff.1 hd).1
      rw [List.length_take] at this
      omega
    rw [List.getElem?_take_of_lt hlt] at hd
    rw [cell_of_row w g _ cur 40 (0, 0) hg, Nat.zero_add]
    simpa using hd

def itZ : List Value := Lib.byteCells zeros ++ [.slice none 0 0]
theorem itAll : (Tryz.prog.info? 40).map (fun i => (i.zero, i.size, i.bytes)) = some (some (.agg itZ.toArray), 33, 56) := by kernel_rfl
theorem itSize : (Tryz.prog.info? 40).map (·.size) = some 33 := by kernel_rfl
theorem it_fill (parts : List (Nat × Value)) : Tryz.prog.built 40 parts = Instr.fill (#[(0, 32), (32, 1)][·]?) itZ.toArray parts := by kernel_rfl
theorem it_built (k : List UInt8) (hk : k.length = 32) (KL : List Value) (hKL : KL = Lib.byteCells k) (A : Option Addr) (n c : Nat) : Tryz.prog.built 40 [(0, .agg KL.toArray), (1, .slice A n c)] = some (KL ++ [Value.slice A n c]).toArray := by
  have hl : KL.length = 32 := by rw [hKL, Lib.byteCells_length, hk]
  rw [it_fill]
  have h1 := fill_midI (#[(0, 32), (32, 1)][·]?) itZ.toArray 0 0 KL (by rw [hl]; rfl) (by rw [hl]; decide +kernel)
  rw [fill_consI _ _ _ _ _ h1]
  have e : (itZ.toArray.toList.take 0 ++ (KL ++ itZ.toArray.toList.drop (0 + KL.length))) = KL ++ [.slice none 0 0] := by
    rw [hl]; rfl
  rw [e]
  show (if (decide (_ ≠ 1) || decide (_ > _)) = true then none else some _) = _
  rw [if_neg (by simp [hl, Value.cells])]
  congr 1
  apply Array.ext'
  simp [hl, Value.cells]

theorem fill_it (l : List Value) (hl : l.length = 33) (cells : Array Value) (hc : cells.size = 33) : Instr.fill (fun i => some (i * 33, 33)) cells [(0, .agg l.toArray)] = some l.toArray := by
  have h := fill_midI (fun i => some (i * 33, 33)) cells 0 0 l (by rw [hl]) (by omega)
  rw [h]
  congr 2
  rw [List.take_zero, List.nil_append, hl, List.drop_of_length_le (by simp [hc]), List.append_nil]
/-- '[]Item{x}'. -/
theorem wp_build_it {o : Oper} {a : Act} {w : World} {K : Act → World → Prop} {Q : Exit → Act → World → Prop} (dd : Option Tmp) (hdd : o.dst = dd) (x : Operand) (ho : o.op = .buildSlice 28 1 #[(0, x)]) (VL : List Value) (hV : VL.length = 33) (hx : a.eval x = .agg VL.toArray)
    (h : K (a.put dd (.slice (some ⟨w.heap.size, 0, none⟩) 1 1)) (w.alloc (.cells VL.toArray 40))) : Oper.wp Tryz.prog o a w K Q := by
  subst hdd
  obtain ⟨i0, hi, hz0, hz1, hz2⟩ := info_parts itAll
  refine wp_buildSlice 28 40 1 #[(0, x)] ho VL.toArray i0 _ Tryz.underlying28 hi hz0 (by rw [hz1]; decide) (by rw [hz1]; decide) ?_ h
  rw [hz1]
  simp only [List.map_toArray, List.map_cons, List.map_nil, hx]
  exact fill_it VL hV _ (by simp)
theorem wpList_build_it {ops : Array Oper} {rest : List Oper} {o : Oper} {a : Act} {w : World} {Q : Exit → Act → World → Prop} (hg : o.guard = none) (x : Operand) (ho : o.op = .buildSlice 28 1 #[(0, x)]) (VL : List Value) (hV : VL.length = 33) (hx : a.eval x = .agg VL.toArray)
    (h : wpList Tryz.prog ops Q rest (a.put o.dst (.slice (some ⟨w.heap.size, 0, none⟩) 1 1)) (w.alloc (.cells VL.toArray 40))) : wpList Tryz.prog ops Q (o :: rest) a w :=
  wpList_plain hg fun _ hK => wp_build_it o.dst rfl x ho VL hV hx (hK _ _ h)

theorem run_append_it {w : World} {B : Nat} {v : Value} {xs : List Itm} (h : IRow w B v xs) (hB : B ≤ w.heap.size) (ty : TypeId) (g c : Nat) (x : Itm) (hx : x.key.length = 32) (VL : List Value) (hV : VL = itC x) (hg : Arr w g 40 VL) (hm : xs.length ≤ 1000000) :
    ∃ v' w', (Builtin.append_ #[28, 28] ty #[v, .slice (some ⟨g, 0, none⟩) 1 c]).run Tryz.prog w = .ok v' w' ∧ IRow w' B v' (xs ++ [x]) ∧ w.grownBy w' v.ownBlock := by
  obtain ⟨i0, hi, hz0, hz1, hz2⟩ := info_parts itAll
  subst hV
  have hadd : ∀ k, (⟨g, 0, none⟩ : Addr).add k = ⟨g, k, none⟩ := fun k => by unfold Addr.add; split <;> simp_all
  obtain ⟨v', w', h1, h2, h3, _, _⟩ := run_append_own_at (P := Tryz.prog) w B 28 ty 40 i0 (.agg itZ.toArray) 33 56 Tryz.underlying28 hi hz0 hz1 hz2 rfl (by decide) v xs.length (itsC xs) h.2 ⟨g, 0, none⟩ 1 c (itC x) (by rw [itC_length hx]) (fun j u hj => by rw [hadd, hg.cell]; exact hj) (itC_one x) (by unfold maxLen; omega) (by omega) hB
  refine ⟨v', w', h1, ⟨fun y hy => ?_, ?_⟩, h3⟩
  · rcases List.mem_append.1 hy with hy | hy
    · exact h.1 y hy
    · rw [List.mem_singleton] at hy; rw [hy]; exact hx
  · rw [itsC_append, itsC_one, List.length_append]
    exact h2
theorem wpList_append_it {ops : Array Oper} {rest : List Oper} {o : Oper} {a : Act} {w : World} {Q : Exit → Act → World → Prop} (hgd : o.guard = none) (s x : Operand) (ho : o.op = .call { callee := .builtin .append, args := #[s, x], argTypes := #[28, 28] })
    {B : Nat} {v : Value} {xs : List Itm} (h : IRow w B v xs) (hB : B ≤ w.heap.size) (hs : a.eval s = v) (g c : Nat) (hx : a.eval x = .slice (some ⟨g, 0, none⟩) 1 c) (y : Itm) (hy : y.key.length = 32) (VL : List Value) (hV : VL = itC y) (hg : Arr w g 40 VL) (hm : xs.length ≤ 1000000)
    (hK : ∀ v' w', IRow w' B v' (xs ++ [y]) → w.grownBy w' v.ownBlock → wpList Tryz.prog ops Q rest (a.put o.dst v') w') : wpList Tryz.prog ops Q (o :: rest) a w := by
  refine wpList_plain hgd fun K hK' => ?_
  obtain ⟨v', w', hr, h2, h3⟩ := run_append_it h hB o.type g c y hy VL hV hg hm
  unfold Oper.wp execOp
  simp only [ho, resolve, invoke, builtin, Sem.run_bind, Sem.run_pure, Result.andThen_ok, List.map_toArray, List.map_cons, List.map_nil, hs, hx, hr]
  exact hK' _ _ (hK v' w' h2 h3)

end Go.Proofs.YtblgmnjegkfoaaaGreat

namespace Go.Proofs.YtblgmnjegkfoaaaGreat
open Go.RowKit
set_option linter.unusedVariables false
set_option linter.unusedSimpArgs false

theorem gt32I : Tryz.prog.eqGuardType Tryz.prog.depth 24 = false := by kernel_rfl
theorem digCmpI (a b : List UInt8) (ha : a.length = 32) (hb : b.length = 32) (AL BL : List Value) (hA : AL = Lib.byteCells a) (hB : BL = Lib.byteCells b) (r : Bool) (hr : decide (a = b) = r) (w : World) : (Op.equalIn 10000 24 (.agg AL.toArray) (.agg BL.toArray)).run Tryz.prog w = .ok r w := by
  rw [← hr]; exact eqv_at Tryz.underlying24 a b ha hb AL BL hA hB w
/-- Where a key stands, from a place on. -/
def findI : List Itm → List UInt8 → Nat → Int
  | [], _, _ => -1
  | x :: xs, key, i => if x.key = key then (i : Int) else findI xs key (i + 1)
theorem findI_drop {xs : List Itm} {i : Nat} {x : Itm} (h : xs[i]? = some x) (key : List UInt8) (k : Nat) : findI (xs.drop i) key k = if x.key = key then (k : Int) else findI (xs.drop (i + 1)) key (k + 1) := by
  obtain ⟨hi, he⟩ := List.getElem?_eq_some_iff.1 h
  rw [List.drop_eq_getElem_cons hi, he]
  rfl
/-- The items without a key. -/
def dropI (xs : List Itm) (key : List UInt8) : List Itm := xs.filter fun x => decide (x.key ≠ key)
theorem dropI_take {xs : List Itm} {i : Nat} {x : Itm} (h : xs[i]? = some x) (key : List UInt8) : dropI (xs.take (i + 1)) key = dropI (xs.take i) key ++ if x.key = key then [] else [x] := by
  obtain ⟨hi, he⟩ := List.getElem?_eq_some_iff.1 h
  unfold dropI
  rw [List.take_succ_eq_append_getElem hi, List.filter_append, he]
  congr 1
  by_cases e : x.key = key
  · rw [if_pos e]; simp [e]
  · rw [if_neg e]; simp [e]
theorem dropI_len (xs : List Itm) (key : List UInt8) : (dropI xs key).length ≤ xs.length := List.length_filter_le _ _

set_option maxHeartbeats 8000000 in
set_option maxRecDepth 100000 in
theorem find_run (key : List UInt8) (hk : key.length = 32) (KL : List Value) (hKL : KL = Lib.byteCells key) (xs : List Itm) (A : Option Addr) (n c : Nat) (w : World) (hn : xs.length = n) (hc : n ≤ c) (hm : n ≤ 1000000) (hIt : ItsAt w A xs) (z : Int) (hz : findI xs key 0 = z) :
    Calls Tryz.prog 18 #[.slice A n c, .agg KL.toArray] w fun e w' => e = .returned (.int .i64 z) ∧ Below w.heap.size w w' := by
  obtain ⟨W1, hW1⟩ : ∃ W1, W1 = w.alloc (.cells KL.toArray 24) := ⟨_, rfl⟩
  have hK1 : Arr W1 w.heap.size 24 KL := by rw [hW1]; exact Arr.new w _ _
  have hb1 : Below w.heap.size w W1 := by rw [hW1]; exact (Below.refl _ w).alloc (Nat.le_refl _) _
  have HW1 := Lib.hid hW1
  have HKi := Lib.hid (show (Tryz.prog.info? 24).map (·.size) = some KL.length by rw [hKL, Lib.byteCells_length, hk]; kernel_rfl)
  have HIt := Lib.hid hIt
  have Hn := Lib.hid hn
  have HKL := Lib.hid hKL
  have Hz0 : Hid (findI (xs.drop 0) key 0 = z) := hz
  clear hW1 hKL hn hIt hz
  go_enter Tryz.func18, Tryz.ntmps18
  go_upto_region 1 with fail
  change Code.wp _ _ _ _ (w.alloc (.cells KL.toArray 24))
  rw [← HW1.out]
  clear HW1
  go_upto_region 2 with fail
  go_loopw [5] (fun s wr => ∃ i : Nat, i ≤ n ∧ s = .int .i64 i ∧ Arr wr w.heap.size 24 KL ∧ Below w.heap.size w wr ∧ Hid (findI (xs.drop i) key i = z)) (fun s _ => n - (intOf s).toNat)
  case atStart => exact ⟨0, by omega, rfl, hK1, hb1, Hz0⟩
  case round =>
    clear hK1 hb1 Hz0
    obtain ⟨i, hin, rfl, hKr, hbr, Hz⟩ := hrel
    have hItr := HIt.out.up hbr
    by_cases hlt : i < n
    · have hd1 : decide (i < n) = true := by simpa using hlt
      obtain ⟨x, hx⟩ : ∃ x, xs[i]? = some x := ⟨xs[i]'(by rw [Hn.out]; exact hlt), List.getElem?_eq_getElem _⟩
      obtain ⟨b, off, hAe, hbl, hrow⟩ := hItr (by rw [Hn.out]; omega)
      obtain ⟨hxk, hrg⟩ := hrow i x hx
      have Hrow := Lib.hid hrow
      have HAe := Lib.hid hAe
      obtain ⟨YL, hYL⟩ : ∃ YL, YL = Lib.byteCells x.key := ⟨_, rfl⟩
      have hrk := ItsAt.key hrg YL hYL
      have HYi := Lib.hid (show (Tryz.prog.info? 24).map (·.size) = some YL.length by rw [hYL, Lib.byteCells_length, hxk]; kernel_rfl)
      have Hx := Lib.hid hx
      have HYL := Lib.hid hYL
      have Hxk := Lib.hid hxk
      obtain ⟨r0, hr0⟩ : ∃ r0, decide (x.key = key) = r0 := ⟨_, rfl⟩
      have Hcmp := Lib.hid (fun w => digCmpI x.key key hxk hk YL KL hYL HKL.out r0 hr0 w)
      have hstep := Hz.out
      rw [findI_drop hx key i] at hstep
      have Hstep := Lib.hid hstep
      have Hr0 := Lib.hid hr0
      subst hAe
      clear hx hrow hxk hrg hYL hstep hr0 Hz
      go_upto_region 4 with fail
      refine wp_region_held_drew (S := fun w' => Arr w' w.heap.size 24 KL ∧ w'.rangeAt b (off + i * 33) YL) (by kernel_rfl) ⟨hKr.drewN 1, hrk⟩ (fun hHeld => ?_)
      refine anyH_take (i := 0) (v := .slice (some ⟨b, off, none⟩) n c) (some 12) rfl rfl (by kernel_rfl) (by kernel_rfl) (by kernel_rfl) (fun _ _ _ h => h) (Or.inl ⟨by rfl, fun w' hw => by go_simp⟩) (by assumption) ?_
      simp only [Act.put, List.setIfInBounds_toArray, List.set_cons_zero, List.set_cons_succ]
      refine anyH_take (i := 1) (v := .int .i64 (i : Nat)) (some 13) rfl rfl (by kernel_rfl) (by kernel_rfl) (by kernel_rfl) (fun _ _ _ h => h) (Or.inl ⟨by rfl, fun w' hw => by go_simp⟩) (by assumption) ?_
      simp only [Act.put, List.setIfInBounds_toArray, List.set_cons_zero, List.set_cons_succ]
      refine anyH_take (i := 2) (v := .pointer (some ⟨b, off + i * 33, none⟩)) (some 14) rfl rfl (by kernel_rfl) (by kernel_rfl) (by kernel_rfl) (fun _ _ _ h => h) (Or.inl ⟨by rfl, fun w' hw => by (go_simp; try (intro h; omega))⟩) (by assumption) ?_
      simp only [Act.put, List.setIfInBounds_toArray, List.set_cons_zero, List.set_cons_succ]
      refine anyH_take (i := 3) (v := .pointer (some ⟨b, off + i * 33, none⟩)) (some 15) rfl rfl (by kernel_rfl) (by kernel_rfl) (by kernel_rfl) (fun _ _ _ h => h) (Or.inl ⟨by rfl, fun w' hw => by go_simp⟩) (by assumption) ?_
      simp only [Act.put, List.setIfInBounds_toArray, List.set_cons_zero, List.set_cons_succ]
      refine anyH_take (i := 4) (some 16) rfl rfl (by kernel_rfl) (by kernel_rfl) (by kernel_rfl) (fun _ _ _ h => h) (yieldsIf_load_mid (by rfl) 24 (.tmp 15) rfl b (off + i * 33) rfl YL _ (fun w' h => h.2) Tryz.underlying24 rfl HYi.out) (by assumption) ?_
      simp only [Act.put, List.setIfInBounds_toArray, List.set_cons_zero, List.set_cons_succ]
      refine anyH_take (i := 5) (some 17) rfl rfl (by kernel_rfl) (by kernel_rfl) (by kernel_rfl) (fun _ _ _ h => h) (yieldsIf_load_mid (by rfl) 24 (.tmp 3) rfl w.heap.size 0 rfl KL _ (fun w' h => h.1.range) Tryz.underlying24 rfl HKi.out) (by assumption) ?_
      simp only [Act.put, List.setIfInBounds_toArray, List.set_cons_zero, List.set_cons_succ]
      refine anyH_take (i := 6) (v := .bool r0) (some 18) rfl rfl (by kernel_rfl) (by kernel_rfl) (by kernel_rfl) (fun _ _ _ h => h) (Or.inl ⟨by rfl, fun w' hw => by (have hc := Hcmp.out; have hg := gt32I; go_simp)⟩) (by assumption) ?_
      simp only [Act.put, List.setIfInBounds_toArray, List.set_cons_zero, List.set_cons_succ]
      refine wpAnyH_done (by kernel_rfl) ?_ _
      clear hHeld
      cases r0 with
      | true =>
        have hq : x.key = key := by simpa using Hr0.out
        have he := Hstep.out
        rw [if_pos hq] at he
        have He := Lib.hid he
        clear he hq
        go_wp2_with fail
        go_ret
        exact ⟨by rw [← He.out]; rfl, Below.dN hbr 1⟩
      | false =>
        have hq : x.key ≠ key := by simpa using Hr0.out
        have he := Hstep.out
        rw [if_neg hq] at he
        have He := Lib.hid he
        clear he hq
        go_wp2_with fail
        go_roundw
        case rel => exact ⟨i + 1, by omega, by go_num, hKr.drewN 1, Below.dN hbr 1, He⟩
        case measure => simp [intOf]; omega
    · obtain rfl : i = n := by omega
      have hd1 : decide (i < i) = false := by simp
      have hq := Hz.out
      rw [List.drop_of_length_le (by rw [Hn.out]; exact Nat.le_refl _)] at hq
      have hz1 : z = -1 := hq.symm
      have Hz1 := Lib.hid hz1
      clear hq hz1
      go_wp2_with fail
      go_ret
      exact ⟨by rw [Hz1.out]; rfl, hbr⟩

end Go.Proofs.YtblgmnjegkfoaaaGreat

namespace Go.Proofs.YtblgmnjegkfoaaaGreat
open Go.RowKit
set_option linter.unusedVariables false
set_option linter.unusedSimpArgs false

set_option maxHeartbeats 8000000 in
set_option maxRecDepth 100000 in
theorem drop_run (key : List UInt8) (hk : key.length = 32) (KL : List Value) (hKL : KL = Lib.byteCells key) (xs : List Itm) (A : Option Addr) (n c : Nat) (w : World) (hn : xs.length = n) (hc : n ≤ c) (hm : n ≤ 100000) (hIt : ItsAt w A xs) :
    Calls Tryz.prog 26 #[.slice A n c, .agg KL.toArray] w fun e w' => ∃ v, e = .returned v ∧ IRow w' w.heap.size v (dropI xs key) ∧ Below w.heap.size w w' := by
  obtain ⟨W1, hW1⟩ : ∃ W1, W1 = w.alloc (.cells KL.toArray 24) := ⟨_, rfl⟩
  have hK1 : Arr W1 w.heap.size 24 KL := by rw [hW1]; exact Arr.new w _ _
  have hb1 : Below w.heap.size w W1 := by rw [hW1]; exact (Below.refl _ w).alloc (Nat.le_refl _) _
  have HW1 := Lib.hid hW1
  have HKi := Lib.hid (show (Tryz.prog.info? 24).map (·.size) = some KL.length by rw [hKL, Lib.byteCells_length, hk]; kernel_rfl)
  have HIt := Lib.hid hIt
  obtain ⟨W2, hW2⟩ : ∃ W2, W2 = W1.alloc (.cells #[] 40) := ⟨_, rfl⟩
  obtain ⟨g2, hg2⟩ : ∃ g2, g2 = W1.heap.size := ⟨_, rfl⟩
  have hO2 : IRow W2 w.heap.size (.slice (some ⟨g2, 0, none⟩) 0 0) (dropI (xs.take 0) key) := by rw [hW2, hg2]; exact IRow.empty W1 _ hb1.size
  have hK2 : Arr W2 w.heap.size 24 KL := by rw [hW2]; exact hK1.alloc _
  have hb12 : Below W1.heap.size W1 W2 := by rw [hW2]; exact (Below.refl _ W1).alloc (Nat.le_refl _) _
  have hb2 := hb1.trans (hb12.mono hb1.size)
  have HW2 := Lib.hid hW2
  have Hg2 := Lib.hid hg2
  have Hn := Lib.hid hn
  have HKL := Lib.hid hKL
  clear hW1 hW2 hg2 hKL hn hIt hK1 hb1 hb12
  go_enter Tryz.func26, Tryz.ntmps26
  go_upto_region 1 with fail
  change Code.wp _ _ _ _ (w.alloc (.cells KL.toArray 24))
  rw [← HW1.out]
  clear HW1
  go_upto_region 2 with fail
  rw [← Hg2.out]
  change Code.wp _ _ _ _ (W1.alloc (.cells #[] 40))
  rw [← HW2.out]
  clear HW2 Hg2
  go_upto_region 3 with fail
  go_loopw [5, 6] (fun v s wr => ∃ i : Nat, i ≤ n ∧ s = .int .i64 i ∧ Arr wr w.heap.size 24 KL ∧ Below w.heap.size w wr ∧ IRow wr w.heap.size v (dropI (xs.take i) key)) (fun _ s _ => n - (intOf s).toNat)
  case atStart => exact ⟨0, by omega, rfl, hK2, hb2, hO2⟩
  case round =>
    clear hK2 hb2 hO2
    obtain ⟨i, hin, rfl, hKr, hbr, hO⟩ := hrel
    have hItr := HIt.out.up hbr
    by_cases hlt : i < n
    · have hd1 : decide (i < n) = true := by simpa using hlt
      obtain ⟨x, hx⟩ : ∃ x, xs[i]? = some x := ⟨xs[i]'(by rw [Hn.out]; exact hlt), List.getElem?_eq_getElem _⟩
      obtain ⟨b, off, hAe, hbl, hrow⟩ := hItr (by rw [Hn.out]; omega)
      obtain ⟨hxk, hrg⟩ := hrow i x hx
      have Hrow := Lib.hid hrow
      have HAe := Lib.hid hAe
      obtain ⟨YL, hYL⟩ : ∃ YL, YL = Lib.byteCells x.key := ⟨_, rfl⟩
      have hrk := ItsAt.key hrg YL hYL
      have HYi := Lib.hid (show (Tryz.prog.info? 24).map (·.size) = some YL.length by rw [hYL, Lib.byteCells_length, hxk]; kernel_rfl)
      have Hx := Lib.hid hx
      have HYL := Lib.hid hYL
      have Hxk := Lib.hid hxk
      obtain ⟨r0, hr0⟩ : ∃ r0, decide (x.key = key) = r0 := ⟨_, rfl⟩
      have Hcmp := Lib.hid (fun w => digCmpI x.key key hxk hk YL KL hYL HKL.out r0 hr0 w)
      have Hstep := Lib.hid (dropI_take hx key)
      have Hr0 := Lib.hid hr0
      obtain ⟨VL, hVL⟩ : ∃ VL, VL = itC x := ⟨_, rfl⟩
      have hVl : VL.length = 33 := by rw [hVL, itC_length hxk]
      have HVi := Lib.hid (show (Tryz.prog.info? 40).map (·.size) = some VL.length by rw [hVl]; exact itSize)
      rw [← hVL] at hrg
      have HVL := Lib.hid hVL
      have HVl := Lib.hid hVl
      have hlen : (dropI (xs.take i) key).length ≤ 1000000 := by
        have h1 := dropI_len (xs.take i) key
        rw [List.length_take] at h1
        omega
      have Hlen := Lib.hid hlen
      subst hAe
      clear hx hrow hxk hYL hr0 hVL hVl hlen
      go_upto_region 5 with fail
      refine wp_region_held_drew (S := fun w' => Arr w' w.heap.size 24 KL ∧ w'.rangeAt b (off + i * 33) YL) (by kernel_rfl) ⟨hKr.drewN 1, hrk⟩ (fun hHeld => ?_)
      refine anyH_take (i := 0) (v := .slice (some ⟨b, off, none⟩) n c) (some 14) rfl rfl (by kernel_rfl) (by kernel_rfl) (by kernel_rfl) (fun _ _ _ h => h) (Or.inl ⟨by rfl, fun w' hw => by go_simp⟩) (by assumption) ?_
      simp only [Act.put, List.setIfInBounds_toArray, List.set_cons_zero, List.set_cons_succ]
      refine anyH_take (i := 1) (v := .int .i64 (i : Nat)) (some 15) rfl rfl (by kernel_rfl) (by kernel_rfl) (by kernel_rfl) (fun _ _ _ h => h) (Or.inl ⟨by rfl, fun w' hw => by go_simp⟩) (by assumption) ?_
      simp only [Act.put, List.setIfInBounds_toArray, List.set_cons_zero, List.set_cons_succ]
      refine anyH_take (i := 2) (v := .pointer (some ⟨b, off + i * 33, none⟩)) (some 16) rfl rfl (by kernel_rfl) (by kernel_rfl) (by kernel_rfl) (fun _ _ _ h => h) (Or.inl ⟨by rfl, fun w' hw => by (go_simp; try (intro h; omega))⟩) (by assumption) ?_
      simp only [Act.put, List.setIfInBounds_toArray, List.set_cons_zero, List.set_cons_succ]
      refine anyH_take (i := 3) (v := .pointer (some ⟨b, off + i * 33, none⟩)) (some 17) rfl rfl (by kernel_rfl) (by kernel_rfl) (by kernel_rfl) (fun _ _ _ h => h) (Or.inl ⟨by rfl, fun w' hw => by go_simp⟩) (by assumption) ?_
      simp only [Act.put, List.setIfInBounds_toArray, List.set_cons_zero, List.set_cons_succ]
      refine anyH_take (i := 4) (some 18) rfl rfl (by kernel_rfl) (by kernel_rfl) (by kernel_rfl) (fun _ _ _ h => h) (yieldsIf_load_mid (by rfl) 24 (.tmp 17) rfl b (off + i * 33) rfl YL _ (fun w' h => h.2) Tryz.underlying24 rfl HYi.out) (by assumption) ?_
      simp only [Act.put, List.setIfInBounds_toArray, List.set_cons_zero, List.set_cons_succ]
      refine anyH_take (i := 5) (some 19) rfl rfl (by kernel_rfl) (by kernel_rfl) (by kernel_rfl) (fun _ _ _ h => h) (yieldsIf_load_mid (by rfl) 24 (.tmp 3) rfl w.heap.size 0 rfl KL _ (fun w' h => h.1.range) Tryz.underlying24 rfl HKi.out) (by assumption) ?_
      simp only [Act.put, List.setIfInBounds_toArray, List.set_cons_zero, List.set_cons_succ]
      cases r0 with
      | true =>
        refine anyH_take (i := 6) (v := .bool false) (some 20) rfl rfl (by kernel_rfl) (by kernel_rfl) (by kernel_rfl) (fun _ _ _ h => h) (Or.inl ⟨by rfl, fun w' hw => by (have hc := Hcmp.out; have hg := gt32I; go_simp)⟩) (by assumption) ?_
        simp only [Act.put, List.setIfInBounds_toArray, List.set_cons_zero, List.set_cons_succ]
        refine wpAnyH_done (by kernel_rfl) ?_ _
        clear hHeld
        have hq : x.key = key := by simpa using Hr0.out
        have hO' := hO.up (Below.dN (Below.refl wr.heap.size wr) 1)
        rw [show dropI (xs.take i) key = dropI (xs.take (i + 1)) key by rw [Hstep.out, if_pos hq, List.append_nil]] at hO'
        clear hO hq
        go_wp2_with fail
        go_roundw
        case rel => exact ⟨i + 1, by omega, by go_num, hKr.drewN 1, Below.dN hbr 1, hO'⟩
        case measure => simp [intOf]; omega
      | false =>
        refine anyH_take (i := 6) (v := .bool true) (some 20) rfl rfl (by kernel_rfl) (by kernel_rfl) (by kernel_rfl) (fun _ _ _ h => h) (Or.inl ⟨by rfl, fun w' hw => by (have hc := Hcmp.out; have hg := gt32I; go_simp)⟩) (by assumption) ?_
        simp only [Act.put, List.setIfInBounds_toArray, List.set_cons_zero, List.set_cons_succ]
        refine wpAnyH_done (by kernel_rfl) ?_ _
        clear hHeld
        have hq : x.key ≠ key := by simpa using Hr0.out
        have Hq := Lib.hid hq
        clear hq
        obtain ⟨wx, hwx⟩ : ∃ wx, wx = wr.drew := ⟨_, rfl⟩
        rw [← hwx]
        have hKx : Arr wx w.heap.size 24 KL := by rw [hwx]; exact hKr
        have hbx : Below w.heap.size w wx := by rw [hwx]; exact Below.dN hbr 1
        have hOx := hO.up (Below.dN (Below.refl wr.heap.size wr) 1)
        rw [show wr.drewN 1 = wx from hwx.symm] at hOx
        have hrgx : wx.rangeAt b (off + i * 33) VL := by rw [hwx]; exact hrg
        clear hwx hKr hItr hbr hO hrg hrk
        obtain ⟨wl, hwl⟩ : ∃ W, W = wx.alloc (.cells VL.toArray 40) := ⟨_, rfl⟩
        have hVg : Arr wl wx.heap.size 40 VL := by rw [hwl]; exact Arr.new wx _ _
        have hblx : Below wx.heap.size wx wl := by rw [hwl]; exact (Below.refl _ wx).alloc (Nat.le_refl _) _
        have hOl := hOx.up hblx
        have Hwl := Lib.hid hwl
        clear hwl hOx
        go_wp2_with (first
          | (refine wpList_load_mid rfl _ _ rfl b (off + i * 33) rfl VL _ hrgx Tryz.underlying40 rfl HVi.out ?_)
          | (refine wpList_build_it rfl _ rfl VL HVl.out rfl ?_; rw [← Hwl.out])
          | (at_builtin; refine wpList_append_it rfl _ _ rfl hOl (Nat.le_trans hbx.size hblx.size) rfl wx.heap.size 1 rfl x Hxk.out VL HVL.out hVg Hlen.out ?_; intro v' w1 hO1 hg1; have hlt1 : ∀ k, Value.ownBlock _ = some k → w.heap.size ≤ k ∧ k < wl.heap.size := hOl.lt))
        have hb1 : Below w.heap.size w w1 := hbx.trans ((hblx.mono hbx.size).trans ((Below.refl _ _).grown hg1 (Nat.le_trans hbx.size hblx.size) (fun k hk => (hOl.lt k hk).1)))
        have hK1 : Arr w1 w.heap.size 24 KL := (hg1.block w.heap.size (hKx.up hblx).lt (fun e => hOl.apartI (hKx.up hblx) (by decide) _ e.symm rfl)).trans (hKx.up hblx)
        rw [show dropI (xs.take i) key ++ [x] = dropI (xs.take (i + 1)) key by rw [Hstep.out, if_neg Hq.out]] at hO1
        go_roundw
        case rel => exact ⟨i + 1, by omega, by go_num, hK1, hb1, hO1⟩
        case measure => simp [intOf]; omega
    · obtain rfl : i = n := by omega
      have hd1 : decide (i < i) = false := by simp
      rw [List.take_of_length_le (by rw [Hn.out]; exact Nat.le_refl _)] at hO
      go_wp2_with fail
      go_ret
      exact ⟨_, rfl, hO, hbr⟩

end Go.Proofs.YtblgmnjegkfoaaaGreat

namespace Go.Proofs.YtblgmnjegkfoaaaGreat
open Go.RowKit
set_option linter.unusedVariables false
set_option linter.unusedSimpArgs false

/-- Is a row of bytes less than another one? -/
def lessF : List UInt8 → List UInt8 → Bool
  | a :: xs, b :: ys => if a = b then lessF xs ys else decide (a.toNat < b.toNat)
  | _, _ => false
theorem lessF_cons (a b : UInt8) (xs ys : List UInt8) : lessF (a :: xs) (b :: ys) = if a = b then lessF xs ys else decide (a.toNat < b.toNat) := rfl
theorem lessF_drop {a b : List UInt8} {i x y : Nat} (ha : i < a.length) (hb : i < b.length) (hx : (a.getD i 0).toNat = x) (hy : (b.getD i 0).toNat = y) :
    lessF (a.drop i) (b.drop i) = if x = y then lessF (a.drop (i + 1)) (b.drop (i + 1)) else decide (x < y) := by
  rw [List.drop_eq_getElem_cons ha, List.drop_eq_getElem_cons hb]
  have e1 : a.getD i 0 = a[i] := by simp [List.getD, ha]
  have e2 : b.getD i 0 = b[i] := by simp [List.getD, hb]
  rw [e1] at hx
  rw [e2] at hy
  rw [lessF_cons]
  by_cases h : a[i] = b[i]
  · rw [if_pos h, if_pos (by rw [← hx, ← hy, h])]
  · rw [if_neg h, if_neg (fun e => h (UInt8.toNat_inj.1 (by rw [hx, hy, e]))), hx, hy]

set_option maxHeartbeats 4000000 in
set_option maxRecDepth 100000 in
theorem less_run (a b : List UInt8) (ha : a.length = 32) (hb : b.length = 32) (AL BL : List Value) (hAL : AL = Lib.byteCells a) (hBL : BL = Lib.byteCells b) (r : Bool) (hr : lessF a b = r) (w : World) :
    Calls Tryz.prog 47 #[.agg AL.toArray, .agg BL.toArray] w fun e w' => e = .returned (.bool r) ∧ Below w.heap.size w w' := by
  obtain ⟨W1, hW1⟩ : ∃ W1, W1 = w.alloc (.cells AL.toArray 24) := ⟨_, rfl⟩
  obtain ⟨W2, hW2⟩ : ∃ W2, W2 = W1.alloc (.cells BL.toArray 24) := ⟨_, rfl⟩
  have hA1 : Arr W1 w.heap.size 24 AL := by rw [hW1]; exact Arr.new w _ _
  have hb1 : Below w.heap.size w W1 := by rw [hW1]; exact (Below.refl _ w).alloc (Nat.le_refl _) _
  have hz1 : W1.heap.size = w.heap.size + 1 := by rw [hW1]; simp
  have hA2 : Arr W2 w.heap.size 24 AL := by rw [hW2]; exact hA1.alloc _
  obtain ⟨g, hg⟩ : ∃ g, g = w.heap.size + 1 := ⟨_, rfl⟩
  have hB2 : Arr W2 g 24 BL := by rw [hW2, hg, ← hz1]; exact Arr.new W1 _ _
  have hb2 : Below w.heap.size w W2 := by rw [hW2]; exact hb1.alloc hb1.size _
  have HW1 := Lib.hid hW1
  have HW2 := Lib.hid hW2
  have Hg := Lib.hid hg
  have HAL := Lib.hid hAL
  have HBL := Lib.hid hBL
  have Hr0 : Hid (lessF (a.drop 0) (b.drop 0) = r) := hr
  clear hW1 hW2 hg hA1 hb1 hz1 hAL hBL hr
  go_enter Tryz.func47, Tryz.ntmps47
  go_upto_region 1 with fail
  change Code.wp _ _ _ _ ((w.alloc (.cells AL.toArray 24)).alloc (.cells BL.toArray 24))
  rw [← HW1.out, ← HW2.out, ← Hg.out]
  clear HW1 HW2 Hg
  go_upto_region 2 with fail
  go_loopw [5] (fun x wr => ∃ i : Nat, i ≤ 32 ∧ x = .int .i64 i ∧ Arr wr w.heap.size 24 AL ∧ Arr wr g 24 BL ∧ Below w.heap.size w wr ∧ Hid (lessF (a.drop i) (b.drop i) = r)) (fun x _ => 32 - (intOf x).toNat)
  case atStart => exact ⟨0, by omega, rfl, hA2, hB2, hb2, Hr0⟩
  case round =>
    clear hA2 hB2 hb2 Hr0
    obtain ⟨i, hi32, rfl, hA, hB, hbw, Hr⟩ := hrel
    by_cases hlt : i < 32
    · obtain ⟨x, hx⟩ : ∃ x, (a.getD i 0).toNat = x := ⟨_, rfl⟩
      obtain ⟨y, hy⟩ : ∃ y, (b.getD i 0).toNat = y := ⟨_, rfl⟩
      have hd := Hr.out
      rw [lessF_drop (by omega) (by omega) hx hy] at hd
      have hx256 : x < 256 := by rw [← hx]; exact UInt8.toNat_lt _
      have hy256 : y < 256 := by rw [← hy]; exact UInt8.toNat_lt _
      have hcx : wr.cell? ⟨w.heap.size, i, none⟩ = some (.int .u8 (x : Nat)) := by rw [hA.cell, HAL.out, ← hx]; exact byteCells_get (by omega)
      have hcy : wr.cell? ⟨g, i, none⟩ = some (.int .u8 (y : Nat)) := by rw [hB.cell, HBL.out, ← hy]; exact byteCells_get (by omega)
      have hd1 : decide ((i : Int) < (32 : Int)) = true := by simp; omega
      have hi2 : (i : Int) < 32 := by omega
      by_cases hxy : x = y
      · rw [if_pos hxy] at hd
        have Hd := Lib.hid hd
        subst hxy
        clear hd hx hy Hr
        go_upto_region 4 with fail
        go_quiet (fail)
        go_wp2_with fail
        go_roundw
        case rel => exact ⟨i + 1, by omega, by go_num, hA.drewN _, hB.drewN _, Below.dN hbw _, Hd⟩
        case measure => simp [intOf]; omega
      · rw [if_neg hxy] at hd
        have hne : ((x : Int) == (y : Int)) = false := by rw [beq_eq_false_iff_ne]; omega
        have hd2 : decide (x < y) = r := hd
        clear hd hx hy Hr
        go_upto_region 4 with fail
        go_quiet (fail)
        go_wp2_with fail
        go_quiet (fail)
        go_wp2_with fail
        go_ret
        refine ⟨?_, ?_⟩
        · first | rfl | (rw [hd2]; rfl)
        · first | exact Below.dN (Below.dN hbw _) _ | exact Below.dN hbw _
    · obtain rfl : i = 32 := by omega
      have hd1 : decide (((32 : Nat) : Int) < (32 : Int)) = false := by simp
      have hd := Hr.out
      rw [List.drop_of_length_le (by omega)] at hd
      have hr : r = false := by rw [← hd]; unfold lessF; rfl
      subst hr
      go_wp2_with fail
      go_ret
      exact ⟨rfl, hbw⟩

end Go.Proofs.YtblgmnjegkfoaaaGreat

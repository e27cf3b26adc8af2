/-
  The law AuditBlocks.
-/
import Derived.Test.YtlailhjpfadpcaaGen
import Derived.Test.YtlailhjpfadpcaaShaAt
import Derived.Test.YtlailhjpfadpcaaRefNum
import Derived.Lib.ConvBytes
import Derived.Outline
import Derived.Handy
import Derived.Deep.DeepCutAuto
import Derived.Deep.CutBlock
import Derived.Test.YtlailhjpfadpcaaTagged
import Derived.Deep.Slices
import Derived.Deep.Fields
import Derived.ChangeSame
import Derived.OpenShut
import Derived.Test.YtlailhjpfadpcaaAuNoneA
import Derived.Test.YtlailhjpfadpcaaPCheck
import Derived.Test.YtlailhjpfadpcaaPRCheck
import Derived.Test.YtlailhjpfadpcaaSame
namespace Go.Proofs.Ytlailhjpfadpcaa
open Go.RowKit
set_option linter.unusedVariables false
set_option linter.unusedSimpArgs false

set_option maxRecDepth 100000
/-- A whole number, taken modulo 2^64. -/
def uF (a : Int) : Nat := (IntKind.u64.wrap a).toNat

theorem uF_wrap (a : Int) : IntKind.u64.wrap a = ((uF a : Nat) : Int) ∧ uF a < 18446744073709551616 := by
  unfold uF
  have h : IntKind.u64.wrap a = a % 18446744073709551616 := by rw [IntKind.wrap_u64]
  omega
theorem rows_two {w : World} {B : Nat} {A A' : Option Addr} {l l' : List UInt8} {n c n' c' : Nat} (T : TypeId) (hn : l.length = n) (hc : n ≤ c) (hm : c ≤ maxLen) (h : Bs w B A l) (hn' : l'.length = n') (hc' : n' ≤ c') (hm' : c' ≤ maxLen) (h' : Bs w B A' l') (hB : B ≤ w.heap.size) :
    RowsAt (w.alloc (.cells #[.slice A n c, .slice A' n' c'] T)) (w.heap.size + 1) (some ⟨w.heap.size, 0, none⟩) [l, l'] := fun _ => by
  subst hn hn'
  have ha := Arr.new w T [.slice A l.length c, .slice A' l'.length c']
  have hb : Below w.heap.size w (w.alloc (.cells #[.slice A l.length c, .slice A' l'.length c'] T)) := (Below.refl _ w).alloc (Nat.le_refl _) _
  refine ⟨w.heap.size, 0, rfl, by omega, fun i hi => ?_⟩
  have hi2 : i = 0 ∨ i = 1 := by simp at hi; omega
  rcases hi2 with rfl | rfl
  · exact ⟨A, c, ha.cell 0, hc, hm, (h.below hb hB).more (by omega)⟩
  · exact ⟨A', c', ha.cell 1, hc', hm', (h'.below hb hB).more (by omega)⟩
theorem owns_emptyK (w : World) (B : Nat) (hB : B ≤ w.heap.size) : Owns (w.alloc (.cells #[] 5)) B 5 (.slice (some ⟨w.heap.size, 0, none⟩) 0 0) [] :=
  ⟨rfl, .inr ⟨w.heap.size, 0, #[], rfl, hB, heap_alloc_new w _, Nat.le_refl _, by unfold maxLen; omega, rfl, rfl⟩⟩

def keyF (nm : ByteArray) (num : Int) : List UInt8 := shaF (tagF 7 [nm.data.toList, Lib.uvarint (uF num)])
set_option maxHeartbeats 8000000 in
theorem key_any (nm : ByteArray) (hs : nm.size ≤ 1000) (num : Int) (KL : List Value) (hKL : KL = Lib.byteCells (keyF nm num)) (w : World) :
    Calls Try.prog 22 #[.string nm, .int .i64 num] w fun e w' => e = .returned (.agg KL.toArray) ∧ Below w.heap.size w w' := by
  have hkl : KL.length = 32 := by rw [hKL, Lib.byteCells_length]; exact shaF_length _
  obtain ⟨bs, hbs⟩ : ∃ z, z = nm.data.toList := ⟨_, rfl⟩
  have hal : bs.length = nm.size := by rw [hbs]; rfl
  obtain ⟨x, hx⟩ : ∃ z, uF num = z := ⟨_, rfl⟩
  have hxw : IntKind.u64.wrap num = (x : Int) := by rw [← hx]; exact (uF_wrap num).1
  have hxl : x < 18446744073709551616 := by rw [← hx]; exact (uF_wrap num).2
  obtain ⟨ux, hux⟩ : ∃ z, z = Lib.uvarint x := ⟨_, rfl⟩
  have hul : ux.length ≤ 10 := by rw [hux]; exact Lib.uvarint_length64 hxl
  have hKL2 : KL = Lib.byteCells (shaF (tagF 7 [bs, ux])) := by rw [hKL, hux, hbs, ← hx]; rfl
  have hlim : (tagF 7 [bs, ux]).length ≤ 1000000 := by
    have h1 := Lib.uvarint_length64 (x := bs.length) (by omega)
    have h2 := Lib.uvarint_length64 (x := ux.length) (by omega)
    simp [tagF]
    omega
  obtain ⟨ZL, hZL⟩ : ∃ z, z = Lib.byteCells zeros := ⟨_, rfl⟩
  obtain ⟨W1, hW1⟩ : ∃ z, z = w.alloc (.cells (Lib.byteCells zeros).toArray 24) := ⟨_, rfl⟩
  have hb1 : Below w.heap.size w W1 := by rw [hW1]; exact (Below.refl _ w).alloc (Nat.le_refl _) _
  have hR1 : Arr W1 w.heap.size 24 ZL := by rw [hW1, hZL]; exact Arr.new w _ _
  obtain ⟨cp, hcp⟩ : ∃ z, z = grownCap W1 nm.size 0 5 := ⟨_, rfl⟩
  have hcge : nm.size ≤ cp := by rw [hcp]; exact grownCap_ge W1 nm.size 0 5
  have hcmx : cp ≤ maxLen := by rw [hcp]; exact grownCap_le_maxLen W1 nm.size 0 5 (by unfold maxLen; omega)
  obtain ⟨W2, hW2⟩ : ∃ z, z = Lib.bytesWorld W1 5 nm := ⟨_, rfl⟩
  have hcv : (convert 9 40 (.string nm)).run Try.prog W1 = .ok (.slice (some ⟨W1.heap.size, 0, none⟩) bs.length cp) W2 := by
    rw [hal, hcp, hW2]
    exact Lib.run_convert_string_bytes W1 _ _ 5 nm Try.underlying9 Try.underlying40 Try.underlying5
  have hb12 : Below W1.heap.size W1 W2 := by
    rw [hW2]
    exact ⟨rfl, rfl, rfl, by rw [Lib.bytesWorld_size]; omega, fun i hi => Lib.bytesWorld_at_old W1 _ nm i hi⟩
  have hbb : Bs W2 W2.heap.size (some ⟨W1.heap.size, 0, none⟩) bs := fun hp => ⟨W1.heap.size, 0, rfl, by rw [hW2, Lib.bytesWorld_size]; omega, fun j hj => by
    rw [hW2, Nat.zero_add, hbs]
    exact Lib.bytesWorld_cell W1 _ nm j (by rw [← hal]; exact hj)⟩
  have hbw2 : Below w.heap.size w W2 := hb1.trans (hb12.mono hb1.size)
  have hR2 : Arr W2 w.heap.size 24 ZL := hR1.up hb12
  obtain ⟨W3, hW3⟩ : ∃ z, z = W2 := ⟨_, rfl⟩
  have hb23 : Below W2.heap.size W2 W3 := by rw [hW3]; exact Below.refl _ _
  have hO3 : Owns W3 W2.heap.size 5 (.slice none 0 0) [] := Owns.nil _ _ _
  have Hn := Lib.hid (number_any W2.heap.size x hxl (.slice none 0 0) [] W3 hO3 hb23.size (by simp))
  have HW3 := Lib.hid hW3
  have HO3 := Lib.hid hO3
  clear hW3 hO3
  have Hki := Lib.hid (show (Try.prog.info? 24).map (·.size) = some KL.toArray.size ∧ ZL.toArray.size = KL.toArray.size by rw [List.size_toArray, List.size_toArray, hkl, hZL]; exact ⟨digInfo, rfl⟩)
  have Hs1 := Lib.hid (show KL.toArray.all (·.oneCell') = true by rw [hKL]; exact dig_one _)
  have HKL2 := Lib.hid hKL2
  have HW1 := Lib.hid hW1
  have Hux := Lib.hid hux
  have Hbw2 := Lib.hid hbw2
  have Hbb := Lib.hid hbb
  have Hb23 := Lib.hid hb23
  have HR2 := Lib.hid hR2
  have Hlim := Lib.hid hlim
  have Hlen := Lib.hid (show bs.length ≤ cp ∧ cp ≤ maxLen ∧ bs.length ≤ 1000 from ⟨by omega, hcmx, by omega⟩)
  clear hKL hkl hbs hx hux hKL2 hlim hZL hW1 hb1 hR1 hcp hcge hcmx hW2 hb12 hbb hbw2 hR2 hal hb23 hul
  go_enter Try.func22, Try.ntmps22
  go_upto_region 1 with fail
  change Code.wp _ _ _ _ (w.alloc (.cells (Lib.byteCells zeros).toArray 24))
  rw [← HW1.out]
  clear HW1
  go_wp2_with fail
  rw [← HW3.out]
  refine Calls.mono Hn.out ?_
  rintro e w4 ⟨v4, rfl, hO4, hg4⟩
  rw [List.nil_append, ← Hux.out] at hO4
  have hb24 : Below W2.heap.size W2 w4 := Hb23.out.trans (hg4.below Hb23.out.size fun k hk => (HO3.out.lt k hk).1)
  obtain ⟨A4, c4, rfl, hc4, hcm4, hbs4⟩ := Owns.slice hO4
  obtain ⟨nu, hnu⟩ : ∃ z, ux.length = z := ⟨_, rfl⟩
  rw [hnu] at hc4 ⊢
  obtain ⟨w5, hw5⟩ : ∃ z, z = w4.alloc (.cells #[.slice (some ⟨W1.heap.size, 0, none⟩) bs.length cp, .slice A4 nu c4] 40) := ⟨_, rfl⟩
  have hb45 : Below w4.heap.size w4 w5 := by rw [hw5]; exact (Below.refl _ _).alloc (Nat.le_refl _) _
  have hrw : RowsAt w5 w5.heap.size (some ⟨w4.heap.size, 0, none⟩) [bs, ux] := by
    rw [hw5]
    have h := rows_two (w := w4) (B := w4.heap.size) 40 (rfl : bs.length = bs.length) Hlen.out.1 Hlen.out.2.1 ((Hbb.out.below hb24 (Nat.le_refl _)).more hb24.size) hnu hc4 hcm4 hbs4 (Nat.le_refl _)
    simpa using h
  have Htag := Lib.hid (tag_at 7 7 [bs, ux] KL (some ⟨w4.heap.size, 0, none⟩) 2 2 w5 rfl HKL2.out rfl (by omega) hrw Hlim.out)
  have hbw5 : Below w.heap.size w w5 := (Hbw2.out.trans (hb24.mono Hbw2.out.size)).trans (hb45.mono (Hbw2.out.trans (hb24.mono Hbw2.out.size)).size)
  have HR5 := Lib.hid ((HR2.out.up hb24).up hb45)
  have Hw5 := Lib.hid hw5
  have hbl := Hlen.out.1
  have Hbw5 := Lib.hid hbw5
  clear hw5 hb45 hrw hO4 hg4 hb24 hbs4 hnu Hn hbw5 HR2
  go_wp2_with fail
  (try change Calls _ _ _ (w4.alloc (.cells #[.slice (some ⟨W1.heap.size, 0, none⟩) bs.length cp, .slice A4 nu c4] 40)) _)
  rw [← Hw5.out]
  refine Calls.mono Htag.out ?_
  rintro e w6 ⟨rfl, hb6⟩
  have HR6 := Lib.hid (HR5.out.up hb6)
  have Hset := Lib.hid (HR6.out.setRow KL)
  have hb66 : Below w.heap.size w w6 := Hbw5.out.trans (hb6.mono Hbw5.out.size)
  have Hb7 := Lib.hid (show Below w.heap.size w (w6.setRow w.heap.size KL.toArray) from hb66.trans (((Only.refl (fun k => k = w.heap.size) w6).setRow (.inl rfl) _).below hb66.size (by rintro k rfl; exact Nat.le_refl _)))
  clear hb6 hb66 Htag
  dsimp only
  go_wp2_with (refine wpList_store_row rfl _ _ _ rfl w.heap.size KL.toArray rfl rfl 24 ZL.toArray HR6.out Hki.out.1 Hki.out.2 Hs1.out ?_)
  exact bodyPost_ret (v := .agg KL.toArray) (results_cell_row (by rfl) _ _ w.heap.size 24 KL.toArray (0, 0) _ (by rfl) Hset.out Try.underlying24 rfl Hki.out.1) rfl ⟨rfl, Hb7.out⟩
set_option maxHeartbeats 8000000 in
theorem rkey_any (nm : ByteArray) (hs : nm.size ≤ 1000) (num : Int) (KL : List Value) (hKL : KL = Lib.byteCells (keyF nm num)) (w : World) :
    Calls Try.prog 13 #[.string nm, .int .i64 num] w fun e w' => e = .returned (.agg KL.toArray) ∧ Below w.heap.size w w' := by
  have hkl : KL.length = 32 := by rw [hKL, Lib.byteCells_length]; exact shaF_length _
  obtain ⟨bs, hbs⟩ : ∃ z, z = nm.data.toList := ⟨_, rfl⟩
  have hal : bs.length = nm.size := by rw [hbs]; rfl
  obtain ⟨x, hx⟩ : ∃ z, uF num = z := ⟨_, rfl⟩
  have hxw : IntKind.u64.wrap num = (x : Int) := by rw [← hx]; exact (uF_wrap num).1
  have hxl : x < 18446744073709551616 := by rw [← hx]; exact (uF_wrap num).2
  obtain ⟨ux, hux⟩ : ∃ z, z = Lib.uvarint x := ⟨_, rfl⟩
  have hul : ux.length ≤ 10 := by rw [hux]; exact Lib.uvarint_length64 hxl
  have hKL2 : KL = Lib.byteCells (shaF (tagF 7 [bs, ux])) := by rw [hKL, hux, hbs, ← hx]; rfl
  have hlim : (tagF 7 [bs, ux]).length ≤ 1000000 := by
    have h1 := Lib.uvarint_length64 (x := bs.length) (by omega)
    have h2 := Lib.uvarint_length64 (x := ux.length) (by omega)
    simp [tagF]
    omega
  obtain ⟨ZL, hZL⟩ : ∃ z, z = Lib.byteCells zeros := ⟨_, rfl⟩
  obtain ⟨W1, hW1⟩ : ∃ z, z = w.alloc (.cells (Lib.byteCells zeros).toArray 24) := ⟨_, rfl⟩
  have hb1 : Below w.heap.size w W1 := by rw [hW1]; exact (Below.refl _ w).alloc (Nat.le_refl _) _
  have hR1 : Arr W1 w.heap.size 24 ZL := by rw [hW1, hZL]; exact Arr.new w _ _
  obtain ⟨cp, hcp⟩ : ∃ z, z = grownCap W1 nm.size 0 5 := ⟨_, rfl⟩
  have hcge : nm.size ≤ cp := by rw [hcp]; exact grownCap_ge W1 nm.size 0 5
  have hcmx : cp ≤ maxLen := by rw [hcp]; exact grownCap_le_maxLen W1 nm.size 0 5 (by unfold maxLen; omega)
  obtain ⟨W2, hW2⟩ : ∃ z, z = Lib.bytesWorld W1 5 nm := ⟨_, rfl⟩
  have hcv : (convert 9 40 (.string nm)).run Try.prog W1 = .ok (.slice (some ⟨W1.heap.size, 0, none⟩) bs.length cp) W2 := by
    rw [hal, hcp, hW2]
    exact Lib.run_convert_string_bytes W1 _ _ 5 nm Try.underlying9 Try.underlying40 Try.underlying5
  have hb12 : Below W1.heap.size W1 W2 := by
    rw [hW2]
    exact ⟨rfl, rfl, rfl, by rw [Lib.bytesWorld_size]; omega, fun i hi => Lib.bytesWorld_at_old W1 _ nm i hi⟩
  have hbb : Bs W2 W2.heap.size (some ⟨W1.heap.size, 0, none⟩) bs := fun hp => ⟨W1.heap.size, 0, rfl, by rw [hW2, Lib.bytesWorld_size]; omega, fun j hj => by
    rw [hW2, Nat.zero_add, hbs]
    exact Lib.bytesWorld_cell W1 _ nm j (by rw [← hal]; exact hj)⟩
  have hbw2 : Below w.heap.size w W2 := hb1.trans (hb12.mono hb1.size)
  have hR2 : Arr W2 w.heap.size 24 ZL := hR1.up hb12
  obtain ⟨W3, hW3⟩ : ∃ z, z = W2.alloc (.cells #[] 5) := ⟨_, rfl⟩
  have hb23 : Below W2.heap.size W2 W3 := by rw [hW3]; exact (Below.refl _ _).alloc (Nat.le_refl _) _
  have hO3 : Owns W3 W2.heap.size 5 (.slice (some ⟨W2.heap.size, 0, none⟩) 0 0) [] := by rw [hW3]; exact owns_emptyK W2 _ (Nat.le_refl _)
  have Hn := Lib.hid (rnumber_any W2.heap.size x hxl (.slice (some ⟨W2.heap.size, 0, none⟩) 0 0) [] W3 hO3 hb23.size (by simp))
  have HW3 := Lib.hid hW3
  have HO3 := Lib.hid hO3
  clear hW3 hO3
  have Hki := Lib.hid (show (Try.prog.info? 24).map (·.size) = some KL.toArray.size ∧ ZL.toArray.size = KL.toArray.size by rw [List.size_toArray, List.size_toArray, hkl, hZL]; exact ⟨digInfo, rfl⟩)
  have Hs1 := Lib.hid (show KL.toArray.all (·.oneCell') = true by rw [hKL]; exact dig_one _)
  have HKL2 := Lib.hid hKL2
  have HW1 := Lib.hid hW1
  have Hux := Lib.hid hux
  have Hbw2 := Lib.hid hbw2
  have Hbb := Lib.hid hbb
  have Hb23 := Lib.hid hb23
  have HR2 := Lib.hid hR2
  have Hlim := Lib.hid hlim
  have Hlen := Lib.hid (show bs.length ≤ cp ∧ cp ≤ maxLen ∧ bs.length ≤ 1000 from ⟨by omega, hcmx, by omega⟩)
  clear hKL hkl hbs hx hux hKL2 hlim hZL hW1 hb1 hR1 hcp hcge hcmx hW2 hb12 hbb hbw2 hR2 hal hb23 hul
  go_enter Try.func13, Try.ntmps13
  go_upto_region 1 with fail
  change Code.wp _ _ _ _ (w.alloc (.cells (Lib.byteCells zeros).toArray 24))
  rw [← HW1.out]
  clear HW1
  go_wp2_with fail
  change Calls _ _ _ (W2.alloc (.cells #[] 5)) _
  rw [← HW3.out]
  refine Calls.mono Hn.out ?_
  rintro e w4 ⟨v4, rfl, hO4, hg4⟩
  rw [List.nil_append, ← Hux.out] at hO4
  have hb24 : Below W2.heap.size W2 w4 := Hb23.out.trans (hg4.below Hb23.out.size fun k hk => (HO3.out.lt k hk).1)
  obtain ⟨A4, c4, rfl, hc4, hcm4, hbs4⟩ := Owns.slice hO4
  obtain ⟨nu, hnu⟩ : ∃ z, ux.length = z := ⟨_, rfl⟩
  rw [hnu] at hc4 ⊢
  obtain ⟨w5, hw5⟩ : ∃ z, z = w4.alloc (.cells #[.slice (some ⟨W1.heap.size, 0, none⟩) bs.length cp, .slice A4 nu c4] 40) := ⟨_, rfl⟩
  have hb45 : Below w4.heap.size w4 w5 := by rw [hw5]; exact (Below.refl _ _).alloc (Nat.le_refl _) _
  have hrw : RowsAt w5 w5.heap.size (some ⟨w4.heap.size, 0, none⟩) [bs, ux] := by
    rw [hw5]
    have h := rows_two (w := w4) (B := w4.heap.size) 40 (rfl : bs.length = bs.length) Hlen.out.1 Hlen.out.2.1 ((Hbb.out.below hb24 (Nat.le_refl _)).more hb24.size) hnu hc4 hcm4 hbs4 (Nat.le_refl _)
    simpa using h
  have Htag := Lib.hid (rtag_at 7 7 [bs, ux] KL (some ⟨w4.heap.size, 0, none⟩) 2 2 w5 rfl HKL2.out rfl (by omega) hrw Hlim.out)
  have hbw5 : Below w.heap.size w w5 := (Hbw2.out.trans (hb24.mono Hbw2.out.size)).trans (hb45.mono (Hbw2.out.trans (hb24.mono Hbw2.out.size)).size)
  have HR5 := Lib.hid ((HR2.out.up hb24).up hb45)
  have Hw5 := Lib.hid hw5
  have hbl := Hlen.out.1
  have Hbw5 := Lib.hid hbw5
  clear hw5 hb45 hrw hO4 hg4 hb24 hbs4 hnu Hn hbw5 HR2
  go_wp2_with fail
  (try change Calls _ _ _ (w4.alloc (.cells #[.slice (some ⟨W1.heap.size, 0, none⟩) bs.length cp, .slice A4 nu c4] 40)) _)
  rw [← Hw5.out]
  refine Calls.mono Htag.out ?_
  rintro e w6 ⟨rfl, hb6⟩
  have HR6 := Lib.hid (HR5.out.up hb6)
  have Hset := Lib.hid (HR6.out.setRow KL)
  have hb66 : Below w.heap.size w w6 := Hbw5.out.trans (hb6.mono Hbw5.out.size)
  have Hb7 := Lib.hid (show Below w.heap.size w (w6.setRow w.heap.size KL.toArray) from hb66.trans (((Only.refl (fun k => k = w.heap.size) w6).setRow (.inl rfl) _).below hb66.size (by rintro k rfl; exact Nat.le_refl _)))
  clear hb6 hb66 Htag
  dsimp only
  go_wp2_with (refine wpList_store_row rfl _ _ _ rfl w.heap.size KL.toArray rfl rfl 24 ZL.toArray HR6.out Hki.out.1 Hki.out.2 Hs1.out ?_)
  exact bodyPost_ret (v := .agg KL.toArray) (results_cell_row (by rfl) _ _ w.heap.size 24 KL.toArray (0, 0) _ (by rfl) Hset.out Try.underlying24 rfl Hki.out.1) rfl ⟨rfl, Hb7.out⟩

end Go.Proofs.Ytlailhjpfadpcaa

namespace Go.Proofs.Ytlailhjpfadpcaa
open Go.RowKit
set_option linter.unusedVariables false

def greatA (rs : List (List UInt8)) : Bool := decide (40 < rs.length) || rs.any fun r => decide (3000 < r.length)
theorem greatA_no {rs : List (List UInt8)} (h : greatA rs = false) : rs.length ≤ 40 ∧ ∀ r ∈ rs, r.length ≤ 3000 := by
  unfold greatA at h
  simp only [Bool.or_eq_false_iff, decide_eq_false_iff_not, List.any_eq_false, decide_eq_true_eq] at h
  exact ⟨by omega, fun r hr => by have := h.2 r hr; omega⟩
theorem greatA_many {rs : List (List UInt8)} (h : 40 < rs.length) : greatA rs = true := by unfold greatA; rw [decide_eq_true h, Bool.true_or]
theorem greatA_long {rs : List (List UInt8)} {k : Nat} (hk : k < rs.length) (h : 3000 < (rs.getD k []).length) : greatA rs = true := by
  unfold greatA
  rw [Bool.or_eq_true]
  refine .inr (List.any_eq_true.2 ⟨rs.getD k [], by simp [List.getD, hk], decide_eq_true h⟩)
theorem greatA_none {rs : List (List UInt8)} (h : rs.length ≤ 40) (hr : ∀ k, k < rs.length → (rs.getD k []).length ≤ 3000) : greatA rs = false := by
  unfold greatA
  rw [Bool.or_eq_false_iff]
  refine ⟨decide_eq_false (by omega), List.any_eq_false.2 fun r hm => ?_⟩
  obtain ⟨k, hk, rfl⟩ := List.getElem_of_mem hm
  have := hr k hk
  simp [List.getD, hk] at this
  simp
  omega

set_option maxHeartbeats 4000000 in
theorem greatA_any (B : Nat) (rs : List (List UInt8)) (A : Option Addr) (n c : Nat) (w : World) (hn : rs.length = n) (hc : n ≤ c) (hm : c ≤ 9223372036854775807) (hrs : RowsAt w B A rs) :
    Calls Try.prog 7 #[.slice A n c] w fun e w' => e = .returned (.bool (greatA rs)) ∧ w' = w := by
  by_cases h70 : 40 < n
  · have hd : decide ((40 : Int) < (n : Int)) = true := by simp; omega
    have hg := Lib.hid (greatA_many (rs := rs) (by omega))
    have Hn := Lib.hid hn
    clear hn
    go_enter Try.func7, Try.ntmps7
    go_wp2
    go_ret
    exact ⟨by rw [hg.out]; rfl, rfl⟩
  · have hd : decide ((40 : Int) < (n : Int)) = false := by simp; omega
    have Hn := Lib.hid hn
    clear hn
    go_enter Try.func7, Try.ntmps7
    go_wp2
    go_loop [10] (fun i => ∃ k : Nat, k ≤ n ∧ i = .int .i64 k ∧ Hid (∀ j, j < k → (rs.getD j []).length ≤ 3000)) (fun i => n - (intOf i).toNat)
    case atStart => exact ⟨0, Nat.zero_le _, rfl, fun j hj => by omega⟩
    case round =>
      obtain ⟨k, hk, rfl, Hr⟩ := hrel
      by_cases hlt : k < n
      · have hkr : k < rs.length := by rw [Hn.out]; exact hlt
        obtain ⟨blk, off, rfl, hblk, hrow⟩ := hrs (by omega)
        obtain ⟨A', c', hcell, hlc, hcm, hbs⟩ := hrow k hkr
        obtain ⟨l, hl⟩ : ∃ l, (rs.getD k []).length = l := ⟨_, rfl⟩
        rw [hl] at hcell hlc
        have Hl := Lib.hid hl
        clear hl hrow hbs
        by_cases hlong : 3000 < l
        · have hd2 : decide ((3000 : Int) < (l : Int)) = true := by simp; omega
          have hg := Lib.hid (greatA_long hkr (by rw [Hl.out]; exact hlong))
          go_wp2
          go_ret
          exact ⟨by rw [hg.out]; rfl, rfl⟩
        · have hd2 : decide ((3000 : Int) < (l : Int)) = false := by simp; omega
          have Hr' := Lib.hid (show ∀ j, j < k + 1 → (rs.getD j []).length ≤ 3000 from fun j hj => by
            by_cases e : j = k
            · subst e; rw [Hl.out]; omega
            · exact Hr.out j (by omega))
          go_wp2
          go_round
          case rel => exact ⟨k + 1, by omega, by go_num, Hr'.out⟩
          case measure => simp [intOf]; omega
      · have hg := Lib.hid (greatA_none (rs := rs) (by rw [Hn.out]; omega) (fun j hj => Hr.out j (by rw [Hn.out] at hj; omega)))
        go_wp2
        go_ret
        exact ⟨by rw [hg.out]; rfl, rfl⟩

end Go.Proofs.Ytlailhjpfadpcaa

namespace Go.Proofs.Ytlailhjpfadpcaa
open Go.RowKit Go.ChangeShapes Go.WideShapes
set_option linter.unusedVariables false

theorem row_cell {H : Type} {enc : TypeId × Value → H} {W : World} {v : Value} {y : DataW H × List MemPlace} {n : Nat} (h : DataW.trod enc Try.prog W 0 (fun _ => true) true n 40 [v] = some y) :
    ∃ (A : Option Addr) (c : Nat) (l : List UInt8), v = .slice A l.length c ∧ l.length ≤ c ∧ c ≤ maxLen ∧ Bs W W.heap.size A l := by
  rcases open_ints Try.underlying40 Try.underlying5 (by kernel_rfl) h with ⟨hcs, _⟩ | ⟨x, l, c, zs, hcs, _, hl, hm, hz, _, hcell, hwz⟩
  · simp at hcs
    subst hcs
    exact ⟨none, 0, [], rfl, Nat.le_refl _, by unfold maxLen; omega, Bs.nil _ _ _⟩
  · simp at hcs
    subst hcs
    obtain ⟨l', hl', hb'⟩ := bs_of_ints (w := W) (len := l) (zs := zs) (by simp at hz; omega) hcell (fun n hn => bounds_u8 (hwz n hn))
    subst hl'
    exact ⟨some x, c, l', rfl, hl, hm, hb'⟩

theorem rows_arg {H : Type} {enc : TypeId × Value → H} {W : World} {A : Option Addr} {len cap : Nat} {d : DataW H} {p : List MemPlace} (h : DataW.Trod enc Try.prog W 0 (fun _ => true) true 25 (.slice A len cap) d p) :
    ∃ rs : List (List UInt8), rs.length = len ∧ len ≤ cap ∧ cap ≤ maxLen ∧ RowsAt W W.heap.size A rs := by
  obtain ⟨fuel, hf⟩ := h
  rcases Go.Deep.open_slice Try.underlying25 hf with ⟨h0, _⟩ | ⟨a, len', cap', m, n, D, Pl, hcs, _, hl, hm, hmm, _, hi⟩
  · simp [Value.cells] at h0
    obtain ⟨rfl, rfl, rfl⟩ := h0
    exact ⟨[], rfl, Nat.le_refl _, by unfold maxLen; omega, fun h => absurd h (by simp)⟩
  · simp [Value.cells] at hcs
    obtain ⟨rfl, rfl, rfl⟩ := hcs
    have hC : Try.prog.cellsOf 40 = 1 := by kernel_rfl
    have hle : len ≤ m := by rw [hmm]; split <;> omega
    have hall : ∀ i, i < len → ∃ l : List UInt8, ∃ A' c, W.cell? (a.add i) = some (.slice A' l.length c) ∧ l.length ≤ c ∧ c ≤ maxLen ∧ Bs W W.heap.size A' l := by
      intro i him
      obtain ⟨cs', hc, ht'⟩ := hi i (by omega)
      rw [hC] at hc
      obtain ⟨_, hcl, hat⟩ := World.cells?_some hc
      match cs', hcl with
      | [v], _ =>
        obtain ⟨A', c, l, rfl, h1, h2, h3⟩ := row_cell ht'
        have h0 := hat 0 (by omega)
        refine ⟨l, A', c, ?_, h1, h2, h3⟩
        rw [Go.Deep.add_add] at h0
        simpa using h0
    have hch : ∃ f : Nat → List UInt8, ∀ i, i < len → ∃ A' c, W.cell? (a.add i) = some (.slice A' (f i).length c) ∧ (f i).length ≤ c ∧ c ≤ maxLen ∧ Bs W W.heap.size A' (f i) := by
      classical
      refine ⟨fun i => if hi : i < len then Classical.choose (hall i hi) else [], fun i hi => ?_⟩
      simp only [dif_pos hi]
      exact Classical.choose_spec (hall i hi)
    clear hall
    obtain ⟨f, hf2⟩ := hch
    refine ⟨(List.range len).map f, by simp, hl, hm, fun hp => ?_⟩
    have hp' : 0 < len := by simpa using hp
    obtain ⟨b, off, spot⟩ := a
    obtain ⟨_, _, hc0, _⟩ := hf2 0 hp'
    have hspot : spot = none := by simpa [Addr.add] using World.cell?_spot hc0
    subst hspot
    refine ⟨b, off, rfl, World.block_lt_of_cell? W _ (by simpa [Addr.add] using hc0), fun i hi => ?_⟩
    have hi' : i < len := by simpa using hi
    obtain ⟨A', c, g0, g1, g2, g3⟩ := hf2 i hi'
    have hadd : (⟨b, off, none⟩ : Addr).add i = ⟨b, off + i, none⟩ := by unfold Addr.add; split <;> simp_all
    rw [hadd] at g0
    have hg : ((List.range len).map f).getD i [] = f i := by simp [List.getD, hi']
    rw [hg]
    exact ⟨A', c, g0, g1, g2, g3⟩

end Go.Proofs.Ytlailhjpfadpcaa

namespace Go.Proofs.Ytlailhjpfadpcaa
open Go.RowKit Go.ChangeShapes Go.WideShapes
set_option linter.unusedVariables false
set_option maxRecDepth 100000


theorem arr_open {H : Type} {enc : TypeId × Value → H} {W : World} {r : Reach} {b0 base : Nat} {sp : Nat → Bool} {held : Bool} {T : TypeId} {n : Nat} {v : Value} {d : DataW H} {p : List MemPlace} (hT : Try.prog.underlying T = some (.array n 5)) (hC : Try.prog.cellsOf T = n)
    (hv : Value.okWide Try.prog W r b0 T v) (h : DataW.Trod enc Try.prog W base sp held T v d p) : ∃ l : List UInt8, l.length = n ∧ v = digV l := by
  obtain ⟨cs, rfl, hsz, _⟩ : ∃ cs, v = .agg cs ∧ cs.size = Try.prog.cellsOf T ∧ Row.okWide Try.prog W r b0 T cs := by
    simpa [Value.okWide, hT] using hv
  obtain ⟨fuel, hf⟩ := h
  obtain ⟨xs, m, _, _, hlen, hn, hel⟩ := DataW.trod_array hT hf
  obtain ⟨l⟩ := cs
  rw [hC] at hsz
  have hl : l.length = n := hsz
  have hc1 : Try.prog.cellsOf 5 = 1 := by kernel_rfl
  have hall : ∀ i, i < n → ∃ b : UInt8, l[i]? = some (.int .u8 (b.toNat : Nat)) := by
    intro i hi
    have h1 := hel i hi
    rw [hc1, Nat.mul_one] at h1
    have hx : xs[i]? = some (xs[i]'(by omega)) := List.getElem?_eq_getElem (by omega)
    rw [hx] at h1
    have hcs : (Value.agg l.toArray).cells.toList = l := by simp [Value.cells]
    have hd : ((l.drop i).take 1) = [l[i]'(by omega)] := by rw [List.drop_eq_getElem_cons (by omega)]; rfl
    have h2 : DataW.trod enc Try.prog W base sp held m 5 [l[i]'(by omega)] = some (xs[i]'(by omega)) := by
      rw [← hd]
      simpa [Value.cells] using h1
    obtain ⟨k, e, _, hw⟩ := DataW.trod_int Try.underlying5 h2
    have hb := bounds_u8 hw
    simp only [List.cons.injEq, and_true] at e
    refine ⟨k.toNat.toUInt8, ?_⟩
    rw [List.getElem?_eq_getElem (by omega), e, Lib.toUInt8_toNat (by omega), Int.toNat_of_nonneg hb.1]
  have hch : ∃ f : Nat → UInt8, ∀ i, i < n → l[i]? = some (.int .u8 ((f i).toNat : Nat)) := by
    classical
    refine ⟨fun i => if hi : i < n then Classical.choose (hall i hi) else 0, fun i hi => ?_⟩
    simp only [dif_pos hi]
    exact Classical.choose_spec (hall i hi)
  obtain ⟨f, hf2⟩ := hch
  refine ⟨(List.range n).map f, by simp, ?_⟩
  unfold digV
  congr 2
  apply List.ext_getElem?
  intro i
  by_cases hi : i < n
  · rw [hf2 i hi]
    simp [Lib.byteCells, hi]
  · rw [List.getElem?_eq_none (by omega), List.getElem?_eq_none (by simp [Lib.byteCells]; omega)]

/-- Digests in memory, one behind the other. -/
def DigsAt (w : World) (A : Option Addr) (ds : List (List UInt8)) : Prop :=
  0 < ds.length → ∃ b off, A = some ⟨b, off, none⟩ ∧ b < w.heap.size ∧ ∀ i, i < ds.length → (ds.getD i []).length = 32 ∧ w.rangeAt b (off + i * 32) (Lib.byteCells (ds.getD i []))

theorem dig_cells {H : Type} {enc : TypeId × Value → H} {W : World} {base : Nat} {sp : Nat → Bool} {held : Bool} {m : Nat} {cs : List Value} {x : DataW H × List MemPlace} (hl : cs.length = 32) (h : DataW.trod enc Try.prog W base sp held m 24 cs = some x) : ∃ l : List UInt8, l.length = 32 ∧ cs = Lib.byteCells l := by
  have hr : ∃ l : List UInt8, l.length = 32 ∧ (.agg cs.toArray : Value) = digV l := by
    obtain ⟨xs, m', _, _, hlen, hn, hel⟩ := DataW.trod_array Try.underlying24 h
    have hc1 : Try.prog.cellsOf 5 = 1 := by kernel_rfl
    have hall : ∀ i, i < 32 → ∃ b : UInt8, cs[i]? = some (.int .u8 (b.toNat : Nat)) := by
      intro i hi
      have h1 := hel i hi
      rw [hc1, Nat.mul_one] at h1
      have hx : xs[i]? = some (xs[i]'(by omega)) := List.getElem?_eq_getElem (by omega)
      rw [hx] at h1
      have hd : ((cs.drop i).take 1) = [cs[i]'(by omega)] := by rw [List.drop_eq_getElem_cons (by omega)]; rfl
      rw [hd] at h1
      obtain ⟨k, e, _, hw⟩ := DataW.trod_int Try.underlying5 h1
      have hb := bounds_u8 hw
      simp only [List.cons.injEq, and_true] at e
      refine ⟨k.toNat.toUInt8, ?_⟩
      rw [List.getElem?_eq_getElem (by omega), e, Lib.toUInt8_toNat (by omega), Int.toNat_of_nonneg hb.1]
    have hch : ∃ f : Nat → UInt8, ∀ i, i < 32 → cs[i]? = some (.int .u8 ((f i).toNat : Nat)) := by
      classical
      refine ⟨fun i => if hi : i < 32 then Classical.choose (hall i hi) else 0, fun i hi => ?_⟩
      simp only [dif_pos hi]
      exact Classical.choose_spec (hall i hi)
    obtain ⟨f, hf2⟩ := hch
    refine ⟨(List.range 32).map f, by simp, ?_⟩
    unfold digV
    congr 2
    apply List.ext_getElem?
    intro i
    by_cases hi : i < 32
    · rw [hf2 i hi]
      simp [Lib.byteCells, hi]
    · rw [List.getElem?_eq_none (by omega), List.getElem?_eq_none (by simp [Lib.byteCells]; omega)]
  obtain ⟨l, h1, h2⟩ := hr
  refine ⟨l, h1, ?_⟩
  unfold digV at h2
  injection h2 with h2
  simpa using congrArg Array.toList h2

theorem digs_arg {H : Type} {enc : TypeId × Value → H} {W : World} {A : Option Addr} {len cap : Nat} {d : DataW H} {p : List MemPlace} (h : DataW.Trod enc Try.prog W 0 (fun _ => true) true 28 (.slice A len cap) d p) :
    ∃ ds : List (List UInt8), ds.length = len ∧ len ≤ cap ∧ cap ≤ maxLen ∧ DigsAt W A ds := by
  obtain ⟨fuel, hf⟩ := h
  rcases Go.Deep.open_slice Try.underlying28 hf with ⟨h0, _⟩ | ⟨a, len', cap', m, n, D, Pl, hcs, _, hl, hm, hmm, _, hi⟩
  · simp [Value.cells] at h0
    obtain ⟨rfl, rfl, rfl⟩ := h0
    exact ⟨[], rfl, Nat.le_refl _, by unfold maxLen; omega, fun h => absurd h (by simp)⟩
  · simp [Value.cells] at hcs
    obtain ⟨rfl, rfl, rfl⟩ := hcs
    have hC : Try.prog.cellsOf 24 = 32 := by kernel_rfl
    have hle : len ≤ m := by rw [hmm]; split <;> omega
    have hall : ∀ i, i < len → ∃ l : List UInt8, l.length = 32 ∧ ∀ j v, (Lib.byteCells l)[j]? = some v → W.cell? (a.add (i * 32 + j)) = some v := by
      intro i him
      obtain ⟨cs', hc, ht'⟩ := hi i (by omega)
      rw [hC] at hc
      obtain ⟨_, hcl, hat⟩ := World.cells?_some hc
      obtain ⟨l, hl32, rfl⟩ := dig_cells hcl ht'
      refine ⟨l, hl32, fun j v hj => ?_⟩
      have hj32 : j < 32 := by have := (List.getElem?_eq_some_iff.1 hj).1; rw [Lib.byteCells_length] at this; omega
      have h0 := hat j hj32
      rw [Go.Deep.add_add] at h0
      rw [h0, hj]
    have hch : ∃ f : Nat → List UInt8, ∀ i, i < len → (f i).length = 32 ∧ ∀ j v, (Lib.byteCells (f i))[j]? = some v → W.cell? (a.add (i * 32 + j)) = some v := by
      classical
      refine ⟨fun i => if hi : i < len then Classical.choose (hall i hi) else [], fun i hi => ?_⟩
      simp only [dif_pos hi]
      exact Classical.choose_spec (hall i hi)
    clear hall
    obtain ⟨f, hf2⟩ := hch
    refine ⟨(List.range len).map f, by simp, hl, hm, fun hp => ?_⟩
    have hp' : 0 < len := by simpa using hp
    obtain ⟨b, off, spot⟩ := a
    obtain ⟨h32, hc0⟩ := hf2 0 hp'
    have hc00 := hc0 0 _ (byteCells_get (l := f 0) (j := 0) (by omega))
    have hspot : spot = none := by simpa [Addr.add] using World.cell?_spot hc00
    subst hspot
    refine ⟨b, off, rfl, World.block_lt_of_cell? W _ (by simpa [Addr.add] using hc00), fun i hi => ?_⟩
    have hi' : i < len := by simpa using hi
    have hg : ((List.range len).map f).getD i [] = f i := by simp [List.getD, hi']
    rw [hg]
    refine ⟨(hf2 i hi').1, fun j v hj => ?_⟩
    have h1 := (hf2 i hi').2 j v hj
    have hadd : (⟨b, off, none⟩ : Addr).add (i * 32 + j) = ⟨b, off + i * 32 + j, none⟩ := by unfold Addr.add; split <;> simp_all <;> omega
    rwa [hadd] at h1

theorem DigsAt.below {w w' : World} {A : Option Addr} {ds : List (List UInt8)} (h : DigsAt w A ds) (hB : Below w.heap.size w w') : DigsAt w' A ds := fun hn => by
  obtain ⟨b, off, e, hb, hd⟩ := h hn
  refine ⟨b, off, e, Nat.lt_of_lt_of_le hb hB.size, fun i hi => ⟨(hd i hi).1, fun j v hj => ?_⟩⟩
  rw [World.cell?_of_block (hB.block b hb)]
  exact (hd i hi).2 j v hj
theorem DigsAt.take {w : World} {A : Option Addr} {ds : List (List UInt8)} (h : DigsAt w A ds) (k : Nat) : DigsAt w A (ds.take k) := fun hn => by
  rw [List.length_take] at hn
  obtain ⟨b, off, e, hb, hd⟩ := h (by omega)
  refine ⟨b, off, e, hb, fun i hi => ?_⟩
  rw [List.length_take] at hi
  have hg : (ds.take k).getD i [] = ds.getD i [] := by simp [List.getD, show i < k by omega]
  rw [hg]
  exact hd i (by omega)
theorem DigsAt.nil (w : World) (A : Option Addr) : DigsAt w A [] := fun h => absurd h (by simp)

end Go.Proofs.Ytlailhjpfadpcaa

namespace Go.Proofs.Ytlailhjpfadpcaa
open Go.RowKit
set_option linter.unusedVariables false
set_option linter.unusedSimpArgs false

/-- What is answered where nodes show that. -/
def ansF : Option (Option (List UInt8)) → List UInt8 × Bool × Int
  | none => (List.replicate 32 0, false, 3)
  | some none => (List.replicate 32 0, false, 0)
  | some (some v) => if v.length = 32 then (v, true, 0) else (List.replicate 32 0, false, 3)
/-- What Block answers: a digest, whether there is one, the error. -/
def blockF (ds : List (List UInt8)) (ep : Nat) (nm : ByteArray) (num : Int) (rs : List (List UInt8)) : List UInt8 × Bool × Int :=
  if ep < 1 ∨ ds.length < ep then (List.replicate 32 0, false, 2) else ansF (chkF (ds.getD (ep - 1) []) (keyF nm num) rs 0)

theorem results_cell3A {P : Program} {fn : Func} {p u v : Tmp} {ty : TypeId} (h : fn.results = #[.cell p ty, .tmp u, .tmp v]) (tmps : Array Value) (w : World) (g : Nat) (t : TypeId) (cs : Array Value) (fr : Nat × Nat) (d : TypeDesc)
    (hp : tmps.getD p undef = .pointer (some ⟨g, 0, none⟩)) (x y : Value) (hx : tmps.getD u undef = x) (hy : tmps.getD v undef = y) (hg : w.heap[g]? = some (.cells cs t fr)) (hu : P.underlying ty = some d) (hd : (match d with | .struct _ | .array _ _ => true | _ => false) = true) (hi : (P.info? ty).map (·.size) = some cs.size) :
    (results fn tmps).run P w = .ok (.tuple #[.agg cs, x, y]) w := by
  have e : (results fn tmps).run P w = ((asAddr (tmps.getD p undef)).run P w).andThen fun a w₁ => ((loadVar ty a).run P w₁).andThen fun v' w₂ => .ok (.tuple #[v', tmps.getD u undef, tmps.getD v undef]) w₂ := by
    simp only [results, h]
    simp [Sem.run_bind, Result.andThen]
  rw [e, hp, hx, hy]
  simp only [asAddr, Sem.run_pure, Result.andThen_ok, run_loadVar_row w g t ty cs fr d hg hu hd hi]
theorem run_arrayAtA (g o c : Nat) (w : World) : (Instr.arrayAt 24 (.slice (some ⟨g, o, none⟩) 32 c)).run Try.prog w = .ok (.pointer (some ⟨g, o, none⟩)) w := by
  have hu : Try.prog.underlying 24 = some (.array 32 5) := Try.underlying24
  unfold Instr.arrayAt
  simp [Sem.run_bind, hu]
theorem wpList_arrayAtA {P : Program} {ops : Array Oper} {rest : List Oper} {o : Oper} {a : Act} {w : World} {Q : Exit → Act → World → Prop} (hg : o.guard = none) (t : TypeId) (x : Operand) (ho : o.op = .sliceToArrayPointer t x)
    (sv v : Value) (hx : a.eval x = sv) (hr : (Instr.arrayAt t sv).run P w = .ok v w) (h : wpList P ops Q rest (a.put o.dst v) w) : wpList P ops Q (o :: rest) a w := by
  refine wpList_plain hg fun K hK => ?_
  unfold Oper.wp execOp
  simp only [ho, hx, Sem.run_bind, Sem.run_pure, hr, Result.andThen_ok]
  exact hK _ _ h
/-- A story that the law makes, as a value. -/
def stL (n : Nat) (A : Option Addr) (c : Nat) : List Value := [.int .u64 n, .slice A n c, .slice none 0 0]

set_option maxRecDepth 100000 in
set_option maxHeartbeats 4000000 in
theorem block_out (ds : List (List UInt8)) (A : Option Addr) (n c : Nat) (hn : ds.length = n) (hc : n ≤ c) (hm : c ≤ maxLen) (w : World) (hds : DigsAt w A ds) (ep : Nat) (hep : ep < 18446744073709551616) (nm : ByteArray) (num : Int) (vr : Value) (hout : ep < 1 ∨ n < ep) :
    Calls Try.prog 11 #[.agg (stL n A c).toArray, .int .u64 ep, .string nm, .int .i64 num, vr] w fun e w' => e = .returned (.tuple #[.agg (Lib.byteCells (List.replicate 32 0)).toArray, .bool false, .int .i64 2]) ∧ Below w.heap.size w w' := by
  have hcn : c ≤ 9223372036854775807 := by unfold maxLen at hm; exact hm
  obtain ⟨ZL, hZL⟩ : ∃ z, z = Lib.byteCells (List.replicate 32 0) := ⟨_, rfl⟩
  have hZl : ZL.length = 32 := by rw [hZL]; rfl
  have HZb := Lib.hid (show Try.prog.built 24 [] = some ZL.toArray by rw [hZL]; exact dig_b0)
  have HZi := Lib.hid (show (Try.prog.info? 24).map (·.size) = some ZL.toArray.size by rw [List.size_toArray, hZl]; exact digInfo)
  have HZ1 := Lib.hid (show ZL.toArray.all (·.oneCell') = true by rw [hZL]; exact dig_one _)
  obtain ⟨SL, hSL⟩ : ∃ z, z = stL n A c := ⟨_, rfl⟩
  have hw64 : IntKind.u64.wrap (n : Int) = (n : Int) := IntWalk.u64_in _ (by omega)
  obtain ⟨W1, hW1⟩ : ∃ z, z = w.alloc (.cells SL.toArray 30) := ⟨_, rfl⟩
  obtain ⟨W2, hW2⟩ : ∃ z, z = W1.alloc (.cells ZL.toArray 24) := ⟨_, rfl⟩
  have hs1 : W1.heap.size = w.heap.size + 1 := by rw [hW1]; simp
  have hS2 : Arr W2 w.heap.size 30 SL := by rw [hW2, hW1]; exact (Arr.new w _ _).alloc _
  have hR2 : Arr W2 (w.heap.size + 1) 24 ZL := by rw [hW2, ← hs1]; exact Arr.new W1 _ _
  have hb2 : Below w.heap.size w W2 := by rw [hW2, hW1]; exact ((Below.refl _ w).alloc (Nat.le_refl _) _).alloc (by simp) _
  have c0 : W2.cell? ⟨w.heap.size, 0, none⟩ = some (.int .u64 n) := by have h := hS2.cell 0; rw [hSL] at h; exact h
  have c1 : W2.cell? ⟨w.heap.size, 1, none⟩ = some (.slice A n c) := by have h := hS2.cell 1; rw [hSL] at h; exact h
  have HW2 := Lib.hid (show W2 = (w.alloc (.cells #[.int .u64 n, .slice A n c, .slice none 0 0] 30)).alloc (.cells (Lib.byteCells (List.replicate 32 0)).toArray 24) by rw [hW2, hW1, hSL, hZL]; rfl)
  have hS1 : SL.toArray.size = 3 := by rw [hSL]; rfl
  clear hW1 hW2 hs1 hZl
  clear hds hn
  have hR2' : W2.heap[w.heap.size + 1]? = some (.cells ZL.toArray 24 (0, 0)) := hR2
  obtain ⟨W3, hW3⟩ : ∃ z, z = W2.setRow (w.heap.size + 1) ZL.toArray := ⟨_, rfl⟩
  have o3 : Only (fun k => k = w.heap.size + 1) W2 W3 := by rw [hW3]; exact (Only.refl (fun k => k = w.heap.size + 1) W2).setRow (.inl rfl) _
  have hR3 : W3.heap[w.heap.size + 1]? = some (.cells ZL.toArray 24 (0, 0)) := by rw [hW3]; exact hR2.setRow ZL
  have Hb3 := Lib.hid (show Below w.heap.size w W3 from hb2.trans (o3.below hb2.size (by rintro k rfl; omega)))
  have HW3 := Lib.hid hW3
  have HZL := Lib.hid hZL
  have HR3 := Lib.hid hR3
  clear hW3 o3 hR3 hb2 hZL hSL hS2 hS1
  go_enter Try.func11, Try.ntmps11
  go_upto_region 1 with fail
  change Code.wp _ _ _ _ ((w.alloc (.cells #[.int .u64 n, .slice A n c, .slice none 0 0] 30)).alloc (.cells (Lib.byteCells (List.replicate 32 0)).toArray 24))
  rw [← HW2.out]
  clear HW2
  have tail : ∀ (tm : List Value), tm.getD 10 undef = .pointer (some ⟨w.heap.size + 1, 0, none⟩) → tm.getD 11 undef = .bool false → tm.getD 12 undef = .int .i64 2 → bodyPost Try.prog Try.f11 (fun e w' => e = .returned (.tuple #[.agg (Lib.byteCells (List.replicate 32 0)).toArray, .bool false, .int .i64 2]) ∧ Below w.heap.size w w') Exit.ret { tmps := tm.toArray, defers := [] } W3 := fun tm t1 t2 t3 => by
    rw [← HZL.out]
    exact bodyPost_ret (results_cell3A (fn := Try.f11) (by rfl) _ _ (w.heap.size + 1) 24 ZL.toArray (0, 0) _ (by simpa using t1) _ _ (by simpa using t2) (by simpa using t3) HR3.out Try.underlying24 rfl HZi.out) rfl ⟨rfl, Hb3.out⟩
  by_cases h0 : ep = 0
  · subst h0
    go_wp2_with (first | ((with_reducible refine wpList_atA 29 (by rfl) ?_); refine wpList_builtD rfl _ _ rfl _ rfl ZL.toArray HZb.out ?_) | (refine wpList_store_row rfl _ _ _ rfl (w.heap.size + 1) ZL.toArray rfl rfl 24 ZL.toArray hR2' HZi.out (Eq.refl _) HZ1.out ?_; rw [← HW3.out]))
    exact tail _ rfl rfl rfl
  · have d1 : decide ((ep : Int) < 1) = false := decide_eq_false (by omega)
    have d2 : decide ((n : Int) < (ep : Int)) = true := decide_eq_true (by omega)
    go_wp2_with (first | ((with_reducible refine wpList_atA 29 (by rfl) ?_); refine wpList_builtD rfl _ _ rfl _ rfl ZL.toArray HZb.out ?_) | (refine wpList_store_row rfl _ _ _ rfl (w.heap.size + 1) ZL.toArray rfl rfl 24 ZL.toArray hR2' HZi.out (Eq.refl _) HZ1.out ?_; rw [← HW3.out]))
    exact tail _ rfl rfl rfl

/-- What is shown, taken apart. -/
theorem ShownP.partsA {w' : World} {r : Option (Option (List UInt8))} {V : Value} (h : ShownP w' r V) :
    ∃ (A : Option Addr) (c : Nat), V = .tuple #[.slice A ((r.getD none).getD []).length c, .bool (r.getD none).isSome, .int .i64 (if r = none then 3 else 0)] ∧ ((r.getD none).getD []).length ≤ c ∧ c ≤ maxLen ∧ Bs w' w'.heap.size A ((r.getD none).getD []) := by
  unfold ShownP at h
  split at h
  · exact ⟨none, 0, by rw [h]; rfl, Nat.le_refl _, by simp [maxLen], Bs.nil _ _ _⟩
  · exact ⟨none, 0, by rw [h]; simp, Nat.le_refl _, by simp [maxLen], Bs.nil _ _ _⟩
  · obtain ⟨A, c, h1, h2, h3, h4⟩ := h
    exact ⟨A, c, by rw [h1]; simp, h2, h3, h4⟩

set_option maxRecDepth 100000 in
set_option maxHeartbeats 8000000 in
theorem block_in (ds : List (List UInt8)) (A : Option Addr) (n c : Nat) (hn : ds.length = n) (hc : n ≤ c) (hm : c ≤ maxLen) (w : World) (hds : DigsAt w A ds) (ep : Nat) (hep : ep < 18446744073709551616) (nm : ByteArray) (num : Int) (h1 : 1 ≤ ep) (h2 : ep ≤ n) (hs : nm.size ≤ 1000) (rs : List (List UInt8)) (Ar : Option Addr) (nr cr : Nat) (hrn : rs.length = nr) (hrc : nr ≤ cr) (hrm : cr ≤ maxLen) (hrows : RowsAt w w.heap.size Ar rs) (h3000 : ∀ r ∈ rs, r.length ≤ 3000) (h40 : nr ≤ 71) :
    Calls Try.prog 11 #[.agg (stL n A c).toArray, .int .u64 ep, .string nm, .int .i64 num, .slice Ar nr cr] w fun e w' => ∃ (d : List UInt8) (b : Bool) (k : Int), e = .returned (.tuple #[.agg (Lib.byteCells d).toArray, .bool b, .int .i64 k]) ∧ (d, b, k) = blockF ds ep nm num rs ∧ Below w.heap.size w w' := by
  have hcn : c ≤ 9223372036854775807 := by unfold maxLen at hm; exact hm
  obtain ⟨b, off, rfl, hbl, hrow⟩ := hds (by omega)
  obtain ⟨q, hq⟩ : ∃ q, q = ep - 1 := ⟨_, rfl⟩
  obtain ⟨d, hd⟩ : ∃ d, d = ds.getD q [] := ⟨_, rfl⟩
  obtain ⟨hd32, hrg⟩ := hrow q (by omega)
  rw [← hd] at hd32 hrg
  obtain ⟨DL, hDL⟩ : ∃ z, z = Lib.byteCells d := ⟨_, rfl⟩
  rw [← hDL] at hrg
  obtain ⟨KL, hKL⟩ : ∃ z, z = Lib.byteCells (keyF nm num) := ⟨_, rfl⟩
  have HDi := Lib.hid (show (Try.prog.info? 24).map (·.size) = some DL.length by rw [hDL, Lib.byteCells_length, hd32]; exact digInfo)
  have hk32 : (keyF nm num).length = 32 := shaF_length _
  have H64 := Lib.hid (show IntKind.u64.wrap ((ep : Int) - 1) = (q : Int) by rw [IntWalk.u64_in _ (by omega)]; omega)
  obtain ⟨res, hres⟩ : ∃ r, chkF d (keyF nm num) rs 0 = r := ⟨_, rfl⟩
  have Hans := Lib.hid (show blockF ds ep nm num rs = ansF res from by
    unfold blockF
    rw [if_neg (by omega), ← hq, ← hd, hres])
  rw [Hans.out]
  have Hck := Lib.hid (fun (w' : World) (h : Below w.heap.size w w') => check_run d (keyF nm num) hd32 hk32 DL KL hDL hKL rs Ar nr cr w' hrn hrc hrm ((hrows.below h (Nat.le_refl _)).more h.size) h3000 h40)
  have Hparts := Lib.hid (fun (w' : World) (V : Value) (h : ShownP w' (chkF d (keyF nm num) rs 0) V) => show ∃ (A : Option Addr) (c : Nat), V = .tuple #[.slice A ((res.getD none).getD []).length c, .bool (res.getD none).isSome, .int .i64 (if res = none then 3 else 0)] ∧ ((res.getD none).getD []).length ≤ c ∧ c ≤ maxLen ∧ Bs w' w'.heap.size A ((res.getD none).getD []) from by
    have := h.partsA
    rw [hres] at this
    exact this)
  obtain ⟨v, hv⟩ : ∃ z, z = (res.getD none).getD [] := ⟨_, rfl⟩
  obtain ⟨vl, hvl⟩ : ∃ z, z = v.length := ⟨_, rfl⟩
  obtain ⟨bt, hbt⟩ : ∃ z, z = (res.getD none).isSome := ⟨_, rfl⟩
  obtain ⟨cd, hcd⟩ : ∃ z : Int, z = if res = none then 3 else 0 := ⟨_, rfl⟩
  rw [← hv, ← hbt, ← hcd, ← hvl] at Hparts
  obtain ⟨ZL, hZL⟩ : ∃ z, z = Lib.byteCells (List.replicate 32 0) := ⟨_, rfl⟩
  have hZl : ZL.length = 32 := by rw [hZL]; rfl
  have HZb := Lib.hid (show Try.prog.built 24 [] = some ZL.toArray by rw [hZL]; exact dig_b0)
  have HZi := Lib.hid (show (Try.prog.info? 24).map (·.size) = some ZL.toArray.size by rw [List.size_toArray, hZl]; exact digInfo)
  have HZ1 := Lib.hid (show ZL.toArray.all (·.oneCell') = true by rw [hZL]; exact dig_one _)
  obtain ⟨SL, hSL⟩ : ∃ z, z = stL n (some ⟨b, off, none⟩) c := ⟨_, rfl⟩
  have hw64 : IntKind.u64.wrap (n : Int) = (n : Int) := IntWalk.u64_in _ (by omega)
  obtain ⟨W1, hW1⟩ : ∃ z, z = w.alloc (.cells SL.toArray 30) := ⟨_, rfl⟩
  obtain ⟨W2, hW2⟩ : ∃ z, z = W1.alloc (.cells ZL.toArray 24) := ⟨_, rfl⟩
  have hs1 : W1.heap.size = w.heap.size + 1 := by rw [hW1]; simp
  have hS2 : Arr W2 w.heap.size 30 SL := by rw [hW2, hW1]; exact (Arr.new w _ _).alloc _
  have hR2 : Arr W2 (w.heap.size + 1) 24 ZL := by rw [hW2, ← hs1]; exact Arr.new W1 _ _
  have hb2 : Below w.heap.size w W2 := by rw [hW2, hW1]; exact ((Below.refl _ w).alloc (Nat.le_refl _) _).alloc (by simp) _
  have c0 : W2.cell? ⟨w.heap.size, 0, none⟩ = some (.int .u64 n) := by have h := hS2.cell 0; rw [hSL] at h; exact h
  have c1 : W2.cell? ⟨w.heap.size, 1, none⟩ = some (.slice (some ⟨b, off, none⟩) n c) := by have h := hS2.cell 1; rw [hSL] at h; exact h
  have HW2 := Lib.hid (show W2 = (w.alloc (.cells #[.int .u64 n, .slice (some ⟨b, off, none⟩) n c, .slice none 0 0] 30)).alloc (.cells (Lib.byteCells (List.replicate 32 0)).toArray 24) by rw [hW2, hW1, hSL, hZL]; rfl)
  have hS1 : SL.toArray.size = 3 := by rw [hSL]; rfl
  clear hW1 hW2 hs1 hZl
  have hR2' : W2.heap[w.heap.size + 1]? = some (.cells ZL.toArray 24 (0, 0)) := hR2
  have hrg2 : W2.rangeAt b (off + q * 32) DL := fun j v hj => (hb2.cell (p := ⟨b, _, none⟩) hbl).trans (hrg j v hj)
  have hqn : q < n := by omega
  have d1 : decide ((ep : Int) < 1) = false := decide_eq_false (by omega)
  have d2 : decide ((n : Int) < (ep : Int)) = false := decide_eq_false (by omega)
  have Hb2 := Lib.hid hb2
  have Hbl := Lib.hid hbl
  have Hres := Lib.hid hres
  have HZL := Lib.hid hZL
  have Hv := Lib.hid (show v = (res.getD none).getD [] ∧ vl = v.length ∧ bt = (res.getD none).isSome ∧ cd = if res = none then 3 else 0 from ⟨hv, hvl, hbt, hcd⟩)
  have HKL := Lib.hid hKL
  have Hsz := Lib.hid (show W2.heap.size = w.heap.size + 2 by have h := HW2.out; rw [h]; simp)
  clear hrow hrg hq hd hDL hds hrows hb2 hbl hres hZL hv hvl hbt hcd hKL hSL hS2 hS1 hR2 hd32 hk32 hrn h3000
  go_enter Try.func11, Try.ntmps11
  go_upto_region 1 with fail
  change Code.wp _ _ _ _ ((w.alloc (.cells #[.int .u64 n, .slice (some ⟨b, off, none⟩) n c, .slice none 0 0] 30)).alloc (.cells (Lib.byteCells (List.replicate 32 0)).toArray 24))
  rw [← HW2.out]
  clear HW2
  go_upto_region 3 with fail
  refine wp_region_held_drew (S := fun w' => w'.cell? ⟨w.heap.size, 1, none⟩ = some (.slice (some ⟨b, off, none⟩) n c) ∧ w'.rangeAt b (off + q * 32) DL) (by kernel_rfl) ⟨c1, hrg2⟩ (fun hHeld => ?_)
  refine anyH_take (i := 0) (v := .pointer (some ⟨w.heap.size, 1, none⟩)) (some 31) rfl rfl (by kernel_rfl) (by kernel_rfl) (by kernel_rfl) (fun _ _ _ h => h) (Or.inl ⟨by rfl, fun w' hw => by go_simp⟩) (by assumption) ?_
  simp only [Act.put, List.setIfInBounds_toArray, List.set_cons_zero, List.set_cons_succ]
  refine anyH_take (i := 1) (v := .slice (some ⟨b, off, none⟩) n c) (some 32) rfl rfl (by kernel_rfl) (by kernel_rfl) (by kernel_rfl) (fun _ _ _ h => h) (Or.inl ⟨by rfl, fun w' hw => by (have hc := hw.1; go_simp)⟩) (by assumption) ?_
  simp only [Act.put, List.setIfInBounds_toArray, List.set_cons_zero, List.set_cons_succ]
  refine anyH_take (i := 2) (v := .int .u64 ep) (some 33) rfl rfl (by kernel_rfl) (by kernel_rfl) (by kernel_rfl) (fun _ _ _ h => h) (Or.inl ⟨by rfl, fun w' hw => by rfl⟩) (by assumption) ?_
  simp only [Act.put, List.setIfInBounds_toArray, List.set_cons_zero, List.set_cons_succ]
  refine anyH_take (i := 3) (v := .int .u64 q) (some 34) rfl rfl (by kernel_rfl) (by kernel_rfl) (by kernel_rfl) (fun _ _ _ h => h) (Or.inl ⟨by rfl, fun w' hw => by (have hh := H64.out; go_simp)⟩) (by assumption) ?_
  simp only [Act.put, List.setIfInBounds_toArray, List.set_cons_zero, List.set_cons_succ]
  refine anyH_take (i := 4) (v := .pointer (some ⟨b, off + q * 32, none⟩)) (some 35) rfl rfl (by kernel_rfl) (by kernel_rfl) (by kernel_rfl) (fun _ _ _ h => h) (Or.inl ⟨by rfl, fun w' hw => by (go_simp; try omega)⟩) (by assumption) ?_
  simp only [Act.put, List.setIfInBounds_toArray, List.set_cons_zero, List.set_cons_succ]
  refine anyH_take (i := 5) (v := .agg DL.toArray) (some 36) rfl rfl (by kernel_rfl) (by kernel_rfl) (by kernel_rfl) (fun _ _ _ h => h) (yieldsIf_load_mid (by rfl) 24 (.tmp 35) rfl b (off + q * 32) rfl DL _ (fun w' h => h.2) Try.underlying24 rfl HDi.out) (by assumption) ?_
  simp only [Act.put, List.setIfInBounds_toArray, List.set_cons_zero, List.set_cons_succ]
  refine anyH_take (i := 6) (v := .string nm) (some 37) rfl rfl (by kernel_rfl) (by kernel_rfl) (by kernel_rfl) (fun _ _ _ h => h) (Or.inl ⟨by rfl, fun w' hw => by rfl⟩) (by assumption) ?_
  simp only [Act.put, List.setIfInBounds_toArray, List.set_cons_zero, List.set_cons_succ]
  refine anyH_take (i := 7) (v := .int .i64 num) (some 38) rfl rfl (by kernel_rfl) (by kernel_rfl) (by kernel_rfl) (fun _ _ _ h => h) (Or.inl ⟨by rfl, fun w' hw => by rfl⟩) (by assumption) ?_
  simp only [Act.put, List.setIfInBounds_toArray, List.set_cons_zero, List.set_cons_succ]
  refine anyH_take (i := 9) (v := .slice Ar nr cr) (some 40) rfl rfl (by kernel_rfl) (by kernel_rfl) (by kernel_rfl) (fun _ _ _ h => h) (Or.inl ⟨by rfl, fun w' hw => by rfl⟩) (by assumption) ?_
  simp only [Act.put, List.setIfInBounds_toArray, List.set_cons_zero, List.set_cons_succ]
  refine wpAnyH_ready (rs := [8]) (by kernel_rfl) (by simp) ?_
  refine AllReadyH.cons rfl (fun K hK => ?_) AllReadyH.nil
  go_simp
  go_at_call 22
  refine Calls.mono (key_any nm hs num KL HKL.out _) ?_
  rintro e w3 ⟨rfl, hb3⟩
  have Hb3 := Lib.hid (show Below w.heap.size w w3 from Hb2.out.trans (Below.mono (show Below W2.heap.size W2 w3 from ⟨hb3.os, hb3.tape, hb3.output, hb3.size, hb3.block⟩) Hb2.out.size))
  have hc3 : w3.cell? ⟨w.heap.size, 1, none⟩ = some (.slice (some ⟨b, off, none⟩) n c) := (Below.cell (show Below W2.heap.size W2 w3 from ⟨hb3.os, hb3.tape, hb3.output, hb3.size, hb3.block⟩) (p := ⟨w.heap.size, 1, none⟩) (by have := Hsz.out; simp only; omega)).trans c1
  have hR3 : w3.heap[w.heap.size + 1]? = some (.cells ZL.toArray 24 (0, 0)) := (hb3.block _ (by have := Hsz.out; change _ < W2.heap.size; omega)).trans hR2'
  have hr3 : w3.rangeAt b (off + q * 32) DL := fun j v hj => (Below.cell (show Below W2.heap.size W2 w3 from ⟨hb3.os, hb3.tape, hb3.output, hb3.size, hb3.block⟩) (p := ⟨b, _, none⟩) (by have := Hsz.out; have := Hbl.out; simp only; omega)).trans (hrg2 j v hj)
  go_wp2_with fail
  refine hK.out _ _ ⟨hc3, hr3⟩ (fun hHeldx => ?_)
  clear hK K
  try simp only [Act.put, List.setIfInBounds_toArray, List.set_cons_zero, List.set_cons_succ]
  refine wpAnyH_ready (rs := [10]) (by kernel_rfl) (by simp) ?_
  refine AllReadyH.cons rfl (fun K hK => ?_) AllReadyH.nil
  go_simp
  go_at_call 21
  refine Calls.mono (Hck.out _ Hb3.out) ?_
  rintro e w4 ⟨V, rfl, hsh, hb4⟩
  obtain ⟨Av, cv, rfl, hvc, hvm, hvb⟩ := Hparts.out _ _ hsh
  have Hb4 := Lib.hid (show Below w.heap.size w w4 from Hb3.out.trans (hb4.mono Hb3.out.size))
  have hz3 : w.heap.size + 2 ≤ w3.heap.size := by have := Hsz.out; have := hb3.size; change W2.heap.size ≤ _ at this; omega
  have hR4 : Arr w4 (w.heap.size + 1) 24 ZL := Arr.up (show Arr w3 (w.heap.size + 1) 24 ZL from hR3) hb4
  have hc4 : w4.cell? ⟨w.heap.size, 1, none⟩ = some (.slice (some ⟨b, off, none⟩) n c) := (hb4.cell (p := ⟨w.heap.size, 1, none⟩) (by simp only; omega)).trans hc3
  have hr4 : w4.rangeAt b (off + q * 32) DL := fun j v hj => (hb4.cell (p := ⟨b, _, none⟩) (by have := Hbl.out; simp only; omega)).trans (hr3 j v hj)
  clear hsh hb4 hb3 hR3
  go_wp2_with fail
  refine hK.out _ _ ⟨hc4, hr4⟩ (fun hHeldx => ?_)
  clear hK K
  try simp only [Act.put, List.setIfInBounds_toArray, List.set_cons_zero, List.set_cons_succ]
  refine anyH_take (i := 11) (v := .tuple #[.slice Av vl cv, .bool bt, .int .i64 cd]) (some 30) rfl rfl (by kernel_rfl) (by kernel_rfl) (by kernel_rfl) (fun _ _ _ h => h) (Or.inl ⟨by rfl, fun w' hw => by rfl⟩) (by assumption) ?_
  simp only [Act.put, List.setIfInBounds_toArray, List.set_cons_zero, List.set_cons_succ]
  refine anyH_take (i := 12) (v := .slice Av vl cv) (some 42) rfl rfl (by kernel_rfl) (by kernel_rfl) (by kernel_rfl) (fun _ _ _ h => h) (Or.inl ⟨by rfl, fun w' hw => by go_simp⟩) (by assumption) ?_
  simp only [Act.put, List.setIfInBounds_toArray, List.set_cons_zero, List.set_cons_succ]
  refine anyH_take (i := 13) (v := .bool bt) (some 43) rfl rfl (by kernel_rfl) (by kernel_rfl) (by kernel_rfl) (fun _ _ _ h => h) (Or.inl ⟨by rfl, fun w' hw => by go_simp⟩) (by assumption) ?_
  simp only [Act.put, List.setIfInBounds_toArray, List.set_cons_zero, List.set_cons_succ]
  refine anyH_take (i := 14) (v := .int .i64 cd) (some 44) rfl rfl (by kernel_rfl) (by kernel_rfl) (by kernel_rfl) (fun _ _ _ h => h) (Or.inl ⟨by rfl, fun w' hw => by go_simp⟩) (by assumption) ?_
  simp only [Act.put, List.setIfInBounds_toArray, List.set_cons_zero, List.set_cons_succ]
  refine anyH_take (i := 15) (v := .slice Av vl cv) (some 13) rfl rfl (by kernel_rfl) (by kernel_rfl) (by kernel_rfl) (fun _ _ _ h => h) (Or.inl ⟨by rfl, fun w' hw => by rfl⟩) (by assumption) ?_
  simp only [Act.put, List.setIfInBounds_toArray, List.set_cons_zero, List.set_cons_succ]
  refine anyH_take (i := 16) (v := .bool bt) (some 14) rfl rfl (by kernel_rfl) (by kernel_rfl) (by kernel_rfl) (fun _ _ _ h => h) (Or.inl ⟨by rfl, fun w' hw => by rfl⟩) (by assumption) ?_
  simp only [Act.put, List.setIfInBounds_toArray, List.set_cons_zero, List.set_cons_succ]
  refine anyH_take (i := 17) (v := .int .i64 cd) (some 15) rfl rfl (by kernel_rfl) (by kernel_rfl) (by kernel_rfl) (fun _ _ _ h => h) (Or.inl ⟨by rfl, fun w' hw => by rfl⟩) (by assumption) ?_
  simp only [Act.put, List.setIfInBounds_toArray, List.set_cons_zero, List.set_cons_succ]
  refine wpAnyH_done (by kernel_rfl) ?_ _
  have hR4' : w4.heap[w.heap.size + 1]? = some (.cells ZL.toArray 24 (0, 0)) := hR4
  have hHold := Lib.hid (show True from trivial)
  have fin : Hid (∀ (XL : List UInt8), XL.length = 32 → ∀ (bb : Bool) (kk : Int), (XL, bb, kk) = ansF res → ∀ (tm : List Value), tm.getD 10 undef = .pointer (some ⟨w.heap.size + 1, 0, none⟩) → tm.getD 11 undef = .bool bb → tm.getD 12 undef = .int .i64 kk → bodyPost Try.prog Try.f11 (fun e w' => ∃ (d : List UInt8) (b : Bool) (k : Int), e = .returned (.tuple #[.agg (Lib.byteCells d).toArray, .bool b, .int .i64 k]) ∧ (d, b, k) = ansF res ∧ Below w.heap.size w w') Exit.ret { tmps := tm.toArray, defers := [] } (w4.setRow (w.heap.size + 1) (Lib.byteCells XL).toArray)) := Lib.hid fun XL hx bb kk hk tm t1 t2 t3 => by
    have hset : (w4.setRow (w.heap.size + 1) (Lib.byteCells XL).toArray).heap[w.heap.size + 1]? = some (.cells (Lib.byteCells XL).toArray 24 (0, 0)) := hR4.setRow (Lib.byteCells XL)
    have hb5 : Below w.heap.size w (w4.setRow (w.heap.size + 1) (Lib.byteCells XL).toArray) := Hb4.out.trans (((Only.refl (fun k => k = w.heap.size + 1) w4).setRow (.inl rfl) _).below Hb4.out.size (by rintro k rfl; omega))
    exact bodyPost_ret (results_cell3A (fn := Try.f11) (by rfl) _ _ (w.heap.size + 1) 24 (Lib.byteCells XL).toArray (0, 0) _ (by simpa using t1) _ _ (by simpa using t2) (by simpa using t3) hset Try.underlying24 rfl (by rw [List.size_toArray, Lib.byteCells_length, hx]; exact digInfo)) rfl ⟨XL, bb, kk, rfl, hk, hb5⟩
  clear hHeld hHeldx Hck Hparts hR4 hc4 hr4 c0 c1 hrg2 hc3 hr3 d1 d2 hHold
  obtain ⟨e1, e2, e3, e4⟩ := Hv.out
  clear Hv
  cases res with
  | none =>
    obtain rfl : v = [] := e1
    obtain rfl : vl = 0 := e2
    obtain rfl : bt = false := e3
    obtain rfl : cd = 3 := e4
    go_wp2_with (first | ((with_reducible refine wpList_atA 51 (by rfl) ?_); refine wpList_builtD rfl _ _ rfl _ rfl ZL.toArray HZb.out ?_) | (refine wpList_store_row rfl _ _ _ rfl (w.heap.size + 1) ZL.toArray rfl rfl 24 ZL.toArray hR4' HZi.out (Eq.refl _) HZ1.out ?_))
    rw [HZL.out]
    exact fin.out (List.replicate 32 0) rfl false 3 rfl _ rfl rfl rfl
  | some r =>
    obtain rfl : cd = 0 := by rw [e4]; rfl
    clear e4
    cases r with
    | none =>
      obtain rfl : v = [] := e1
      obtain rfl : vl = 0 := e2
      obtain rfl : bt = false := e3
      go_wp2_with (first | ((with_reducible refine wpList_atA 51 (by rfl) ?_); refine wpList_builtD rfl _ _ rfl _ rfl ZL.toArray HZb.out ?_) | (refine wpList_store_row rfl _ _ _ rfl (w.heap.size + 1) ZL.toArray rfl rfl 24 ZL.toArray hR4' HZi.out (Eq.refl _) HZ1.out ?_))
      rw [HZL.out]
      exact fin.out (List.replicate 32 0) rfl false 0 rfl _ rfl rfl rfl
    | some vx =>
      obtain rfl : bt = true := e3
      obtain rfl : v = vx := e1
      by_cases h32 : vl = 32
      · obtain ⟨bv, ov, rfl, hbv, hcv⟩ := hvb (by omega)
        have hv32 : v.length = 32 := by rw [← e2]; exact h32
        subst h32
        obtain ⟨XL, hXL⟩ : ∃ z, z = Lib.byteCells v := ⟨_, rfl⟩
        have hrv : w4.rangeAt bv ov XL := by
          intro j x hj
          rw [hXL] at hj
          have hj32 : j < v.length := by have := (List.getElem?_eq_some_iff.1 hj).1; rwa [Lib.byteCells_length] at this
          rw [byteCells_get hj32] at hj
          injection hj with hj
          rw [← hj]; exact hcv j hj32
        have HXi := Lib.hid (show (Try.prog.info? 24).map (·.size) = some XL.length by rw [hXL, Lib.byteCells_length, hv32]; exact digInfo)
        have HXj := Lib.hid (show (Try.prog.info? 24).map (·.size) = some XL.toArray.size by rw [List.size_toArray]; exact HXi.out)
        have HX1 := Lib.hid (show XL.toArray.all (·.oneCell') = true by rw [hXL]; exact dig_one _)
        have HXs := Lib.hid (show ZL.toArray.size = XL.toArray.size by rw [List.size_toArray, List.size_toArray, HZL.out, hXL, Lib.byteCells_length, Lib.byteCells_length, hv32]; rfl)
        have Hfin := Lib.hid (fin.out v hv32 true 0 (by show _ = if v.length = 32 then _ else _; rw [if_pos hv32]))
        have HXL := Lib.hid hXL
        have Harr := Lib.hid (fun w => run_arrayAtA bv ov cv w)
        clear fin hcv e2 hXL hvb
        go_wp2_with (first | (refine wpList_arrayAtA rfl 24 _ rfl (.slice (some ⟨bv, ov, none⟩) 32 cv) _ rfl (Harr.out _) ?_) | ((with_reducible refine wpList_atA 59 (by rfl) ?_); refine wpList_load_mid rfl _ _ rfl bv ov rfl XL _ hrv Try.underlying24 rfl HXi.out ?_) | (refine wpList_store_row rfl _ _ _ rfl (w.heap.size + 1) XL.toArray rfl rfl 24 ZL.toArray hR4' HXj.out HXs.out HX1.out ?_))
        rw [HXL.out]
        exact Hfin.out _ rfl rfl rfl
      · have q1 : ((vl : Int) != 32) = true := by simp; omega
        have q2 : decide ((vl : Int) = 32) = false := decide_eq_false (by omega)
        have Hfin := Lib.hid (fin.out (List.replicate 32 0) rfl false 3 (by show _ = if v.length = 32 then _ else _; rw [if_neg (by rw [← e2]; exact h32)]))
        clear fin e2 hvb
        go_wp2_with (first | ((with_reducible refine wpList_atA 56 (by rfl) ?_); refine wpList_builtD rfl _ _ rfl _ rfl ZL.toArray HZb.out ?_) | (refine wpList_store_row rfl _ _ _ rfl (w.heap.size + 1) ZL.toArray rfl rfl 24 ZL.toArray hR4' HZi.out (Eq.refl _) HZ1.out ?_))
        rw [HZL.out]
        exact Hfin.out _ rfl rfl rfl

end Go.Proofs.Ytlailhjpfadpcaa

namespace Go.Proofs.Ytlailhjpfadpcaa
open Go.RowKit
set_option linter.unusedVariables false
set_option linter.unusedSimpArgs false

theorem rfollows_allA (key : List UInt8) (hk : key.length = 32) : ∀ (rs : List (List UInt8)), (∀ r ∈ rs, r.length ≤ 3000) → rs.length ≤ 71 → RFollowsP key rs
  | [], _, _ => rcheck_nil key hk
  | b :: rs, h, hl => rcheck_cons key b hk rs (h b (by simp)) (by simp at hl; omega) (rfollows_allA key hk rs (fun r hr => h r (by simp [hr])) (by simp at hl; omega))
theorem wpList_load_mid_ifA {P : Program} {ops : Array Oper} {rest : List Oper} {o : Oper} {a : Act} {w : World} {Q : Exit → Act → World → Prop} (hw : Region.wanted o (yielded ops a.tmps) = true) (ty : TypeId) (x : Operand) (ho : o.op = .load ty x)
    (b off : Nat) (hx : a.eval x = .pointer (some ⟨b, off, none⟩)) (cs : List Value) (d : TypeDesc) (hc : w.rangeAt b off cs)
    (hu : P.underlying ty = some d) (hd : d.isRow = true) (hi : (P.info? ty).map (·.size) = some cs.length)
    (h : wpList P ops Q rest (a.put o.dst (.agg cs.toArray)) w) : wpList P ops Q (o :: rest) a w :=
  wpList_step fun K hK => by
    rw [if_pos hw]
    exact wp_load_mid ty x ho b off hx cs d hc hu hd hi (hK _ _ h)
theorem wpList_built_ifA {P : Program} {ops : Array Oper} {rest : List Oper} {o : Oper} {a : Act} {w : World} {Q : Exit → Act → World → Prop} (hw : Region.wanted o (yielded ops a.tmps) = true) (t : TypeId) (parts : Array (Nat × Operand)) (ho : o.op = .build t parts)
    (ps : List (Nat × Value)) (hp : parts.toList.map (fun x => (x.1, a.eval x.2)) = ps) (cells : Array Value) (hf : P.built t ps = some cells)
    (h : wpList P ops Q rest (a.put o.dst (.agg cells)) w) : wpList P ops Q (o :: rest) a w :=
  wpList_step fun K hK => by
    rw [if_pos hw]
    unfold Oper.wp execOp
    simp only [ho, Sem.run_bind, run_build w t _ cells (show P.built t (parts.map fun (i, x) => (i, a.eval x)).toList = some cells by rw [← hf, ← hp]; simp), Result.andThen_ok, Sem.run_pure]
    exact hK _ _ h
theorem wpList_eql_ifA {P : Program} {ops : Array Oper} {rest : List Oper} {o : Oper} {a : Act} {w : World} {Q : Exit → Act → World → Prop} (hw : Region.wanted o (yielded ops a.tmps) = true) (ty ty2 : TypeId) (x y : Operand) (ho : o.op = .binOp .eql ty x y ty2)
    (X Y : List Value) (hx : a.eval x = .agg X.toArray) (hy : a.eval y = .agg Y.toArray) (b : Bool) (he : ∀ w, (Op.equalIn 10000 ty (.agg X.toArray) (.agg Y.toArray)).run P w = .ok b w) (hm : P.eqGuardType P.depth ty = false)
    (h : wpList P ops Q rest (a.put o.dst (.bool b)) w) : wpList P ops Q (o :: rest) a w :=
  wpList_step fun K hK => by
    rw [if_pos hw]
    unfold Oper.wp execOp
    simp only [ho, hx, hy, Sem.run_bind, Sem.run_pure, Result.andThen_ok, run_eqGuard_agg, run_eql_struct, he, hm]
    exact hK _ _ h

set_option maxHeartbeats 8000000 in
set_option maxRecDepth 100000 in
theorem ablocks_great (A : Option Addr) (n c : Nat) (ds : List (List UInt8)) (hn : ds.length = n) (hc : n ≤ c) (hm : c ≤ maxLen) (ep : Nat) (hep : ep < 18446744073709551616) (nm : ByteArray) (num : Int) (Ar : Option Addr) (nr cr : Nat) (rs : List (List UInt8)) (hrn : rs.length = nr) (hrc : nr ≤ cr) (hrm : cr ≤ maxLen) (w : World) (hds : DigsAt w A ds) (hrows : RowsAt w w.heap.size Ar rs) (hg : greatA rs = true ∨ 40 < n ∨ 300 < nm.size) :
    Calls Try.prog 4 #[.slice A n c, .int .u64 ep, .string nm, .int .i64 num, .slice Ar nr cr] w fun e w' => e = .returned (.bool true) ∧ Below w.heap.size w w' := by
  have hcn : c ≤ 9223372036854775807 := by unfold maxLen at hm; exact hm
  have hcr : cr ≤ 9223372036854775807 := by unfold maxLen at hrm; exact hrm
  have Hn := Lib.hid hrn
  have Hrows := Lib.hid hrows
  clear hn hrn hrows hds
  go_enter Try.func4, Try.ntmps4
  go_wp2_with fail
  refine Calls.mono (speaks17_any w) ?_
  rintro e w1 ⟨rfl, hb1⟩
  go_wp2_with fail
  refine Calls.mono (greatA_any w.heap.size rs Ar nr cr w1 Hn.out hrc hcr (Hrows.out.below hb1 (Nat.le_refl _))) ?_
  rintro e w2 ⟨rfl, rfl⟩
  cases hg0 : greatA rs with
  | true =>
    clear hg
    go_wp2_with fail
    go_ret
    exact ⟨rfl, hb1⟩
  | false =>
    have hg' : 40 < n ∨ 300 < nm.size := by rcases hg with h | h; rw [hg0] at h; cases h; exact h
    clear hg hg0
    by_cases h40 : 40 < n
    · have d1 : decide ((40 : Int) < (n : Int)) = true := decide_eq_true (by omega)
      clear hg'
      go_wp2_with fail
      go_ret
      exact ⟨rfl, hb1⟩
    · have d1 : decide ((40 : Int) < (n : Int)) = false := decide_eq_false (by omega)
      have d2 : decide ((300 : Int) < (nm.size : Int)) = true := decide_eq_true (by rcases hg' with h | h <;> omega)
      clear hg'
      go_wp2_with fail
      go_ret
      exact ⟨rfl, hb1⟩

set_option maxHeartbeats 8000000 in
set_option maxRecDepth 100000 in
theorem ablocks_out (A : Option Addr) (n c : Nat) (ds : List (List UInt8)) (hn : ds.length = n) (hc : n ≤ c) (hm : c ≤ maxLen) (ep : Nat) (hep : ep < 18446744073709551616) (nm : ByteArray) (num : Int) (Ar : Option Addr) (nr cr : Nat) (rs : List (List UInt8)) (hrn : rs.length = nr) (hrc : nr ≤ cr) (hrm : cr ≤ maxLen) (w : World) (hds : DigsAt w A ds) (hrows : RowsAt w w.heap.size Ar rs) (hg : greatA rs = false) (h40 : n ≤ 40) (hnm : nm.size ≤ 300) (hout : ep < 1 ∨ n < ep) :
    Calls Try.prog 4 #[.slice A n c, .int .u64 ep, .string nm, .int .i64 num, .slice Ar nr cr] w fun e w' => e = .returned (.bool true) ∧ Below w.heap.size w w' := by
  have hcn : c ≤ 9223372036854775807 := by unfold maxLen at hm; exact hm
  have hcr : cr ≤ 9223372036854775807 := by unfold maxLen at hrm; exact hrm
  have Hn := Lib.hid hrn
  have Hnd := Lib.hid hn
  have Hrows := Lib.hid hrows
  have Hds := Lib.hid hds
  have Hm := Lib.hid (show c ≤ maxLen ∧ cr ≤ maxLen from ⟨hm, hrm⟩)
  obtain ⟨hr40, h3000⟩ := greatA_no hg
  have H3000 := Lib.hid (show rs.length ≤ 40 ∧ ∀ r ∈ rs, r.length ≤ 3000 from ⟨hr40, h3000⟩)
  have Hg := Lib.hid hg
  have d0 : decide ((40 : Int) < (n : Int)) = false := decide_eq_false (by omega)
  have d00 : decide ((300 : Int) < (nm.size : Int)) = false := decide_eq_false (by omega)
  have hw64 : IntKind.u64.wrap (n : Int) = (n : Int) := IntWalk.u64_in _ (by omega)
  obtain ⟨ZL, hZL⟩ : ∃ z, z = Lib.byteCells (List.replicate 32 0) := ⟨_, rfl⟩
  have hZl : ZL.length = 32 := by rw [hZL]; rfl
  have HZb := Lib.hid (show Try.prog.built 24 [] = some ZL.toArray by rw [hZL]; exact dig_b0)
  have HZn := Lib.hid (show (Try.prog.info? 24).map (·.size) = some ZL.length by rw [hZl]; exact digInfo)
  have HZi := Lib.hid (show (Try.prog.info? 24).map (·.size) = some ZL.toArray.size by rw [List.size_toArray]; exact HZn.out)
  have HZ1 := Lib.hid (show ZL.toArray.all (·.oneCell') = true by rw [hZL]; exact dig_one _)
  have HZ := Lib.hid (fun w : World => show (zeroValue 24).run Try.prog w = .ok (.agg ZL.toArray) w by rw [hZL]; kernel_rfl)
  have HZL := Lib.hid hZL
  have HZl := Lib.hid hZl
  clear hn hrn hrows hds hm hrm hr40 h3000 hg hZL hZl
  go_enter Try.func4, Try.ntmps4
  go_wp2_with fail
  refine Calls.mono (speaks17_any w) ?_
  rintro e w1 ⟨rfl, hb1⟩
  go_wp2_with fail
  refine Calls.mono (greatA_any w.heap.size rs Ar nr cr w1 Hn.out hrc hcr (Hrows.out.below hb1 (Nat.le_refl _))) ?_
  rintro e w2 ⟨rfl, rfl⟩
  rw [Hg.out]
  have Hds1 := Lib.hid (Hds.out.below hb1)
  have Hrows1 := Lib.hid ((Hrows.out.below hb1 (Nat.le_refl _)).more hb1.size)
  have Hb1 := Lib.hid hb1
  clear hb1
  have hout' := hout
  clear hout
  go_wp2_with fail
  refine Calls.mono (show Calls _ _ #[.agg #[.int .u64 n, .slice A n c, .slice none 0 0], .int .u64 ep, .string nm, .int .i64 num, .slice Ar nr cr] _ _ from block_out ds A n c Hnd.out hc Hm.out.1 w2 Hds1.out ep hep nm num (.slice Ar nr cr) hout') ?_
  rintro e w3 ⟨rfl, hb3⟩
  rw [← HZL.out]
  obtain ⟨XL, hXL⟩ : ∃ z, z = ZL := ⟨_, rfl⟩
  have HXi := Lib.hid (show (Try.prog.info? 24).map (·.size) = some XL.toArray.size by rw [hXL]; exact HZi.out)
  have HX1 := Lib.hid (show XL.toArray.all (·.oneCell') = true by rw [hXL]; exact HZ1.out)
  have HXs := Lib.hid (show ZL.toArray.size = XL.toArray.size by rw [hXL])
  have HXn := Lib.hid (show (Try.prog.info? 24).map (·.size) = some XL.length by rw [hXL]; exact HZn.out)
  have Heq := Lib.hid (fun w : World => show (Op.equalIn 10000 24 (.agg XL.toArray) (.agg ZL.toArray)).run Try.prog w = .ok true w by
    exact digCmpP (List.replicate 32 0) (List.replicate 32 0) rfl rfl XL ZL (by rw [hXL]; exact HZL.out) HZL.out true (by simp) w)
  rw [show (Value.agg ZL.toArray) = Value.agg XL.toArray by rw [hXL]]
  have HXL := Lib.hid hXL
  clear hXL
  obtain ⟨w4, hw4⟩ : ∃ z, z = (w3.alloc (.cells ZL.toArray 24)).setRow w3.heap.size XL.toArray := ⟨_, rfl⟩
  obtain ⟨hR4, hb4⟩ := alloc_row w3 24 ZL.toArray XL
  rw [← hw4] at hR4 hb4
  obtain ⟨gd, hgd⟩ : ∃ z, z = w3.heap.size := ⟨_, rfl⟩
  have HW4 := Lib.hid hw4
  have Hgd := Lib.hid hgd
  have Hb4 := Lib.hid (show Below w.heap.size w w4 from (Hb1.out.trans (hb3.mono Hb1.out.size)).trans (hb4.mono (Nat.le_trans Hb1.out.size hb3.size)))
  rw [← hgd] at hR4
  clear hw4 hgd
  clear hb3 hb4
  go_upto_region 6 with (first | ((with_reducible refine wpList_atA 11 (by rfl) ?_); refine wpList_allocZA rfl 24 rfl ZL.toArray (HZ.out _) ?_) | (change wpList _ _ _ _ _ (w3.alloc (.cells ZL.toArray 24)); refine wpList_store_row rfl _ _ _ rfl w3.heap.size XL.toArray rfl rfl 24 ZL.toArray (heap_alloc_new w3 _) HXi.out HXs.out HX1.out ?_; rw [← HW4.out]))
  have hR4' := Arr.range hR4
  rw [← Hgd.out]
  have T7 : ∀ x : Bool, x = true → True := fun _ _ => trivial
  clear T7 hR4
  by_cases h0 : ep = 0
  · subst h0
    go_wp2_with (first
      | ((with_reducible refine wpList_atA 61 (by rfl) ?_); refine wpList_load_mid_ifA (by rfl) _ _ rfl gd 0 rfl XL _ hR4' Try.underlying24 rfl HXn.out ?_)
      | ((with_reducible refine wpList_atA 62 (by rfl) ?_); refine wpList_built_ifA (by rfl) _ _ rfl _ rfl ZL.toArray HZb.out ?_)
      | ((with_reducible refine wpList_atA 63 (by rfl) ?_); refine wpList_eql_ifA (by rfl) _ _ _ _ rfl XL ZL rfl rfl true Heq.out gt32 ?_))
    go_ret
    exact ⟨rfl, Hb4.out⟩
  · have d1 : decide ((ep : Int) < 1) = false := decide_eq_false (by omega)
    have d2 : decide ((n : Int) < (ep : Int)) = true := decide_eq_true (by rcases hout' with h | h <;> omega)
    have d3 : n < ep := by rcases hout' with h | h <;> omega
    have d4 : decide (n < ep) = true := decide_eq_true d3
    clear hout' h0
    go_wp2_with (first
      | ((with_reducible refine wpList_atA 61 (by rfl) ?_); refine wpList_load_mid_ifA (by rfl) _ _ rfl gd 0 rfl XL _ hR4' Try.underlying24 rfl HXn.out ?_)
      | ((with_reducible refine wpList_atA 62 (by rfl) ?_); refine wpList_built_ifA (by rfl) _ _ rfl _ rfl ZL.toArray HZb.out ?_)
      | ((with_reducible refine wpList_atA 63 (by rfl) ?_); refine wpList_eql_ifA (by rfl) _ _ _ _ rfl XL ZL rfl rfl true Heq.out gt32 ?_))
    go_ret
    exact ⟨rfl, Hb4.out⟩

theorem ansF_length (r : Option (Option (List UInt8))) : (ansF r).1.length = 32 := by
  match r with
  | none => rfl
  | some none => rfl
  | some (some v) =>
    show (if v.length = 32 then (v, true, (0 : Int)) else (List.replicate 32 0, false, 3)).1.length = 32
    by_cases h : v.length = 32
    · rw [if_pos h]; exact h
    · rw [if_neg h]; rfl
theorem arr_bsA {w : World} {g : Nat} {T : TypeId} {l : List UInt8} (h : Arr w g T (Lib.byteCells l)) : Bs w w.heap.size (some ⟨g, 0, none⟩) l := fun _ => ⟨g, 0, rfl, h.lt, fun j hj => by rw [h.cell, Nat.zero_add]; exact byteCells_get hj⟩

set_option maxHeartbeats 16000000 in
set_option maxRecDepth 100000 in
theorem ablocks_in (A : Option Addr) (n c : Nat) (ds : List (List UInt8)) (hn : ds.length = n) (hc : n ≤ c) (hm : c ≤ maxLen) (ep : Nat) (hep : ep < 18446744073709551616) (nm : ByteArray) (num : Int) (Ar : Option Addr) (nr cr : Nat) (rs : List (List UInt8)) (hrn : rs.length = nr) (hrc : nr ≤ cr) (hrm : cr ≤ maxLen) (w : World) (hds : DigsAt w A ds) (hrows : RowsAt w w.heap.size Ar rs) (hg : greatA rs = false) (h40 : n ≤ 40) (hnm : nm.size ≤ 300) (h1 : 1 ≤ ep) (h2 : ep ≤ n) :
    Calls Try.prog 4 #[.slice A n c, .int .u64 ep, .string nm, .int .i64 num, .slice Ar nr cr] w fun e w' => e = .returned (.bool true) ∧ Below w.heap.size w w' := by
  obtain ⟨b, off, rfl, hbl, hrow⟩ := hds (by omega)
  obtain ⟨q, hq⟩ : ∃ q, q = ep - 1 := ⟨_, rfl⟩
  obtain ⟨d0s, hd⟩ : ∃ d, d = ds.getD q [] := ⟨_, rfl⟩
  obtain ⟨hd32, hrg⟩ := hrow q (by omega)
  rw [← hd] at hd32 hrg
  obtain ⟨DL, hDL⟩ : ∃ z, z = Lib.byteCells d0s := ⟨_, rfl⟩
  rw [← hDL] at hrg
  obtain ⟨KL, hKL⟩ : ∃ z, z = Lib.byteCells (keyF nm num) := ⟨_, rfl⟩
  have HDi := Lib.hid (show (Try.prog.info? 24).map (·.size) = some DL.length by rw [hDL, Lib.byteCells_length, hd32]; exact digInfo)
  have H64 := Lib.hid (show IntKind.u64.wrap ((ep : Int) - 1) = (q : Int) by rw [IntWalk.u64_in _ (by omega)]; omega)
  have hqn : q < n := by omega
  obtain ⟨res, hres⟩ : ∃ r, chkF d0s (keyF nm num) rs 0 = r := ⟨_, rfl⟩
  have Hans := Lib.hid (show blockF ds ep nm num rs = ansF res from by
    unfold blockF
    rw [if_neg (by omega), ← hq, ← hd, hres])
  have Hparts := Lib.hid (fun (w' : World) (V : Value) (h : ShownP w' (chkF d0s (keyF nm num) rs 0) V) => show ∃ (A : Option Addr) (c : Nat), V = .tuple #[.slice A ((res.getD none).getD []).length c, .bool (res.getD none).isSome, .int .i64 (if res = none then 3 else 0)] ∧ ((res.getD none).getD []).length ≤ c ∧ c ≤ maxLen ∧ Bs w' w'.heap.size A ((res.getD none).getD []) from by
    have := h.partsA
    rw [hres] at this
    exact this)
  obtain ⟨v, hv⟩ : ∃ z, z = (res.getD none).getD [] := ⟨_, rfl⟩
  obtain ⟨vl, hvl⟩ : ∃ z, z = v.length := ⟨_, rfl⟩
  obtain ⟨bt, hbt⟩ : ∃ z, z = (res.getD none).isSome := ⟨_, rfl⟩
  obtain ⟨cd, hcd⟩ : ∃ z : Int, z = if res = none then 3 else 0 := ⟨_, rfl⟩
  rw [← hv, ← hbt, ← hcd, ← hvl] at Hparts
  have Hv := Lib.hid (show v = (res.getD none).getD [] ∧ vl = v.length ∧ bt = (res.getD none).isSome ∧ cd = if res = none then 3 else 0 from ⟨hv, hvl, hbt, hcd⟩)
  have Hd32 := Lib.hid hd32
  have HDL := Lib.hid hDL
  have HKL := Lib.hid hKL
  have Hbl := Lib.hid hbl
  have Hrg := Lib.hid hrg
  clear hv hvl hbt hcd hres hd32 hDL hKL hrow hd hq hbl hrg
  have hcn : c ≤ 9223372036854775807 := by unfold maxLen at hm; exact hm
  have hcr : cr ≤ 9223372036854775807 := by unfold maxLen at hrm; exact hrm
  have Hn := Lib.hid hrn
  have Hnd := Lib.hid hn
  have Hrows := Lib.hid hrows
  have Hds := Lib.hid hds
  have Hm := Lib.hid (show c ≤ maxLen ∧ cr ≤ maxLen from ⟨hm, hrm⟩)
  obtain ⟨hr40, h3000⟩ := greatA_no hg
  have H3000 := Lib.hid (show rs.length ≤ 40 ∧ ∀ r ∈ rs, r.length ≤ 3000 from ⟨hr40, h3000⟩)
  have Hg := Lib.hid hg
  have d0 : decide ((40 : Int) < (n : Int)) = false := decide_eq_false (by omega)
  have d00 : decide ((300 : Int) < (nm.size : Int)) = false := decide_eq_false (by omega)
  have hw64 : IntKind.u64.wrap (n : Int) = (n : Int) := IntWalk.u64_in _ (by omega)
  obtain ⟨ZL, hZL⟩ : ∃ z, z = Lib.byteCells (List.replicate 32 0) := ⟨_, rfl⟩
  have hZl : ZL.length = 32 := by rw [hZL]; rfl
  have HZb := Lib.hid (show Try.prog.built 24 [] = some ZL.toArray by rw [hZL]; exact dig_b0)
  have HZn := Lib.hid (show (Try.prog.info? 24).map (·.size) = some ZL.length by rw [hZl]; exact digInfo)
  have HZi := Lib.hid (show (Try.prog.info? 24).map (·.size) = some ZL.toArray.size by rw [List.size_toArray]; exact HZn.out)
  have HZ1 := Lib.hid (show ZL.toArray.all (·.oneCell') = true by rw [hZL]; exact dig_one _)
  have HZ := Lib.hid (fun w : World => show (zeroValue 24).run Try.prog w = .ok (.agg ZL.toArray) w by rw [hZL]; kernel_rfl)
  have HZL := Lib.hid hZL
  have HZl := Lib.hid hZl
  clear hn hrn hrows hds hm hrm hr40 h3000 hg hZL hZl
  go_enter Try.func4, Try.ntmps4
  go_wp2_with fail
  refine Calls.mono (speaks17_any w) ?_
  rintro e w1 ⟨rfl, hb1⟩
  go_wp2_with fail
  refine Calls.mono (greatA_any w.heap.size rs Ar nr cr w1 Hn.out hrc hcr (Hrows.out.below hb1 (Nat.le_refl _))) ?_
  rintro e w2 ⟨rfl, rfl⟩
  rw [Hg.out]
  have Hds1 := Lib.hid (Hds.out.below hb1)
  have Hrows1 := Lib.hid ((Hrows.out.below hb1 (Nat.le_refl _)).more hb1.size)
  have Hb1 := Lib.hid hb1
  clear hb1
  have Hrf := Lib.hid (rfollows_allA (keyF nm num) (shaF_length _) rs H3000.out.2 (by have := H3000.out.1; omega))
  go_wp2_with fail
  refine Calls.mono (show Calls _ _ #[.agg #[.int .u64 n, .slice (some ⟨b, off, none⟩) n c, .slice none 0 0], .int .u64 ep, .string nm, .int .i64 num, .slice Ar nr cr] _ _ from block_in ds (some ⟨b, off, none⟩) n c Hnd.out hc Hm.out.1 w2 Hds1.out ep hep nm num h1 h2 (by omega) rs Ar nr cr Hn.out hrc Hm.out.2 Hrows1.out H3000.out.2 (by have := H3000.out.1; rw [Hn.out] at this; omega)) ?_
  rintro e w3 ⟨dd, bb, kk, rfl, hdd, hb3⟩
  rw [Hans.out] at hdd
  have hdl : dd.length = 32 := by have h := ansF_length res; rw [← hdd] at h; exact h
  obtain ⟨XL, hXL⟩ : ∃ z, z = Lib.byteCells dd := ⟨_, rfl⟩
  rw [← hXL]
  have HXn := Lib.hid (show (Try.prog.info? 24).map (·.size) = some XL.length by rw [hXL, Lib.byteCells_length, hdl]; exact digInfo)
  have HXi := Lib.hid (show (Try.prog.info? 24).map (·.size) = some XL.toArray.size by rw [List.size_toArray]; exact HXn.out)
  have HX1 := Lib.hid (show XL.toArray.all (·.oneCell') = true by rw [hXL]; exact dig_one _)
  have HXs := Lib.hid (show ZL.toArray.size = XL.toArray.size by rw [List.size_toArray, List.size_toArray, HZl.out, hXL, Lib.byteCells_length, hdl])
  have HXL := Lib.hid hXL
  have Hdd := Lib.hid hdd
  have Hdl := Lib.hid hdl
  obtain ⟨w4, hw4⟩ : ∃ z, z = (w3.alloc (.cells ZL.toArray 24)).setRow w3.heap.size XL.toArray := ⟨_, rfl⟩
  obtain ⟨hR4, hb4⟩ := alloc_row w3 24 ZL.toArray XL
  rw [← hw4] at hR4 hb4
  obtain ⟨gd, hgd⟩ : ∃ z, z = w3.heap.size := ⟨_, rfl⟩
  have HW4 := Lib.hid hw4
  have Hgd := Lib.hid hgd
  have Hb4 := Lib.hid (show Below w.heap.size w w4 from (Hb1.out.trans (hb3.mono Hb1.out.size)).trans (hb4.mono (Nat.le_trans Hb1.out.size hb3.size)))
  rw [← hgd] at hR4
  clear hw4 hgd
  have hrg4 : w4.rangeAt b (off + q * 32) DL := fun j x hj => (Hb4.out.cell (p := ⟨b, _, none⟩) Hbl.out).trans (Hrg.out j x hj)
  have Hrows4 := Lib.hid ((Hrows.out.below Hb4.out (Nat.le_refl _)).more Hb4.out.size)
  have hblw : b < w4.heap.size := by have := Hbl.out; have := Hb4.out.size; omega
  clear hb3 hb4 hXL hdd hdl Hds1 Hrows1
  go_upto_region 6 with (first | ((with_reducible refine wpList_atA 11 (by rfl) ?_); refine wpList_allocZA rfl 24 rfl ZL.toArray (HZ.out _) ?_) | (change wpList _ _ _ _ _ (w3.alloc (.cells ZL.toArray 24)); refine wpList_store_row rfl _ _ _ rfl w3.heap.size XL.toArray rfl rfl 24 ZL.toArray (heap_alloc_new w3 _) HXi.out HXs.out HX1.out ?_; rw [← HW4.out]))
  rw [← Hgd.out]
  have d1 : decide ((ep : Int) < 1) = false := decide_eq_false (by omega)
  have d2 : decide ((n : Int) < (ep : Int)) = false := decide_eq_false (by omega)
  have d3 : ¬ n < ep := by omega
  have d4 : decide (n < ep) = false := decide_eq_false d3
  go_upto_region 8 with fail
  refine wp_region_held_drew (S := fun w' => w'.rangeAt b (off + q * 32) DL) (by kernel_rfl) hrg4 (fun hHeld => ?_)
  refine anyH_take (i := 0) (v := .slice (some ⟨b, off, none⟩) n c) (some 66) rfl rfl (by kernel_rfl) (by kernel_rfl) (by kernel_rfl) (fun _ _ _ h => h) (Or.inl ⟨by rfl, fun w' hw => by rfl⟩) (by assumption) ?_
  simp only [Act.put, List.setIfInBounds_toArray, List.set_cons_zero, List.set_cons_succ]
  refine anyH_take (i := 1) (v := .int .u64 ep) (some 67) rfl rfl (by kernel_rfl) (by kernel_rfl) (by kernel_rfl) (fun _ _ _ h => h) (Or.inl ⟨by rfl, fun w' hw => by rfl⟩) (by assumption) ?_
  simp only [Act.put, List.setIfInBounds_toArray, List.set_cons_zero, List.set_cons_succ]
  refine anyH_take (i := 2) (v := .int .u64 q) (some 68) rfl rfl (by kernel_rfl) (by kernel_rfl) (by kernel_rfl) (fun _ _ _ h => h) (Or.inl ⟨by rfl, fun w' hw => by (have hh := H64.out; go_simp)⟩) (by assumption) ?_
  simp only [Act.put, List.setIfInBounds_toArray, List.set_cons_zero, List.set_cons_succ]
  refine anyH_take (i := 3) (v := .pointer (some ⟨b, off + q * 32, none⟩)) (some 69) rfl rfl (by kernel_rfl) (by kernel_rfl) (by kernel_rfl) (fun _ _ _ h => h) (Or.inl ⟨by rfl, fun w' hw => by (go_simp; try omega)⟩) (by assumption) ?_
  simp only [Act.put, List.setIfInBounds_toArray, List.set_cons_zero, List.set_cons_succ]
  refine anyH_take (i := 4) (v := .agg DL.toArray) (some 70) rfl rfl (by kernel_rfl) (by kernel_rfl) (by kernel_rfl) (fun _ _ _ h => h) (yieldsIf_load_mid (by rfl) 24 (.tmp 69) rfl b (off + q * 32) rfl DL _ (fun w' h => h) Try.underlying24 rfl HDi.out) (by assumption) ?_
  simp only [Act.put, List.setIfInBounds_toArray, List.set_cons_zero, List.set_cons_succ]
  refine anyH_take (i := 5) (v := .string nm) (some 71) rfl rfl (by kernel_rfl) (by kernel_rfl) (by kernel_rfl) (fun _ _ _ h => h) (Or.inl ⟨by rfl, fun w' hw => by rfl⟩) (by assumption) ?_
  simp only [Act.put, List.setIfInBounds_toArray, List.set_cons_zero, List.set_cons_succ]
  refine anyH_take (i := 6) (v := .int .i64 num) (some 72) rfl rfl (by kernel_rfl) (by kernel_rfl) (by kernel_rfl) (fun _ _ _ h => h) (Or.inl ⟨by rfl, fun w' hw => by rfl⟩) (by assumption) ?_
  simp only [Act.put, List.setIfInBounds_toArray, List.set_cons_zero, List.set_cons_succ]
  refine anyH_take (i := 8) (v := .slice Ar nr cr) (some 74) rfl rfl (by kernel_rfl) (by kernel_rfl) (by kernel_rfl) (fun _ _ _ h => h) (Or.inl ⟨by rfl, fun w' hw => by rfl⟩) (by assumption) ?_
  simp only [Act.put, List.setIfInBounds_toArray, List.set_cons_zero, List.set_cons_succ]
  refine wpAnyH_ready (rs := [7]) (by kernel_rfl) (by simp) ?_
  refine AllReadyH.cons rfl (fun K hK => ?_) AllReadyH.nil
  go_simp
  go_at_call 13
  refine Calls.mono (rkey_any nm (by omega) num KL HKL.out _) ?_
  rintro e w5 ⟨rfl, hb5⟩
  have hb45 : Below w4.heap.size w4 w5 := ⟨hb5.os, hb5.tape, hb5.output, hb5.size, hb5.block⟩
  have Hb5 := Lib.hid (Hb4.out.trans (hb45.mono Hb4.out.size))
  have Hrows5 := Lib.hid ((Hrows.out.below Hb5.out (Nat.le_refl _)).more Hb5.out.size)
  have hR5 := hR4.up hb45
  have hrg5 : w5.rangeAt b (off + q * 32) DL := fun j x hj => (hb45.cell (p := ⟨b, _, none⟩) hblw).trans (hrg4 j x hj)
  go_wp2_with fail
  refine hK.out _ _ hrg5 (fun hHeldx => ?_)
  clear hK K
  try simp only [Act.put, List.setIfInBounds_toArray, List.set_cons_zero, List.set_cons_succ]
  refine wpAnyH_ready (rs := [9]) (by kernel_rfl) (by simp) ?_
  refine AllReadyH.cons rfl (fun K hK => ?_) AllReadyH.nil
  go_simp
  go_at_call 12
  refine Calls.mono (Hrf.out 0 d0s DL KL Ar nr cr _ Hd32.out HDL.out HKL.out (by omega) Hn.out hrc Hm.out.2 Hrows5.out) ?_
  rintro e w6 ⟨V, rfl, hsh, hb6⟩
  obtain ⟨Av, cv, rfl, hvc, hvm, hvb⟩ := Hparts.out _ _ hsh
  have Hb6 := Lib.hid (show Below w.heap.size w w6 from Hb5.out.trans (hb6.mono Hb5.out.size))
  have hR6 := hR5.up hb6
  have hrg6 : w6.rangeAt b (off + q * 32) DL := fun j x hj => (hb6.cell (p := ⟨b, _, none⟩) (by have := hb45.size; simp only; omega)).trans (hrg5 j x hj)
  go_wp2_with fail
  refine hK.out _ _ hrg6 (fun hHeldx => ?_)
  clear hK K
  try simp only [Act.put, List.setIfInBounds_toArray, List.set_cons_zero, List.set_cons_succ]
  refine anyH_take (i := 10) (v := .tuple #[.slice Av vl cv, .bool bt, .int .i64 cd]) (some 65) rfl rfl (by kernel_rfl) (by kernel_rfl) (by kernel_rfl) (fun _ _ _ h => h) (Or.inl ⟨by rfl, fun w' hw => by rfl⟩) (by assumption) ?_
  simp only [Act.put, List.setIfInBounds_toArray, List.set_cons_zero, List.set_cons_succ]
  refine anyH_take (i := 11) (v := .slice Av vl cv) (some 76) rfl rfl (by kernel_rfl) (by kernel_rfl) (by kernel_rfl) (fun _ _ _ h => h) (Or.inl ⟨by rfl, fun w' hw => by go_simp⟩) (by assumption) ?_
  simp only [Act.put, List.setIfInBounds_toArray, List.set_cons_zero, List.set_cons_succ]
  refine anyH_take (i := 12) (v := .bool bt) (some 77) rfl rfl (by kernel_rfl) (by kernel_rfl) (by kernel_rfl) (fun _ _ _ h => h) (Or.inl ⟨by rfl, fun w' hw => by go_simp⟩) (by assumption) ?_
  simp only [Act.put, List.setIfInBounds_toArray, List.set_cons_zero, List.set_cons_succ]
  refine anyH_take (i := 13) (v := .int .i64 cd) (some 78) rfl rfl (by kernel_rfl) (by kernel_rfl) (by kernel_rfl) (fun _ _ _ h => h) (Or.inl ⟨by rfl, fun w' hw => by go_simp⟩) (by assumption) ?_
  simp only [Act.put, List.setIfInBounds_toArray, List.set_cons_zero, List.set_cons_succ]
  refine anyH_take (i := 14) (v := .slice Av vl cv) (some 14) rfl rfl (by kernel_rfl) (by kernel_rfl) (by kernel_rfl) (fun _ _ _ h => h) (Or.inl ⟨by rfl, fun w' hw => by rfl⟩) (by assumption) ?_
  simp only [Act.put, List.setIfInBounds_toArray, List.set_cons_zero, List.set_cons_succ]
  refine anyH_take (i := 15) (v := .bool bt) (some 15) rfl rfl (by kernel_rfl) (by kernel_rfl) (by kernel_rfl) (fun _ _ _ h => h) (Or.inl ⟨by rfl, fun w' hw => by rfl⟩) (by assumption) ?_
  simp only [Act.put, List.setIfInBounds_toArray, List.set_cons_zero, List.set_cons_succ]
  refine anyH_take (i := 16) (v := .int .i64 cd) (some 16) rfl rfl (by kernel_rfl) (by kernel_rfl) (by kernel_rfl) (fun _ _ _ h => h) (Or.inl ⟨by rfl, fun w' hw => by rfl⟩) (by assumption) ?_
  simp only [Act.put, List.setIfInBounds_toArray, List.set_cons_zero, List.set_cons_succ]
  refine wpAnyH_done (by kernel_rfl) ?_ _
  have hR6r := Arr.range hR6
  obtain ⟨e1, e2, e3, e4⟩ := Hv.out
  clear Hv Hparts hHeld hHeldx hrg4 hrg5 hrg6 hR4 hR5 hb5 hb45 hb6 hsh d1 d2 d3 d4 Hrf
  cases res with
  | none =>
    obtain rfl : v = [] := e1
    obtain rfl : vl = 0 := e2
    obtain rfl : bt = false := e3
    obtain rfl : cd = 3 := e4
    have h : (dd, bb, kk) = (List.replicate 32 0, false, (3 : Int)) := Hdd.out
    simp only [Prod.mk.injEq] at h
    obtain ⟨rfl, rfl, rfl⟩ := h
    have Heq := Lib.hid (fun w : World => digCmpP (List.replicate 32 0) (List.replicate 32 0) rfl rfl XL ZL HXL.out HZL.out true (by simp) w)
    go_wp2_with (first
      | ((with_reducible refine wpList_atA 96 (by rfl) ?_); refine wpList_load_mid_ifA (by rfl) _ _ rfl gd 0 rfl XL _ hR6r Try.underlying24 rfl HXn.out ?_)
      | ((with_reducible refine wpList_atA 97 (by rfl) ?_); refine wpList_built_ifA (by rfl) _ _ rfl _ rfl ZL.toArray HZb.out ?_)
      | ((with_reducible refine wpList_atA 98 (by rfl) ?_); refine wpList_eql_ifA (by rfl) _ _ _ _ rfl XL ZL rfl rfl true Heq.out gt32 ?_))
    go_ret
    exact ⟨rfl, Hb6.out⟩
  | some r =>
    obtain rfl : cd = 0 := by rw [e4]; rfl
    clear e4
    cases r with
    | none =>
      obtain rfl : v = [] := e1
      obtain rfl : vl = 0 := e2
      obtain rfl : bt = false := e3
      have h : (dd, bb, kk) = (List.replicate 32 0, false, (0 : Int)) := Hdd.out
      simp only [Prod.mk.injEq] at h
      obtain ⟨rfl, rfl, rfl⟩ := h
      have Heq := Lib.hid (fun w : World => digCmpP (List.replicate 32 0) (List.replicate 32 0) rfl rfl XL ZL HXL.out HZL.out true (by simp) w)
      go_wp2_with (first
      | ((with_reducible refine wpList_atA 119 (by rfl) ?_); refine wpList_load_mid_ifA (by rfl) _ _ rfl gd 0 rfl XL _ hR6r Try.underlying24 rfl HXn.out ?_)
      | ((with_reducible refine wpList_atA 120 (by rfl) ?_); refine wpList_built_ifA (by rfl) _ _ rfl _ rfl ZL.toArray HZb.out ?_)
      | ((with_reducible refine wpList_atA 121 (by rfl) ?_); refine wpList_eql_ifA (by rfl) _ _ _ _ rfl XL ZL rfl rfl true Heq.out gt32 ?_))
      go_ret
      exact ⟨rfl, Hb6.out⟩
    | some vx =>
      obtain rfl : bt = true := e3
      obtain rfl : v = vx := e1
      have h0 : (dd, bb, kk) = if v.length = 32 then (v, true, (0 : Int)) else (List.replicate 32 0, false, 3) := Hdd.out
      by_cases h32 : vl = 32
      · have hv32 : v.length = 32 := by rw [← e2]; exact h32
        rw [if_pos hv32] at h0
        simp only [Prod.mk.injEq] at h0
        obtain ⟨rfl, rfl, rfl⟩ := h0
        subst h32
        have Hsame := Lib.hid (fun w' (hw : w' = w6) => same_n w6.heap.size w6.heap.size (some ⟨gd, 0, none⟩) Av 32 cv 32 32 dd dd w' true (by rw [hw]; exact arr_bsA (by rw [← HXL.out]; exact hR6)) (by rw [hw]; exact hvb) hv32 hv32 (by unfold maxLen; omega) (by unfold maxLen; omega) (by simp))
        have Hex := Lib.hid (show 32 ≤ cv from hvc)
        clear hvb e2 hvc hR6
        go_wp2_with fail
        refine Calls.mono (Hsame.out w6 rfl) ?_
        rintro e w7 ⟨rfl, nd, rfl⟩
        go_wp2_with fail
        go_ret
        exact ⟨rfl, Below.dN Hb6.out nd⟩
      · have q1 : ((vl : Int) != 32) = true := by simp; omega
        have q2 : decide ((vl : Int) = 32) = false := decide_eq_false (by omega)
        rw [if_neg (by rw [← e2]; exact h32)] at h0
        simp only [Prod.mk.injEq] at h0
        obtain ⟨rfl, rfl, rfl⟩ := h0
        have Heq := Lib.hid (fun w : World => digCmpP (List.replicate 32 0) (List.replicate 32 0) rfl rfl XL ZL HXL.out HZL.out true (by simp) w)
        clear hvb e2
        go_wp2_with (first
      | ((with_reducible refine wpList_atA 96 (by rfl) ?_); refine wpList_load_mid_ifA (by rfl) _ _ rfl gd 0 rfl XL _ hR6r Try.underlying24 rfl HXn.out ?_)
      | ((with_reducible refine wpList_atA 97 (by rfl) ?_); refine wpList_built_ifA (by rfl) _ _ rfl _ rfl ZL.toArray HZb.out ?_)
      | ((with_reducible refine wpList_atA 98 (by rfl) ?_); refine wpList_eql_ifA (by rfl) _ _ _ _ rfl XL ZL rfl rfl true Heq.out gt32 ?_))
        go_ret
        exact ⟨rfl, Hb6.out⟩

theorem ablocks_walk (A : Option Addr) (n c : Nat) (ds : List (List UInt8)) (hn : ds.length = n) (hc : n ≤ c) (hm : c ≤ maxLen) (ep : Nat) (hep : ep < 18446744073709551616) (nm : ByteArray) (hnm : nm.size ≤ maxLen) (num : Int) (hu0 : -9223372036854775808 ≤ num) (hu1 : num ≤ 9223372036854775807) (Ar : Option Addr) (nr cr : Nat) (rs : List (List UInt8)) (hrn : rs.length = nr) (hrc : nr ≤ cr) (hrm : cr ≤ maxLen) (w : World) (hds : DigsAt w A ds) (hrows : RowsAt w w.heap.size Ar rs) :
    Calls Try.prog 4 #[.slice A n c, .int .u64 ep, .string nm, .int .i64 num, .slice Ar nr cr] w fun e w' => e = .returned (.bool true) ∧ Below w.heap.size w w' := by
  by_cases hg : greatA rs = true ∨ 40 < n ∨ 300 < nm.size
  · exact ablocks_great A n c ds hn hc hm ep hep nm num Ar nr cr rs hrn hrc hrm w hds hrows hg
  · have h1 : greatA rs = false := by cases h : greatA rs; rfl; exact absurd (.inl h) hg
    have h2 : n ≤ 40 := by have := fun h => hg (.inr (.inl h)); omega
    have h3 : nm.size ≤ 300 := by have := fun h => hg (.inr (.inr h)); omega
    by_cases ho : ep < 1 ∨ n < ep
    · exact ablocks_out A n c ds hn hc hm ep hep nm num Ar nr cr rs hrn hrc hrm w hds hrows h1 h2 h3 ho
    · exact ablocks_in A n c ds hn hc hm ep hep nm num Ar nr cr rs hrn hrc hrm w hds hrows h1 h2 h3 (by omega) (by omega)

end Go.Proofs.Ytlailhjpfadpcaa

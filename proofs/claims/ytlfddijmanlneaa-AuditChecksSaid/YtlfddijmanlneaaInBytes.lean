/-
  In.Bytes.
-/
import Derived.Test.YtlfddijmanlneaaFrom
namespace Go.Proofs.Ytlfddijmanlneaa
open Go.RowKit
set_option linter.unusedVariables false
variable {lo : Nat}

set_option maxHeartbeats 2000000 in
set_option maxRecDepth 100000 in
theorem bytes_inL (p : Nat) (most : Int) (l : List UInt8) (wr : Bool) (w : World) (h : PInL lo w p l wr) (hlo : -9223372036854775808 ≤ most) (hhi : most ≤ 9223372036854775807) :
    Calls Try.prog 44 #[.pointer (some ⟨p, 0, none⟩), .int .i64 most] w (BytesInPostL lo p most l wr w) := by
  by_cases hneg : most < 0
  · have hconv : IntKind.u64.wrap most = ((most + 18446744073709551616).toNat : Int) := by
      have : IntKind.u64.wrap most = most % 18446744073709551616 := by simp [IntKind.wrap_u64]
      rw [this]
      omega
    have hbF : bytesF most l = ([], [], true) := by unfold bytesF; rw [if_pos hneg]
    have HB := Lib.hid hbF
    have HN := Lib.hid hconv
    clear hbF hconv
    go_enter Try.func44, Try.ntmps44
    go_wp2_with fail
    refine (fail_any p l wr _ h).mono ?_
    rintro e w1 ⟨rfl, hp1, ht1⟩
    go_wp2_with fail
    rw [HN.out]
    refine (number_in p _ [] true _ hp1 (by omega)).mono ?_
    rintro e w2 ⟨rfl, hp2, ht2⟩
    have hnF : numF (most + 18446744073709551616).toNat [] = (0, [], true) := by unfold numF; rw [if_pos (.inl rfl)]
    rw [hnF] at hp2 ⊢
    clear hnF
    go_wp2_with fail
    refine (cut_anyL p 0 [] true _ hp2 (by omega)).mono ?_
    rintro e w3 ⟨A, c, rfl, h1, h2, h3, hp3, ht3, hlb⟩
    have hcF : cutF 0 [] = ([], [], false) := rfl
    rw [hcF] at h1 h3 hp3 ⊢
    clear hcF
    go_wp2_with fail
    go_ret
    refine ⟨A, c, by rw [HB.out]; rfl, by rw [HB.out]; exact h1, h2, by rw [HB.out]; exact h3, ?_, (ht1.trans ht2).trans ht3, hlb⟩
    rw [HB.out]
    simpa using hp3
  · have hbF : bytesF most l = ((cutF (numF most.toNat l).1 (numF most.toNat l).2.1).1, (cutF (numF most.toNat l).1 (numF most.toNat l).2.1).2.1, (numF most.toNat l).2.2 || (cutF (numF most.toNat l).1 (numF most.toNat l).2.1).2.2) := by
      unfold bytesF; rw [if_neg hneg]
    have HB := Lib.hid hbF
    have h0 : 0 ≤ most := by omega
    have Hm := Lib.hid (Int.toNat_of_nonneg h0)
    clear hbF
    go_enter Try.func44, Try.ntmps44
    go_wp2_with fail
    rw [← Hm.out]
    refine (number_in p most.toNat l wr _ h (by omega)).mono ?_
    rintro e w2 ⟨rfl, hp2, ht2⟩
    rw [Hm.out]
    have hv := numF_lt most.toNat l
    have hq : Hid (∃ q, numF most.toNat l = q) := ⟨_, rfl⟩
    obtain ⟨q, hq⟩ := hq.out
    have HB' := HB.out
    rw [hq] at hp2 hv HB' ⊢
    have HB2 := Lib.hid HB'
    clear hq HB HB'
    obtain ⟨v, l2, f⟩ := q
    go_wp2_with fail
    refine (cut_anyL p v l2 _ _ hp2 hv).mono ?_
    rintro e w3 ⟨A, c, rfl, h1, h2, h3, hp3, ht3, hlb⟩
    go_wp2_with fail
    go_ret
    refine ⟨A, c, by rw [HB2.out]; rfl, by rw [HB2.out]; exact h1, h2, by rw [HB2.out]; exact h3, ?_, ht2.trans ht3, hlb⟩
    rw [HB2.out]
    simpa [Bool.or_assoc] using hp3

theorem bytes_in (p : Nat) (most : Int) (l : List UInt8) (wr : Bool) (w : World) (h : PInL lo w p l wr) (hlo : -9223372036854775808 ≤ most) (hhi : most ≤ 9223372036854775807) :
    Calls Try.prog 44 #[.pointer (some ⟨p, 0, none⟩), .int .i64 most] w (BytesInPost lo p most l wr w) :=
  (bytes_inL p most l wr w h hlo hhi).mono fun _ _ ⟨A, c, h1, h2, h3, h4, h5, h6, _⟩ => ⟨A, c, h1, h2, h3, h4, h5, h6⟩

end Go.Proofs.Ytlfddijmanlneaa

/-
  The law IndexReads.
-/
import Derived.Test.YtfelacpaaialfaaDoorIxDecode
import Derived.Test.YtfelacpaaialfaaDoorIxRDec
import Derived.Test.YtfelacpaaialfaaDoorIxEnc
import Derived.Test.YtfelacpaaialfaaDoorIxSpeaks
import Derived.Test.YtfelacpaaialfaaDoorSame
namespace Go.Proofs.YtfelacpaaialfaaDoor
open Go.RowKit
set_option linter.unusedVariables false
set_option linter.unusedSimpArgs false

set_option maxRecDepth 100000
theorem owns_emptyX (w : World) (B : Nat) (hB : B ≤ w.heap.size) : Owns (w.alloc (.cells #[] 5)) B 5 (.slice (some ⟨w.heap.size, 0, none⟩) 0 0) [] :=
  ⟨rfl, .inr ⟨w.heap.size, 0, #[], rfl, hB, heap_alloc_new w _, Nat.le_refl _, by unfold maxLen; omega, rfl, rfl⟩⟩

set_option maxHeartbeats 8000000 in
theorem ireads_walk (A : Option Addr) (n c : Nat) (b : List UInt8) (hbl : b.length = n) (hnc : n ≤ c) (hcm : c ≤ maxLen) (w : World) (hb : Bs w w.heap.size A b) (h0 : 0 < w.heap.size) (hno : w.rangeAt 0 0 (plC (-1) 0)) :
    Calls Tryd.prog 3 #[.slice A n c] w fun e w' => e = .returned (.bool true) ∧ Below w.heap.size w w' := by
  have hm' : c ≤ 9223372036854775807 := by unfold maxLen at hcm; omega
  have Hn := Lib.hid hbl
  have Hbs := Lib.hid hb
  have Hc := Lib.hid (show n ≤ c ∧ c ≤ maxLen from ⟨hnc, hcm⟩)
  have Hno := Lib.hid hno
  clear hbl hb hno
  go_enter Tryd.func3, Tryd.ntmps3
  go_wp2_with fail
  refine Calls.mono (speaks11_any w h0 Hno.out) ?_
  rintro e w3 ⟨rfl, hb3⟩
  have Hb3 := Lib.hid hb3
  clear hb3
  by_cases hbig : 3000 < n
  · have hd1 : decide ((n : Int) > 3000) = true := by simp; omega
    have hd1n : decide (3000 < n) = true := decide_eq_true hbig
    go_wp2_with fail
    go_ret
    exact ⟨rfl, Hb3.out⟩
  have hd1 : decide ((n : Int) > 3000) = false := by simp; omega
  have hd1n : decide (3000 < n) = false := decide_eq_false hbig
  have Hsm := Lib.hid (show n ≤ 3000 by omega)
  obtain ⟨i0, hi, hi0, hi1, hi2⟩ := info_parts byteInfo
  have Hbs3 := Lib.hid (Hbs.out.below Hb3.out (Nat.le_refl _))
  clear hbig
  go_wp2_with (at_builtin; refine wpList_append_bs rfl _ _ 22 rfl w3.heap.size 5 i0 (.int .u8 0) Tryd.underlying22 hi hi0 hi1 hi2 rfl (.slice (some ⟨w3.heap.size, 0, none⟩) 0 0) [] rfl (owns_emptyX w3 w3.heap.size (Nat.le_refl _)) w.heap.size A n c b rfl Hn.out (Hbs3.out.keep fun b o hlt => World.cell?_alloc_lt w3 _ ⟨b, o, none⟩ (show b < w3.heap.size by have := Hb3.out.size; omega)) (by have := Hsm.out; simp; omega) (by simp) ?_; intro v4 w4 hown4 hg4)
  rw [List.nil_append] at hown4
  have hb34 : Below w3.heap.size w3 w4 := ((Below.refl _ w3).alloc (Nat.le_refl _) _).trans (hg4.below (by simp) (fun k hk => by simp [Value.ownBlock] at hk; omega))
  obtain ⟨A4, c4, rfl, hc4, hcm4, hbs4⟩ := Owns.slice hown4
  rw [Hn.out] at hc4 ⊢
  have Hb4 := Lib.hid (show Below w.heap.size w w4 from Hb3.out.trans (hb34.mono Hb3.out.size))
  clear hown4 hg4 hb34 hi hi0 hi1 hi2
  have Hdec := Lib.hid (idecode_any A4 n c4 b Hn.out hc4 hcm4 (by have := Hsm.out; omega) w4 hbs4 (Nat.lt_of_lt_of_le h0 Hb4.out.size) (nowKeptX Hno.out Hb4.out h0))
  clear hbs4 hc4 hcm4
  refine Calls.mono Hdec.out ?_
  rintro e w5 ⟨hb5, hcase⟩
  have Hb5 := Lib.hid (show Below w.heap.size w w5 from Hb4.out.trans (hb5.mono Hb4.out.size))
  have Hbs5 := Lib.hid ((Hbs.out.below Hb5.out (Nat.le_refl _)).more Hb5.out.size)
  have Hrd := Lib.hid (ridec_any A n c b Hn.out Hc.out.1 Hc.out.2 (by have := Hsm.out; omega) w5 Hbs5.out)
  clear Hdec hb5
  rcases hcase with ⟨hno, rfl⟩ | ⟨s, mb, L, hyes, rfl, hQ, _, _⟩
  · have Hno2 := Lib.hid hno
    clear hno
    go_wp2_with fail
    refine Calls.mono Hrd.out ?_
    rintro e w6 ⟨hb6, hcase⟩
    have Hb6 := Lib.hid (show Below w.heap.size w w6 from Hb5.out.trans (hb6.mono Hb5.out.size))
    rcases hcase with ⟨hno2, rfl⟩ | ⟨v, xs, hy2, _⟩
    · clear hno2 hb6 Hrd
      go_wp2_with fail
      go_ret
      exact ⟨rfl, Hb6.out⟩
    · rw [Hno2.out] at hy2
      cases hy2
  · obtain ⟨h1, h2, h3⟩ := decI_sound (by rw [Hn.out]; have := Hsm.out; omega) hyes
    have Henc := Lib.hid h1
    have Hok := Lib.hid h2
    have HL := Lib.hid (show L.length ≤ 100000 by rw [Hn.out] at h3; have := Hsm.out; omega)
    have Hyes := Lib.hid hyes
    have HQ := Lib.hid hQ
    clear h1 h2 h3 hyes hQ
    go_wp2_with fail
    refine Calls.mono Hrd.out ?_
    rintro e w6 ⟨hb6, hcase⟩
    have Hb6 := Lib.hid (show Below w.heap.size w w6 from Hb5.out.trans (hb6.mono Hb5.out.size))
    rcases hcase with ⟨hno2, rfl⟩ | ⟨v, xs, hy2, rfl, hI⟩
    · rw [Hyes.out] at hno2
      cases hno2
    · have hxl : L = xs := by
        rw [Hyes.out] at hy2
        injection hy2
      subst hxl
      have HQ6 := Lib.hid (HQ.out.up hb6)
      have Hall := Lib.hid (items_any s mb L w6 HQ6.out Hok.out HL.out)
      obtain ⟨nx, hnx⟩ : ∃ z, L.length = z := ⟨_, rfl⟩
      obtain ⟨Ax, cx, rfl, hx1, hx2⟩ := irw_form hI hnx
      have HI := Lib.hid hI
      have Hnx := Lib.hid hnx
      clear hy2 hb6 Hrd hI hnx
      go_wp2_with fail
      refine Calls.mono Hall.out ?_
      rintro e w7 ⟨v7, rfl, hI7, hb7⟩
      obtain ⟨A7, c7, rfl, hy1, hy2⟩ := irw_form hI7 Hnx.out
      have hrow7 : ItRow w7 A7 L := by
        obtain ⟨_, _, e, _, _, hr⟩ := hI7.slice
        injection e with e1 e2 e3
        rw [e1]; exact hr
      have hrowx : ItRow w7 Ax L := by
        obtain ⟨_, _, e, _, _, hr⟩ := (HI.out.up hb7).slice
        injection e with e1 e2 e3
        rw [e1]; exact hr
      have Hsm7 := Lib.hid (ixsame_any L A7 Ax nx c7 cx w7 Hnx.out hy1 hy2 hx1 hx2 hrow7 hrowx)
      have HQ7 := Lib.hid (HQ6.out.up hb7)
      have Hb7 := Lib.hid (show Below w.heap.size w w7 from Hb6.out.trans (hb7.mono Hb6.out.size))
      clear hb7 Hall hI7 hrow7 hrowx
      go_wp2_with fail
      refine Calls.mono Hsm7.out ?_
      rintro e w8 ⟨rfl, hD8⟩
      have hb8 : Below w7.heap.size w7 w8 := by obtain ⟨dn, e⟩ := hD8; rw [e]; exact Below.dN (Below.refl _ _) dn
      have HQ8 := Lib.hid (HQ7.out.up hb8)
      have Hb8 := Lib.hid (show Below w.heap.size w w8 from Hb7.out.trans (hb8.mono Hb7.out.size))
      have He := Lib.hid (iencode_any s mb L w8 HQ8.out Hok.out HL.out b Henc.out.symm (by rw [Hn.out]; have := Hsm.out; omega))
      clear hD8 hb8 Hsm7
      go_wp2_with fail
      refine Calls.mono He.out ?_
      rintro e w9 ⟨v9, rfl, hO9, hb9⟩
      obtain ⟨A9, c9, rfl, hc9, hcm9, hbs9⟩ := Owns.slice hO9
      rw [Hn.out] at hc9 ⊢
      have Hb9 := Lib.hid (show Below w.heap.size w w9 from Hb8.out.trans (hb9.mono Hb8.out.size))
      have Hs := Lib.hid (same_n w9.heap.size w.heap.size A9 A c9 c n n b b w9 true hbs9 (Hbs.out.below Hb9.out (Nat.le_refl _)) Hn.out Hn.out (by have := Hsm.out; unfold maxLen; omega) (by have := Hsm.out; unfold maxLen; omega) (by simp))
      clear hbs9 hc9 hcm9 hb9 hO9 He
      go_wp2_with fail
      refine Calls.mono Hs.out ?_
      rintro e w10 ⟨rfl, j10, rfl⟩
      go_wp2_with fail
      go_ret
      exact ⟨rfl, Below.dN Hb9.out j10⟩

end Go.Proofs.YtfelacpaaialfaaDoor

/-
  The law VolumeReads.
-/
import Derived.Test.YtcajhndhjlfmaaaVrDecode
import Derived.Test.YtcajhndhjlfmaaaVrRDec
import Derived.Test.YtcajhndhjlfmaaaVrEnc
import Derived.Test.YtcajhndhjlfmaaaVrSp
import Derived.Test.YtcajhndhjlfmaaaSame
namespace Go.Proofs.Ytcajhndhjlfmaaa
open Go.RowKit
set_option linter.unusedVariables false
set_option linter.unusedSimpArgs false

set_option maxRecDepth 100000
theorem owns_emptyC (w : World) (B : Nat) (hB : B ≤ w.heap.size) : Owns (w.alloc (.cells #[] 5)) B 5 (.slice (some ⟨w.heap.size, 0, none⟩) 0 0) [] :=
  ⟨rfl, .inr ⟨w.heap.size, 0, #[], rfl, hB, heap_alloc_new w _, Nat.le_refl _, by unfold maxLen; omega, rfl, rfl⟩⟩

set_option maxHeartbeats 8000000 in
theorem vreads_walk (A : Option Addr) (n c : Nat) (b : List UInt8) (hbl : b.length = n) (hnc : n ≤ c) (hcm : c ≤ maxLen) (w : World) (hb : Bs w w.heap.size A b) :
    Calls Try.prog 3 #[.slice A n c] w fun e w' => e = .returned (.bool true) ∧ Below w.heap.size w w' := by
  have hm' : c ≤ 9223372036854775807 := by unfold maxLen at hcm; omega
  have Hn := Lib.hid hbl
  have Hbs := Lib.hid hb
  have Hc := Lib.hid (show n ≤ c ∧ c ≤ maxLen from ⟨hnc, hcm⟩)
  clear hbl hb
  go_enter Try.func3, Try.ntmps3
  go_wp2_with fail
  refine Calls.mono (speaks12_any w) ?_
  rintro e w3 ⟨rfl, hb3⟩
  have Hb3 := Lib.hid hb3
  clear hb3
  by_cases hbig : 3000 < n
  · have hd1 : decide ((n : Int) > 3000) = true := by simp; omega
    have hd1n : decide (3000 < n) = true := decide_eq_true hbig
    go_wp2_with fail
    go_ret
    exact ⟨rfl, Hb3.out⟩
  have hd1 : decide ((n : Int) > 3000) = false := by simp; omega
  have hd1n : decide (3000 < n) = false := decide_eq_false hbig
  have Hsm := Lib.hid (show n ≤ 3000 by omega)
  obtain ⟨i0, hi, hi0, hi1, hi2⟩ := info_parts byteInfo
  have Hbs3 := Lib.hid (Hbs.out.below Hb3.out (Nat.le_refl _))
  clear hbig
  go_wp2_with (at_builtin; refine wpList_append_bs rfl _ _ 22 rfl w3.heap.size 5 i0 (.int .u8 0) Try.underlying22 hi hi0 hi1 hi2 rfl (.slice (some ⟨w3.heap.size, 0, none⟩) 0 0) [] rfl (owns_emptyC w3 w3.heap.size (Nat.le_refl _)) w.heap.size A n c b rfl Hn.out (Hbs3.out.keep fun b o hlt => World.cell?_alloc_lt w3 _ ⟨b, o, none⟩ (show b < w3.heap.size by have := Hb3.out.size; omega)) (by have := Hsm.out; simp; omega) (by simp) ?_; intro v4 w4 hown4 hg4)
  rw [List.nil_append] at hown4
  have hb34 : Below w3.heap.size w3 w4 := ((Below.refl _ w3).alloc (Nat.le_refl _) _).trans (hg4.below (by simp) (fun k hk => by simp [Value.ownBlock] at hk; omega))
  obtain ⟨A4, c4, rfl, hc4, hcm4, hbs4⟩ := Owns.slice hown4
  rw [Hn.out] at hc4 ⊢
  have Hb4 := Lib.hid (show Below w.heap.size w w4 from Hb3.out.trans (hb34.mono Hb3.out.size))
  clear hown4 hg4 hb34 hi hi0 hi1 hi2
  have Hdec := Lib.hid (decode_any A4 n c4 b Hn.out hc4 hcm4 (by have := Hsm.out; omega) w4 hbs4)
  clear hbs4 hc4 hcm4
  refine Calls.mono Hdec.out ?_
  rintro e w5 ⟨hb5, hcase⟩
  have Hb5 := Lib.hid (show Below w.heap.size w w5 from Hb4.out.trans (hb5.mono Hb4.out.size))
  have Hbs5 := Lib.hid ((Hbs.out.below Hb5.out (Nat.le_refl _)).more Hb5.out.size)
  have Hrd := Lib.hid (rdec12_any A n c b Hn.out Hc.out.1 Hc.out.2 (by have := Hsm.out; omega) w5 Hbs5.out)
  have Hsame := Lib.hid (show decV 1073741824 b = decV n b by rw [decV_same (by rw [Hn.out]; have := Hsm.out; omega), Hn.out])
  clear Hdec hb5
  rcases hcase with ⟨hno, rfl⟩ | ⟨L, s, F, hyes, rfl, hS, hF⟩
  · have Hno := Lib.hid hno
    clear hno
    go_wp2_with fail
    refine Calls.mono Hrd.out ?_
    rintro e w6 ⟨hb6, hcase⟩
    have Hb6 := Lib.hid (show Below w.heap.size w w6 from Hb5.out.trans (hb6.mono Hb5.out.size))
    rcases hcase with ⟨hno2, rfl⟩ | ⟨A', n', c', xs, hy2, _⟩
    · clear hno2 hb6 Hrd
      go_wp2_with fail
      go_ret
      exact ⟨rfl, Hb6.out⟩
    · rw [Hsame.out, Hno.out] at hy2
      cases hy2
  · obtain ⟨h1, h2, h3, h4, h5⟩ := decV_sound (by have := Hsm.out; omega) hyes
    have Henc := Lib.hid h1
    have Hok := Lib.hid h2
    have hL : L.length ≤ 100000 := by have := Hsm.out; omega
    have Hyes := Lib.hid hyes
    have HS := Lib.hid hS
    clear h1 h2 h3 h4 h5 hyes hS
    go_wp2_with fail
    refine Calls.mono Hrd.out ?_
    rintro e w6 ⟨hb6, hcase⟩
    have Hb6 := Lib.hid (show Below w.heap.size w w6 from Hb5.out.trans (hb6.mono Hb5.out.size))
    rcases hcase with ⟨hno2, rfl⟩ | ⟨A', n', c', xs, hy2, rfl, hxn, hxc, hxm, hxs⟩
    · rw [Hsame.out, Hyes.out] at hno2
      cases hno2
    · have hxl : L = xs.map (·.v) := by
        rw [Hsame.out, Hyes.out] at hy2
        injection hy2
      have Hxl := Lib.hid hxl
      have HS6 := Lib.hid (HS.out.only (R := fun _ => False) (Only.of_below hb6) fun _ _ h => h)
      have Hall := Lib.hid (all_any s w6 F L HS6.out hL)
      have Hxs := Lib.hid hxs
      have Hxn := Lib.hid hxn
      have Hx2 := Lib.hid (show n' ≤ c' ∧ c' ≤ maxLen from ⟨hxc, hxm⟩)
      clear hy2 hxl hb6 Hrd hxs hxn hxc hxm
      go_wp2_with fail
      refine Calls.mono Hall.out ?_
      rintro e w7 ⟨A7, c7, ys, rfl, hy1, hy2, hy3, hy4, hb7⟩
      obtain ⟨ny, hny⟩ : ∃ z, ys.length = z := ⟨_, rfl⟩
      rw [hny] at hy1 ⊢
      have Hsm7 := Lib.hid (same12_any A7 A' ny c7 n' c' ys xs w7 _ _ hy3 (Hxs.out.below hb7) hny Hxn.out hy1 hy2 Hx2.out.1 Hx2.out.2 true (by rw [hy4, Hxl.out]; simp))
      have HS7 := Lib.hid (HS6.out.only (R := fun _ => False) (Only.of_below hb7) fun _ _ h => h)
      have Hb7 := Lib.hid (show Below w.heap.size w w7 from Hb6.out.trans (hb7.mono Hb6.out.size))
      clear hy1 hy2 hy3 hy4 hb7 hny Hall
      go_wp2_with fail
      refine Calls.mono Hsm7.out ?_
      rintro e w8 ⟨rfl, hD8⟩
      have hb8 : Below w7.heap.size w7 w8 := by obtain ⟨dn, e⟩ := hD8; rw [e]; exact Below.dN (Below.refl _ _) dn
      have HS8 := Lib.hid (HS7.out.only (R := fun _ => False) (Only.of_below hb8) fun _ _ h => h)
      have Hb8 := Lib.hid (show Below w.heap.size w w8 from Hb7.out.trans (hb8.mono Hb7.out.size))
      have He := Lib.hid (encode_any s w8 F L HS8.out hL Hok.out b Henc.out (by rw [Hn.out]; have := Hsm.out; omega))
      clear hD8 hb8 Hsm7
      go_wp2_with fail
      refine Calls.mono He.out ?_
      rintro e w9 ⟨v9, rfl, hO9, hb9⟩
      obtain ⟨A9, c9, rfl, hc9, hcm9, hbs9⟩ := Owns.slice hO9
      rw [Hn.out] at hc9 ⊢
      have Hb9 := Lib.hid (show Below w.heap.size w w9 from Hb8.out.trans (hb9.mono Hb8.out.size))
      have Hs := Lib.hid (same_n w9.heap.size w.heap.size A9 A c9 c n n b b w9 true hbs9 (Hbs.out.below Hb9.out (Nat.le_refl _)) Hn.out Hn.out (by have := Hsm.out; unfold maxLen; omega) (by have := Hsm.out; unfold maxLen; omega) (by simp))
      clear hbs9 hc9 hcm9 hb9 hO9 He
      go_wp2_with fail
      refine Calls.mono Hs.out ?_
      rintro e w10 ⟨rfl, j10, rfl⟩
      go_wp2_with fail
      go_ret
      exact ⟨rfl, Below.dN Hb9.out j10⟩

end Go.Proofs.Ytcajhndhjlfmaaa

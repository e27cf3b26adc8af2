/-
  The walk of ProofChecks.
-/
import Derived.Test.YtnhfbggaiecalaaTagged
import Derived.Test.YtnhfbggaiecalaaPCheck
import Derived.Test.YtnhfbggaiecalaaGen
import Derived.Test.YtnhfbggaiecalaaRowsArg
import Derived.Deep.Slices
import Derived.Deep.Fields
import Derived.ChangeSame
import Derived.OpenShut
import Derived.Test.YtnhfbggaiecalaaPRCheck
import Derived.Test.YtnhfbggaiecalaaSame
namespace Go.Proofs.Ytnhfbggaiecalaa
open Go.RowKit
set_option linter.unusedVariables false

def greatP (rs : List (List UInt8)) : Bool := decide (70 < rs.length) || rs.any fun r => decide (2000 < r.length)
theorem greatP_no {rs : List (List UInt8)} (h : greatP rs = false) : rs.length ≤ 70 ∧ ∀ r ∈ rs, r.length ≤ 2000 := by
  unfold greatP at h
  simp only [Bool.or_eq_false_iff, decide_eq_false_iff_not, List.any_eq_false, decide_eq_true_eq] at h
  exact ⟨by omega, fun r hr => by have := h.2 r hr; omega⟩
theorem greatP_many {rs : List (List UInt8)} (h : 70 < rs.length) : greatP rs = true := by unfold greatP; rw [decide_eq_true h, Bool.true_or]
theorem greatP_long {rs : List (List UInt8)} {k : Nat} (hk : k < rs.length) (h : 2000 < (rs.getD k []).length) : greatP rs = true := by
  unfold greatP
  rw [Bool.or_eq_true]
  refine .inr (List.any_eq_true.2 ⟨rs.getD k [], by simp [List.getD, hk], decide_eq_true h⟩)
theorem greatP_none {rs : List (List UInt8)} (h : rs.length ≤ 70) (hr : ∀ k, k < rs.length → (rs.getD k []).length ≤ 2000) : greatP rs = false := by
  unfold greatP
  rw [Bool.or_eq_false_iff]
  refine ⟨decide_eq_false (by omega), List.any_eq_false.2 fun r hm => ?_⟩
  obtain ⟨k, hk, rfl⟩ := List.getElem_of_mem hm
  have := hr k hk
  simp [List.getD, hk] at this
  simp
  omega

set_option maxHeartbeats 4000000 in
theorem greatP_any (B : Nat) (rs : List (List UInt8)) (A : Option Addr) (n c : Nat) (w : World) (hn : rs.length = n) (hc : n ≤ c) (hm : c ≤ 9223372036854775807) (hrs : RowsAt w B A rs) :
    Calls Try.prog 6 #[.slice A n c] w fun e w' => e = .returned (.bool (greatP rs)) ∧ w' = w := by
  by_cases h70 : 70 < n
  · have hd : decide ((70 : Int) < (n : Int)) = true := by simp; omega
    have hg := Lib.hid (greatP_many (rs := rs) (by omega))
    have Hn := Lib.hid hn
    clear hn
    go_enter Try.func6, Try.ntmps6
    go_wp2
    go_ret
    exact ⟨by rw [hg.out]; rfl, rfl⟩
  · have hd : decide ((70 : Int) < (n : Int)) = false := by simp; omega
    have Hn := Lib.hid hn
    clear hn
    go_enter Try.func6, Try.ntmps6
    go_wp2
    go_loop [10] (fun i => ∃ k : Nat, k ≤ n ∧ i = .int .i64 k ∧ Hid (∀ j, j < k → (rs.getD j []).length ≤ 2000)) (fun i => n - (intOf i).toNat)
    case atStart => exact ⟨0, Nat.zero_le _, rfl, fun j hj => by omega⟩
    case round =>
      obtain ⟨k, hk, rfl, Hr⟩ := hrel
      by_cases hlt : k < n
      · have hkr : k < rs.length := by rw [Hn.out]; exact hlt
        obtain ⟨blk, off, rfl, hblk, hrow⟩ := hrs (by omega)
        obtain ⟨A', c', hcell, hlc, hcm, hbs⟩ := hrow k hkr
        obtain ⟨l, hl⟩ : ∃ l, (rs.getD k []).length = l := ⟨_, rfl⟩
        rw [hl] at hcell hlc
        have Hl := Lib.hid hl
        clear hl hrow hbs
        by_cases hlong : 2000 < l
        · have hd2 : decide ((2000 : Int) < (l : Int)) = true := by simp; omega
          have hg := Lib.hid (greatP_long hkr (by rw [Hl.out]; exact hlong))
          go_wp2
          go_ret
          exact ⟨by rw [hg.out]; rfl, rfl⟩
        · have hd2 : decide ((2000 : Int) < (l : Int)) = false := by simp; omega
          have Hr' := Lib.hid (show ∀ j, j < k + 1 → (rs.getD j []).length ≤ 2000 from fun j hj => by
            by_cases e : j = k
            · subst e; rw [Hl.out]; omega
            · exact Hr.out j (by omega))
          go_wp2
          go_round
          case rel => exact ⟨k + 1, by omega, by go_num, Hr'.out⟩
          case measure => simp [intOf]; omega
      · have hg := Lib.hid (greatP_none (rs := rs) (by rw [Hn.out]; omega) (fun j hj => Hr.out j (by rw [Hn.out] at hj; omega)))
        go_wp2
        go_ret
        exact ⟨by rw [hg.out]; rfl, rfl⟩

end Go.Proofs.Ytnhfbggaiecalaa

namespace Go.Proofs.Ytnhfbggaiecalaa
open Go.RowKit
set_option linter.unusedVariables false
set_option linter.unusedSimpArgs false

theorem none_ne : zeros ≠ shaF (tagF 5 []) := by decide +kernel
def oneD : List UInt8 := 1 :: List.replicate 31 0
theorem oneBuilt : Try.prog.built 23 [(0, .int .u8 1)] = some (Lib.byteCells oneD).toArray := by kernel_rfl
theorem zeroBuilt : Try.prog.built 23 [] = some (Lib.byteCells zeros).toArray := by kernel_rfl
theorem chk_none : chkF (shaF (tagF 5 [])) oneD [] 0 = some none := by unfold chkF; rw [if_pos ⟨rfl, rfl⟩]
theorem chk_zero : chkF zeros oneD [] 0 = none := by unfold chkF; rw [if_neg (fun h => none_ne h.2)]

set_option maxHeartbeats 8000000 in
set_option maxRecDepth 100000 in
theorem pspeaks_true (w : World) :
    Calls Try.prog 5 #[] w fun e w' => e = .returned (.bool true) ∧ Below w.heap.size w w' := by
  obtain ⟨SL, hSL⟩ : ∃ SL, SL = Lib.byteCells (shaF (tagF 5 [])) := ⟨_, rfl⟩
  obtain ⟨OL, hOL⟩ : ∃ OL, OL = Lib.byteCells oneD := ⟨_, rfl⟩
  obtain ⟨ZL, hZL⟩ : ∃ ZL, ZL = Lib.byteCells zeros := ⟨_, rfl⟩
  have HOb := Lib.hid (show Try.prog.built 23 [(0, .int .u8 1)] = some OL.toArray by rw [hOL]; exact oneBuilt)
  have HZb := Lib.hid (show Try.prog.built 23 [] = some ZL.toArray by rw [hZL]; exact zeroBuilt)
  have HSL := Lib.hid hSL
  have HOL := Lib.hid hOL
  have HZL := Lib.hid hZL
  clear hSL hOL hZL
  go_enter Try.func5, Try.ntmps5
  go_wp2_with fail
  refine Calls.mono (rtag_at 5 5 [] SL none 0 0 w rfl HSL.out rfl (by omega) (fun h => absurd h (by simp)) (by decide)) ?_
  rintro e w1 ⟨rfl, hb1⟩
  dsimp only
  go_wp2_with (refine wpList_builtP rfl _ _ rfl [(0, .int .u8 1)] rfl OL.toArray HOb.out ?_)
  refine Calls.mono (check_none (shaF (tagF 5 [])) oneD (shaF_length _) SL OL HSL.out none 0 w1) ?_
  rintro e w2 ⟨V, rfl, hsh, hb2⟩
  rw [chk_none] at hsh
  obtain rfl : V = .tuple #[.slice none 0 0, .bool false, .int .i64 0] := hsh
  dsimp only
  go_wp2_with (first
    | (refine wpList_builtP rfl _ _ rfl [] rfl ZL.toArray HZb.out ?_)
    | (refine wpList_builtP rfl _ _ rfl [(0, .int .u8 1)] rfl OL.toArray HOb.out ?_))
  refine Calls.mono (check_none zeros oneD (by simp [zeros]) ZL OL HZL.out none 0 w2) ?_
  rintro e w3 ⟨V, rfl, hsh3, hb3⟩
  rw [chk_zero] at hsh3
  obtain rfl : V = .tuple #[.slice none 0 0, .bool false, .int .i64 3] := hsh3
  dsimp only
  go_wp2_with fail
  go_ret
  exact ⟨rfl, (hb1.trans (hb2.mono hb1.size)).trans (hb3.mono (Nat.le_trans hb1.size hb2.size))⟩

end Go.Proofs.Ytnhfbggaiecalaa

namespace Go.Proofs.Ytnhfbggaiecalaa
open Go.RowKit Go.ChangeShapes Go.WideShapes
set_option linter.unusedVariables false

set_option maxRecDepth 100000 in
theorem arr_open {H : Type} {enc : TypeId × Value → H} {W : World} {r : Reach} {b0 base : Nat} {sp : Nat → Bool} {held : Bool} {T : TypeId} {n : Nat} {v : Value} {d : DataW H} {p : List MemPlace} (hT : Try.prog.underlying T = some (.array n 5)) (hC : Try.prog.cellsOf T = n)
    (hv : Value.okWide Try.prog W r b0 T v) (h : DataW.Trod enc Try.prog W base sp held T v d p) : ∃ l : List UInt8, l.length = n ∧ v = digV l := by
  obtain ⟨cs, rfl, hsz, _⟩ : ∃ cs, v = .agg cs ∧ cs.size = Try.prog.cellsOf T ∧ Row.okWide Try.prog W r b0 T cs := by
    simpa [Value.okWide, hT] using hv
  obtain ⟨fuel, hf⟩ := h
  obtain ⟨xs, m, _, _, hlen, hn, hel⟩ := DataW.trod_array hT hf
  obtain ⟨l⟩ := cs
  rw [hC] at hsz
  have hl : l.length = n := hsz
  have hc1 : Try.prog.cellsOf 5 = 1 := by kernel_rfl
  have hall : ∀ i, i < n → ∃ b : UInt8, l[i]? = some (.int .u8 (b.toNat : Nat)) := by
    intro i hi
    have h1 := hel i hi
    rw [hc1, Nat.mul_one] at h1
    have hx : xs[i]? = some (xs[i]'(by omega)) := List.getElem?_eq_getElem (by omega)
    rw [hx] at h1
    have hcs : (Value.agg l.toArray).cells.toList = l := by simp [Value.cells]
    have hd : ((l.drop i).take 1) = [l[i]'(by omega)] := by rw [List.drop_eq_getElem_cons (by omega)]; rfl
    have h2 : DataW.trod enc Try.prog W base sp held m 5 [l[i]'(by omega)] = some (xs[i]'(by omega)) := by
      rw [← hd]
      simpa [Value.cells] using h1
    obtain ⟨k, e, _, hw⟩ := DataW.trod_int Try.underlying5 h2
    have hb := bounds_u8 hw
    simp only [List.cons.injEq, and_true] at e
    refine ⟨k.toNat.toUInt8, ?_⟩
    rw [List.getElem?_eq_getElem (by omega), e, Lib.toUInt8_toNat (by omega), Int.toNat_of_nonneg hb.1]
  have hch : ∃ f : Nat → UInt8, ∀ i, i < n → l[i]? = some (.int .u8 ((f i).toNat : Nat)) := by
    classical
    refine ⟨fun i => if hi : i < n then Classical.choose (hall i hi) else 0, fun i hi => ?_⟩
    simp only [dif_pos hi]
    exact Classical.choose_spec (hall i hi)
  obtain ⟨f, hf2⟩ := hch
  refine ⟨(List.range n).map f, by simp, ?_⟩
  unfold digV
  congr 2
  apply List.ext_getElem?
  intro i
  by_cases hi : i < n
  · rw [hf2 i hi]
    simp [Lib.byteCells, hi]
  · rw [List.getElem?_eq_none (by omega), List.getElem?_eq_none (by simp [Lib.byteCells]; omega)]

end Go.Proofs.Ytnhfbggaiecalaa

namespace Go.Proofs.Ytnhfbggaiecalaa
open Go.RowKit
set_option linter.unusedVariables false
set_option linter.unusedSimpArgs false

theorem rfollows_all (key : List UInt8) (hk : key.length = 32) : ∀ (rs : List (List UInt8)), (∀ r ∈ rs, r.length ≤ 2000) → rs.length ≤ 71 → RFollowsP key rs
  | [], _, _ => rcheck_nil key hk
  | b :: rs, h, hl => rcheck_cons key b hk rs (h b (by simp)) (by simp at hl; omega) (rfollows_all key hk rs (fun r hr => h r (by simp [hr])) (by simp at hl; omega))

/-- What is shown, taken apart. -/
theorem ShownP.parts {w' : World} {r : Option (Option (List UInt8))} {V : Value} (h : ShownP w' r V) :
    ∃ (A : Option Addr) (c : Nat), V = .tuple #[.slice A ((r.getD none).getD []).length c, .bool (r.getD none).isSome, .int .i64 (if r = none then 3 else 0)] ∧ ((r.getD none).getD []).length ≤ maxLen ∧ Bs w' w'.heap.size A ((r.getD none).getD []) := by
  unfold ShownP at h
  split at h
  · exact ⟨none, 0, by rw [h]; rfl, by simp [maxLen], Bs.nil _ _ _⟩
  · exact ⟨none, 0, by rw [h]; simp, by simp [maxLen], Bs.nil _ _ _⟩
  · obtain ⟨A, c, h1, h2, h3, h4⟩ := h
    exact ⟨A, c, by rw [h1]; simp, by simp; omega, h4⟩

set_option maxHeartbeats 8000000 in
set_option maxRecDepth 100000 in
theorem pchecks_great (WL KL : List Value) (rs : List (List UInt8)) (A : Option Addr) (n c : Nat) (w : World) (hn : rs.length = n) (hc : n ≤ c) (hm : c ≤ maxLen) (hrows : RowsAt w w.heap.size A rs) (hg : greatP rs = true) :
    Calls Try.prog 3 #[.agg WL.toArray, .agg KL.toArray, .slice A n c] w fun e w' => e = .returned (.bool true) ∧ Below w.heap.size w w' := by
  obtain ⟨W2, hW2⟩ : ∃ W2, W2 = (w.alloc (.cells WL.toArray 23)).alloc (.cells KL.toArray 23) := ⟨_, rfl⟩
  have hb2 : Below w.heap.size w W2 := by rw [hW2]; exact ((Below.refl _ w).alloc (Nat.le_refl _) _).alloc (by simp) _
  have HW2 := Lib.hid hW2
  have Hg := Lib.hid hg
  have Hn := Lib.hid hn
  have Hrows := Lib.hid hrows
  unfold maxLen at hm
  clear hW2 hg hn hrows
  go_enter Try.func3, Try.ntmps3
  go_upto_region 1 with fail
  change Code.wp _ _ _ _ ((w.alloc (.cells WL.toArray 23)).alloc (.cells KL.toArray 23))
  rw [← HW2.out]
  clear HW2
  go_wp2_with fail
  refine Calls.mono (pspeaks_true W2) ?_
  rintro e w3 ⟨rfl, hb23⟩
  have hb3 := hb2.trans (hb23.mono hb2.size)
  dsimp only
  go_wp2_with fail
  refine Calls.mono (greatP_any w.heap.size rs A n c w3 Hn.out hc (by omega) (Hrows.out.below hb3 (Nat.le_refl _))) ?_
  rintro e w4 ⟨rfl, rfl⟩
  rw [Hg.out]
  dsimp only
  go_wp2_with fail
  go_ret
  exact ⟨rfl, hb3⟩

set_option maxHeartbeats 8000000 in
set_option maxRecDepth 100000 in
theorem pchecks_in (root key : List UInt8) (hr : root.length = 32) (hk : key.length = 32) (WL KL : List Value) (hWL : WL = Lib.byteCells root) (hKL : KL = Lib.byteCells key) (rs : List (List UInt8)) (A : Option Addr) (n c : Nat) (w : World) (hn : rs.length = n) (hc : n ≤ c) (hm : c ≤ maxLen) (hrows : RowsAt w w.heap.size A rs) (hg : greatP rs = false) :
    Calls Try.prog 3 #[.agg WL.toArray, .agg KL.toArray, .slice A n c] w fun e w' => e = .returned (.bool true) ∧ Below w.heap.size w w' := by
  obtain ⟨h70, h2000⟩ := greatP_no hg
  have Hrf := Lib.hid (rfollows_all key hk rs h2000 (by omega))
  have Hck := Lib.hid (fun A c w hc hm hrows => check_run root key hr hk WL KL hWL hKL rs A n c w hn hc hm hrows h2000 (by omega))
  obtain ⟨res, hres⟩ : ∃ res, chkF root key rs 0 = res := ⟨_, rfl⟩
  obtain ⟨v, hv⟩ : ∃ v, (res.getD none).getD [] = v := ⟨_, rfl⟩
  obtain ⟨bt, hbt⟩ : ∃ bt, (res.getD none).isSome = bt := ⟨_, rfl⟩
  obtain ⟨cd, hcd⟩ : ∃ cd : Int, (if res = none then 3 else 0) = cd := ⟨_, rfl⟩
  obtain ⟨vl, hvl⟩ : ∃ vl, v.length = vl := ⟨_, rfl⟩
  have Hparts : Hid (∀ (w' : World) V, ShownP w' (chkF root key rs 0) V → ∃ (A : Option Addr) (c : Nat), V = .tuple #[.slice A vl c, .bool bt, .int .i64 cd] ∧ vl ≤ maxLen ∧ Bs w' w'.heap.size A v) := fun w' V h => by
    have := h.parts
    rw [hres, hv, hbt, hcd, hvl] at this
    exact this
  have Hvl := Lib.hid hvl
  have hcd3 : cd = 3 ∨ cd = 0 := by rw [← hcd]; split; exact .inl rfl; exact .inr rfl
  have hceq : ((cd : Int) == cd) = true := by simp
  have Hcd3 := Lib.hid hcd3
  obtain ⟨W1, hW1⟩ : ∃ W1, W1 = w.alloc (.cells WL.toArray 23) := ⟨_, rfl⟩
  obtain ⟨W2, hW2⟩ : ∃ W2, W2 = W1.alloc (.cells KL.toArray 23) := ⟨_, rfl⟩
  have hR1 : Arr W1 w.heap.size 23 WL := by rw [hW1]; exact Arr.new w _ _
  have hb1 : Below w.heap.size w W1 := by rw [hW1]; exact (Below.refl _ w).alloc (Nat.le_refl _) _
  have hz1 : W1.heap.size = w.heap.size + 1 := by rw [hW1]; simp
  have hR2 : Arr W2 w.heap.size 23 WL := by rw [hW2]; exact hR1.alloc _
  obtain ⟨g5, hg5⟩ : ∃ g, g = w.heap.size + 1 := ⟨_, rfl⟩
  have hK2 : Arr W2 g5 23 KL := by rw [hW2, hg5, ← hz1]; exact Arr.new W1 _ _
  have hb2 : Below w.heap.size w W2 := by rw [hW2]; exact hb1.alloc hb1.size _
  have HWi := Lib.hid (show (Try.prog.info? 23).map (·.size) = some WL.length by rw [hWL, Lib.byteCells_length, hr]; kernel_rfl)
  have HKi := Lib.hid (show (Try.prog.info? 23).map (·.size) = some KL.length by rw [hKL, Lib.byteCells_length, hk]; kernel_rfl)
  have HW1 := Lib.hid hW1
  have HW2 := Lib.hid hW2
  have Hg5 := Lib.hid hg5
  have Hg := Lib.hid hg
  have Hn := Lib.hid hn
  have Hrows := Lib.hid hrows
  have HWL := Lib.hid hWL
  have HKL := Lib.hid hKL
  have hm63 : c ≤ 9223372036854775807 := by unfold maxLen at hm; exact hm
  clear hW1 hW2 hg5 hz1 hR1 hb1 hg hn hrows hWL hKL hres hv hbt hcd hvl hcd3
  go_enter Try.func3, Try.ntmps3
  go_upto_region 1 with fail
  change Code.wp _ _ _ _ ((w.alloc (.cells WL.toArray 23)).alloc (.cells KL.toArray 23))
  rw [← HW1.out, ← HW2.out, ← Hg5.out]
  clear HW1 HW2 Hg5
  go_wp2_with fail
  refine Calls.mono (pspeaks_true W2) ?_
  rintro e w3 ⟨rfl, hb23⟩
  have hR3 := hR2.below hb23 hR2.lt
  have hK3 := hK2.below hb23 hK2.lt
  have hb3 := hb2.trans (hb23.mono hb2.size)
  clear hR2 hK2 hb2 hb23
  dsimp only
  go_wp2_with fail
  refine Calls.mono (greatP_any w.heap.size rs A n c w3 Hn.out hc hm63 (Hrows.out.below hb3 (Nat.le_refl _))) ?_
  rintro e w4 ⟨rfl, rfl⟩
  rw [Hg.out]
  dsimp only
  have hri := hR3.range
  have hki := hK3.range
  go_wp2_with (first
    | (refine wpList_load_mid rfl _ _ rfl w.heap.size 0 rfl WL _ hri Try.underlying23 rfl HWi.out ?_)
    | (refine wpList_load_mid rfl _ _ rfl g5 0 rfl KL _ hki Try.underlying23 rfl HKi.out ?_))
  go_at_call 7
  refine Calls.mono (Hck.out A c _ hc hm ((Hrows.out.below hb3 (Nat.le_refl _)).more hb3.size)) ?_
  rintro e w5 ⟨V, rfl, hsh, hb45⟩
  obtain ⟨Av, cv, rfl, hvm, hvb⟩ := Hparts.out _ _ hsh
  have hR5 := hR3.below hb45 hR3.lt
  have hK5 := hK3.below hb45 hK3.lt
  have hb5 := hb3.trans (hb45.mono hb3.size)
  clear hR3 hK3 hb3 hb45 hsh hri hki
  dsimp only
  have hri := hR5.range
  have hki := hK5.range
  go_wp2_with (first
    | (refine wpList_load_mid rfl _ _ rfl w.heap.size 0 rfl WL _ hri Try.underlying23 rfl HWi.out ?_)
    | (refine wpList_load_mid rfl _ _ rfl g5 0 rfl KL _ hki Try.underlying23 rfl HKi.out ?_))
  go_at_call 8
  refine Calls.mono (Hrf.out 0 root WL KL A n c _ hr HWL.out HKL.out (by omega) Hn.out hc hm ((Hrows.out.below hb5 (Nat.le_refl _)).more hb5.size)) ?_
  rintro e w6 ⟨V, rfl, hsh, hb56⟩
  obtain ⟨Aw, cw, rfl, hwm, hwb⟩ := Hparts.out _ _ hsh
  have hvb6 : Bs w6 w5.heap.size Av v := hvb.below hb56 (Nat.le_refl _)
  have hb6 := hb5.trans (hb56.mono hb5.size)
  clear hR5 hK5 hb5 hb56 hsh hri hki hvb
  dsimp only
  go_wp2_with fail
  go_at_call 9
  refine Calls.mono (same_n w5.heap.size w6.heap.size Av Aw cv cw vl vl v v w6 true hvb6 hwb Hvl.out Hvl.out hvm hwm (by simp)) ?_
  rintro e w7 ⟨rfl, k, rfl⟩
  dsimp only
  go_wp2_with fail
  go_ret
  exact ⟨rfl, Below.dN hb6 k⟩

theorem proofChecks_walk (l0 l1 : List UInt8) (A : Option Addr) (n c : Nat) (rs : List (List UInt8)) (hn : rs.length = n) (hc : n ≤ c) (hm : c ≤ maxLen) (w : World) (hl0 : l0.length = 32) (hl1 : l1.length = 32) (hrows : RowsAt w w.heap.size A rs) :
    Calls Try.prog 3 #[.agg (Lib.byteCells l0).toArray, .agg (Lib.byteCells l1).toArray, .slice A n c] w fun e w' => e = .returned (.bool true) ∧ Below w.heap.size w w' := by
  cases hg : greatP rs with
  | true => exact pchecks_great _ _ rs A n c w hn hc hm hrows hg
  | false => exact pchecks_in l0 l1 hl0 hl1 _ _ rfl rfl rs A n c w hn hc hm hrows hg

end Go.Proofs.Ytnhfbggaiecalaa

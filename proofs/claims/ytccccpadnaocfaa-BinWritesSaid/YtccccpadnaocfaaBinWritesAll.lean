/-
  The walk of BinWrites.
-/
import Derived.Test.YtccccpadnaocfaaTagged
import Derived.Maps.AppendAt
import Derived.Test.YtccccpadnaocfaaBinFinger
import Derived.Test.YtccccpadnaocfaaRTagged
import Derived.Test.YtccccpadnaocfaaBinRoot
import Derived.Test.YtccccpadnaocfaaRRoot
import Derived.Test.YtccccpadnaocfaaBinMath
import Derived.Deep.Slices
import Derived.Deep.Fields
import Derived.Test.YtccccpadnaocfaaBinRead
import Derived.Test.YtccccpadnaocfaaBinStand
import Derived.Test.YtccccpadnaocfaaBinWrite
import Derived.Test.YtccccpadnaocfaaBinAll
import Derived.Test.YtccccpadnaocfaaDiskNew
import Derived.Test.YtccccpadnaocfaaDiskLaws
namespace Go.Proofs.Ytccccpadnaocfaa
open Go.RowKit
set_option linter.unusedVariables false
set_option linter.unusedSimpArgs false

theorem rowAllI : (Try.prog.info? 49).map (fun i => (i.zero, i.size, i.bytes)) = some (some (.slice none 0 0), 1, 24) := by kernel_rfl
/-- A row of rows of bytes of the call's own. -/
def NRow (w : World) (B : Nat) (v : Value) (rs : List (List UInt8)) : Prop :=
  ∃ cs : List Value, w.ownsRow B 49 1 v rs.length cs ∧ ∀ (i : Nat) (r : List UInt8), rs[i]? = some r → ∃ (A : Option Addr) (c : Nat), cs[i]? = some (.slice A r.length c) ∧ r.length ≤ c ∧ c ≤ maxLen ∧ Bs w w.heap.size A r ∧ ∀ a : Addr, A = some a → 0 < r.length → v.ownBlock ≠ some a.block
theorem NRow.lt {w : World} {B : Nat} {v : Value} {rs : List (List UInt8)} (h : NRow w B v rs) : ∀ k, v.ownBlock = some k → B ≤ k ∧ k < w.heap.size := by
  obtain ⟨cs, h1, _⟩ := h
  exact World.ownsRow.lt h1
theorem NRow.up {w w' : World} {B : Nat} {v : Value} {rs : List (List UInt8)} (h : NRow w B v rs) (hb : Below w.heap.size w w') : NRow w' B v rs := by
  obtain ⟨cs, h1, h2⟩ := h
  refine ⟨cs, ⟨h1.1, ?_⟩, fun i r hr => ?_⟩
  · rcases h1.2 with hn | ⟨g, cap, cur, rfl, e1, hg, rest⟩
    · exact .inl hn
    · exact .inr ⟨g, cap, cur, rfl, e1, (hb.block g (Array.getElem?_eq_some_iff.1 hg).1).trans hg, rest⟩
  · obtain ⟨A, c, k1, k2, k3, k4, k5⟩ := h2 i r hr
    exact ⟨A, c, k1, k2, k3, (k4.below hb (Nat.le_refl _)).more hb.size, k5⟩
theorem NRow.base {w : World} {B B' : Nat} {v : Value} {rs : List (List UInt8)} (h : NRow w B v rs) (hB : B' ≤ B) : NRow w B' v rs := by
  obtain ⟨cs, h1, h2⟩ := h
  refine ⟨cs, ⟨h1.1, ?_⟩, h2⟩
  rcases h1.2 with hn | ⟨g, cap, cur, rfl, e1, rest⟩
  · exact .inl hn
  · exact .inr ⟨g, cap, cur, rfl, Nat.le_trans hB e1, rest⟩
theorem NRow.empty (w : World) (B : Nat) (hB : B ≤ w.heap.size) : NRow (w.alloc (.cells #[] 49)) B (.slice (some ⟨w.heap.size, 0, none⟩) 0 0) [] :=
  ⟨[], ⟨rfl, .inr ⟨w.heap.size, 0, #[], rfl, hB, heap_alloc_new w _, Nat.le_refl _, by unfold maxLen; omega, rfl, rfl⟩⟩, fun i r h => by simp at h⟩
theorem NRow.snoc {w w' : World} {B : Nat} {v v' : Value} {rs : List (List UInt8)} {cs : List Value} {Y : List UInt8} {A : Option Addr} {n c : Nat} (h1 : w'.ownsRow B 49 1 v' (rs.length + 1) (cs ++ [.slice A n c])) (hl : cs.length = rs.length * 1)
    (h2 : ∀ (i : Nat) (r : List UInt8), rs[i]? = some r → ∃ (A : Option Addr) (c : Nat), cs[i]? = some (.slice A r.length c) ∧ r.length ≤ c ∧ c ≤ maxLen ∧ Bs w w.heap.size A r ∧ ∀ a : Addr, A = some a → 0 < r.length → v.ownBlock ≠ some a.block)
    (hg : w.grownBy w' v.ownBlock) (hp : v'.ownBlock = v.ownBlock ∨ v'.ownBlock = some w.heap.size) (hn : Y.length = n) (hc : n ≤ c) (hm : c ≤ maxLen) (hb : Bs w w.heap.size A Y) (ha : ∀ a : Addr, A = some a → 0 < Y.length → v.ownBlock ≠ some a.block) : NRow w' B v' (rs ++ [Y]) := by
  have keep : ∀ (A : Option Addr) (r : List UInt8), Bs w w.heap.size A r → (∀ a : Addr, A = some a → 0 < r.length → v.ownBlock ≠ some a.block) → Bs w' w'.heap.size A r ∧ ∀ a : Addr, A = some a → 0 < r.length → v'.ownBlock ≠ some a.block := by
    intro A r hb ha
    refine ⟨fun hp0 => ?_, fun a e h0 => ?_⟩
    · obtain ⟨b, off, e, hlt, hcell⟩ := hb hp0
      refine ⟨b, off, e, Nat.lt_of_lt_of_le hlt hg.size, fun j hj => ?_⟩
      rw [← hcell j hj]
      exact World.cell?_of_block (hg.block b hlt (fun e2 => ha _ e hp0 e2.symm))
    · rcases hp with hp | hp
      · rw [hp]; exact ha a e h0
      · rw [hp]
        obtain ⟨b, off, e2, hlt, _⟩ := hb h0
        rw [e] at e2
        injection e2 with e2
        subst e2
        intro e3
        injection e3 with e3
        simp only at e3
        omega
  subst hn
  refine ⟨cs ++ [.slice A Y.length c], by rw [List.length_append]; exact h1, fun i r hr => ?_⟩
  by_cases hi : i < rs.length
  · rw [List.getElem?_append_left hi] at hr
    obtain ⟨A', c', k1, k2, k3, k4, k5⟩ := h2 i r hr
    obtain ⟨q1, q2⟩ := keep A' r k4 k5
    exact ⟨A', c', by rw [List.getElem?_append_left (List.getElem?_eq_some_iff.1 k1).1]; exact k1, k2, k3, q1, q2⟩
  · have hlt := (List.getElem?_eq_some_iff.1 hr).1
    simp at hlt
    have hi2 : i = rs.length := by omega
    subst hi2
    rw [List.getElem?_append_right (Nat.le_refl _)] at hr
    simp at hr
    subst hr
    obtain ⟨q1, q2⟩ := keep A Y hb ha
    exact ⟨A, c, by rw [List.getElem?_append_right (by omega)]; simp [hl], hc, hm, q1, q2⟩
theorem NRow.rows {w : World} {B : Nat} {v : Value} {rs : List (List UInt8)} (h : NRow w B v rs) : ∃ A c, v = .slice A rs.length c ∧ rs.length ≤ c ∧ c ≤ maxLen ∧ RowsAt w w.heap.size A rs := by
  obtain ⟨cs, h1, h2⟩ := h
  rcases h1.2 with ⟨rfl, hn⟩ | ⟨g, cap, cur, rfl, e1, hg, e2, e3, e4, e5⟩
  · exact ⟨none, 0, by rw [hn], by omega, by unfold maxLen; omega, fun hp => by omega⟩
  · refine ⟨_, cap, rfl, e2, e3, fun hp => ⟨g, 0, rfl, (Array.getElem?_eq_some_iff.1 hg).1, fun i hi => ?_⟩⟩
    obtain ⟨A, c, k1, k2, k3, k4, _⟩ := h2 i (rs[i]'hi) (List.getElem?_eq_getElem hi)
    have hgd : rs.getD i [] = rs[i] := by simp [List.getD, hi]
    rw [hgd]
    refine ⟨A, c, ?_, k2, k3, k4⟩
    rw [← e5] at k1
    have hlt := (List.getElem?_eq_some_iff.1 k1).1
    rw [List.length_take] at hlt
    rw [List.getElem?_take_of_lt (by omega)] at k1
    rw [cell_of_row w g _ cur 49 (0, 0) hg, Nat.zero_add]
    simpa using k1

end Go.Proofs.Ytccccpadnaocfaa

namespace Go.Proofs.Ytccccpadnaocfaa
open Go.RowKit
set_option linter.unusedVariables false
set_option linter.unusedSimpArgs false

theorem rtagd_atN (use : UInt8) (u : Int) (rs : List (List UInt8)) (SL : List Value) (A : Option Addr) (n c : Nat) (w : World) (hu : ((use.toNat : Nat) : Int) = u) (hS : SL = Lib.byteCells (shaF (tagF use rs))) (hn : rs.length = n) (hn2 : n ≤ 1000000) (hr : RowsAt w w.heap.size A rs) (hlim : (tagF use rs).length ≤ 1000000) :
    Calls Try.prog 33 #[.int .u8 u, .slice A n c] w fun e w' => e = .returned (.agg SL.toArray) ∧ Below w.heap.size w w' := by
  subst hS hu; exact rtagged_any use rs A n c w hn hn2 hr hlim

set_option maxHeartbeats 8000000 in
set_option maxRecDepth 100000 in
theorem rfinger_at (b : List UInt8) (hb : b.length = 48) (BL SL : List Value) (hBL : BL = Lib.byteCells b) (hSL : SL = Lib.byteCells (fingF b)) (w : World) :
    Calls Try.prog 12 #[.agg BL.toArray] w fun e w' => e = .returned (.agg SL.toArray) ∧ Below w.heap.size w w' := by
  obtain ⟨W, hW⟩ : ∃ W, W = (w.alloc (.cells BL.toArray 40)).alloc (.cells (Lib.byteCells zeros).toArray 29) := ⟨_, rfl⟩
  have hX : Arr W w.heap.size 40 (Lib.byteCells b) := by rw [hW, ← hBL]; exact (Arr.new w _ BL).alloc _
  have hR : Arr W (w.heap.size + 1) 29 (Lib.byteCells zeros) := by
    have h1 := Arr.new (w.alloc (.cells BL.toArray 40)) 29 (Lib.byteCells zeros)
    rw [show (w.alloc (.cells BL.toArray 40)).heap.size = w.heap.size + 1 from by simp] at h1
    rw [hW]; exact h1
  have hWs : W.heap.size = w.heap.size + 2 := by rw [hW]; simp
  have hB : Below w.heap.size w W := by rw [hW]; exact ((Below.refl _ w).alloc (Nat.le_refl _) _).alloc (by simp) _
  obtain ⟨g, hg⟩ : ∃ g, g = w.heap.size + 1 := ⟨_, rfl⟩
  have hgw : w.heap.size ≤ g := by omega
  obtain ⟨V, hV⟩ : ∃ V, V = W.alloc (.cells #[.slice (some ⟨w.heap.size, 0, none⟩) 48 48] 49) := ⟨_, rfl⟩
  have hbV : Below W.heap.size W V := by rw [hV]; exact (Below.refl _ W).alloc (Nat.le_refl _) _
  have hrow : RowsAt V V.heap.size (some ⟨W.heap.size, 0, none⟩) [b] := by
    have h1 := rows_oneN (w := W) 49 hb (Nat.le_refl 48) (by unfold maxLen; omega) hX.bs (Nat.le_refl _)
    rw [hV]; exact h1.more (Nat.le_of_eq (by simp))
  have hbl : BL.length = 48 := by rw [hBL, Lib.byteCells_length, hb]
  have hsl : SL.length = 32 := by rw [hSL, Lib.byteCells_length, fingF_length]
  have hi32 : (Try.prog.info? 29).map (·.size) = some SL.length := by rw [hsl]; exact digInfo
  have HI := Lib.hid (show (Try.prog.info? 29).map (·.size) = some SL.toArray.size by rw [List.size_toArray]; exact hi32)
  have HS := Lib.hid (show (Lib.byteCells zeros).toArray.size = SL.toArray.size by rw [List.size_toArray, List.size_toArray, hsl]; rfl)
  have H1 := Lib.hid (show SL.toArray.all (·.oneCell') = true by rw [hSL]; exact dig_one _)
  have hlim := fing_lim hb
  rw [← hg] at hR
  have HW := Lib.hid hW
  have HV := Lib.hid hV
  have HSL := Lib.hid hSL
  have HWs := Lib.hid hWs
  have Hg := Lib.hid hg
  clear hW hV hSL hBL hWs hg hX
  go_enter Try.func12, Try.ntmps12
  go_wp2_with fail
  go_at_call 33
  change Calls _ _ #[_, .slice (some ⟨w.heap.size + 2, 0, none⟩) 1 1] (((w.alloc (.cells BL.toArray 40)).alloc (.cells (Lib.byteCells zeros).toArray 29)).alloc (.cells #[.slice (some ⟨w.heap.size, 0, none⟩) 48 48] 49)) _
  rw [← HWs.out, ← HW.out, ← HV.out]
  refine Calls.mono (rtagd_atN 6 6 [b] SL (some ⟨W.heap.size, 0, none⟩) 1 1 V rfl HSL.out rfl (by omega) hrow hlim) ?_
  rintro e w5 ⟨rfl, hb5⟩
  have hR5 : Arr w5 g 29 (Lib.byteCells zeros) := (hR.below hbV hR.lt).below hb5 (by have := hR.lt; have := hbV.size; omega)
  have h5 : Below w.heap.size w w5 := (hB.trans (hbV.mono hB.size)).trans (hb5.mono (Nat.le_trans hB.size hbV.size))
  have H0 : Hid (w5.heap[g]? = some (.cells (Lib.byteCells zeros).toArray 29 (0, 0))) := Lib.hid hR5
  have hfin : Below w.heap.size w (w5.setRow g SL.toArray) := h5.trans (((Only.refl (fun k => k = g) w5).setRow (.inl rfl) SL.toArray).below h5.size (by rintro k rfl; exact hgw))
  have hset : Arr (w5.setRow g SL.toArray) g 29 SL := hR5.setRow SL
  rw [← Hg.out]
  clear hR hB hbV hrow hlim hb5 hR5 h5 Hg
  go_wp2_with (first
    | (refine wpList_store_row rfl _ _ _ rfl g SL.toArray rfl rfl 29 (Lib.byteCells zeros).toArray H0.out HI.out HS.out H1.out ?_))
  exact bodyPost_ret (v := .agg SL.toArray) (results_cell_row (by rfl) _ _ g 29 SL.toArray (0, 0) _ (by rfl) hset Try.underlying29 rfl HI.out) rfl ⟨rfl, hfin⟩


end Go.Proofs.Ytccccpadnaocfaa

namespace Go.Proofs.Ytccccpadnaocfaa
open Go.RowKit
set_option linter.unusedVariables false
set_option linter.unusedSimpArgs false

theorem owns_emptyN (w : World) (B : Nat) (hB : B ≤ w.heap.size) : Owns (w.alloc (.cells #[] 5)) B 5 (.slice (some ⟨w.heap.size, 0, none⟩) 0 0) [] :=
  ⟨rfl, .inr ⟨w.heap.size, 0, #[], rfl, hB, heap_alloc_new w _, Nat.le_refl _, by unfold maxLen; omega, rfl, rfl⟩⟩
theorem byteInfoN : (Try.prog.info? 5).map (fun i => (i.zero, i.size, i.bytes)) = some (some (.int .u8 0), 1, 1) := by kernel_rfl

set_option maxHeartbeats 8000000 in
set_option maxRecDepth 100000 in
theorem r10root_at (bs : List (List UInt8)) (n c b off : Nat) (RL : List Value) (w : World) (hn : bs.length = n) (hn6 : n ≤ 65536) (hc : n ≤ c) (hcm : c ≤ 9223372036854775807) (h48 : ∀ s ∈ bs, s.length = 48) (hb : b < w.heap.size)
    (hr : ∀ i, i < n → w.rangeAt b (off + i * 48) (Lib.byteCells (bs.getD i []))) (hRL : RL = Lib.byteCells (rootF bs)) :
    Calls Try.prog 15 #[.slice (some ⟨b, off, none⟩) n c] w fun e w' => e = .returned (.agg RL.toArray) ∧ Below w.heap.size w w' := by
  obtain ⟨i0, hi, hi0, hi1, hi2⟩ := info_parts byteInfoN
  obtain ⟨j0, hj, hz0, hz1, hz2⟩ := info_parts rowAllI
  obtain ⟨W, hW⟩ : ∃ W, W = w.alloc (.cells (Lib.byteCells zeros).toArray 29) := ⟨_, rfl⟩
  have hR : Arr W w.heap.size 29 (Lib.byteCells zeros) := by rw [hW]; exact Arr.new w _ _
  have hB : Below w.heap.size w W := by rw [hW]; exact (Below.refl _ w).alloc (Nat.le_refl _) _
  obtain ⟨V, hV⟩ : ∃ V, V = W.alloc (.cells #[] 49) := ⟨_, rfl⟩
  have hG : NRow V W.heap.size (.slice (some ⟨W.heap.size, 0, none⟩) 0 0) (bs.take 0) := by rw [hV]; exact NRow.empty W _ (Nat.le_refl _)
  have hbV : Below W.heap.size W V := by rw [hV]; exact (Below.refl _ W).alloc (Nat.le_refl _) _
  obtain ⟨g, hg⟩ : ∃ g, g = W.heap.size := ⟨_, rfl⟩
  rw [← hg] at hG hbV
  have hwg : w.heap.size < g := by rw [hg]; exact hR.lt
  have hgW : g ≤ W.heap.size := by omega
  have hrl : RL.length = 32 := by rw [hRL, Lib.byteCells_length, rootF_length]
  have HI := Lib.hid (show (Try.prog.info? 29).map (·.size) = some RL.toArray.size by rw [List.size_toArray, hrl]; exact digInfo)
  have HS := Lib.hid (show (Lib.byteCells zeros).toArray.size = RL.toArray.size by rw [List.size_toArray, List.size_toArray, hrl]; rfl)
  have H1 := Lib.hid (show RL.toArray.all (·.oneCell') = true by rw [hRL]; exact dig_one _)
  have HRL := Lib.hid hRL
  have HW := Lib.hid hW
  have HV := Lib.hid hV
  have Hg := Lib.hid hg
  have Hn := Lib.hid hn
  clear hW hV hg hRL hn
  go_enter Try.func15, Try.ntmps15
  go_upto_region 1 with fail
  change Code.wp _ _ _ _ (w.alloc (.cells (Lib.byteCells zeros).toArray 29))
  rw [← HW.out]
  clear HW
  go_upto_region 2 with fail
  change Code.wp _ _ _ _ (W.alloc (.cells #[] 49))
  rw [← HV.out, ← Hg.out]
  clear HV Hg
  go_wp2_with fail
  go_loopw [3, 4] (fun v x wr => ∃ i : Nat, i ≤ n ∧ x = .int .i64 i ∧ NRow wr g v (bs.take i) ∧ Below g W wr) (fun _ x _ => n - (intOf x).toNat)
  case atStart => exact ⟨0, by omega, rfl, hG, hbV⟩
  case round =>
    clear hG
    obtain ⟨i, hle, rfl, hGi, hO⟩ := hrel
    obtain ⟨wq, hwq⟩ : ∃ x, x = wr := ⟨_, rfl⟩
    subst hwq
    have hbq : Below w.heap.size w wq := hB.trans (hO.mono (Nat.le_of_lt hwg))
    have hgq : g ≤ wq.heap.size := Nat.le_trans hgW hO.size
    by_cases hlt : i < n
    · have hd : decide ((i : Int) < (n : Int)) = true := by simp; exact hlt
      have hdn : decide (i < n) = true := by simp; exact hlt
      have hl48 : (bs.getD i []).length = 48 := h48 _ (by simp [List.getD, show i < bs.length by rw [Hn.out]; exact hlt])
      have hrq : Bs wq wq.heap.size (some ⟨b, off + i * 48, none⟩) (bs.getD i []) := rangeAt_bs (Nat.lt_of_lt_of_le hb hbq.size) (fun k v hv => (hbq.cell (p := ⟨b, _, none⟩) hb).trans (hr i hlt k v hv))
      obtain ⟨Y, hY⟩ : ∃ Y, Y = bs.getD i [] := ⟨_, rfl⟩
      rw [← hY] at hl48 hrq
      have HY := Lib.hid hY
      have htake := Lib.hid (show bs.take i ++ [Y] = bs.take (i + 1) by rw [hY, List.take_succ_eq_append_getElem (by rw [Hn.out]; exact hlt)]; simp [List.getD, show i < bs.length by rw [Hn.out]; exact hlt])
      clear hY
      go_wp2_with (at_builtin; refine wpList_append_bs rfl _ _ 49 rfl wq.heap.size 5 i0 (.int .u8 0) Try.underlying49 hi hi0 hi1 hi2 rfl (.slice (some ⟨wq.heap.size, 0, none⟩) 0 0) [] rfl (owns_emptyN wq wq.heap.size (Nat.le_refl _)) wq.heap.size (some ⟨b, off + i * 48, none⟩) 48 48 Y rfl hl48 (hrq.alloc (Nat.le_refl _) _) (by simp) (by simp) ?_)
      intro v4 w4 hown4 hg4
      have hb4 : Below wq.heap.size wq w4 := ((Below.refl _ wq).alloc (Nat.le_refl _) _).trans (hg4.below (by simp) (fun k hk => by simp only [Value.ownBlock, Option.some.injEq] at hk; omega))
      try rw [List.nil_append] at hown4
      have hlt4 := hown4.lt
      obtain ⟨A4, c4, rfl, h41, h42, hs4⟩ := hown4.slice
      rw [hl48] at h41 ⊢
      have hlto := hGi.lt
      have hap : ∀ a : Addr, A4 = some a → 0 < Y.length → ∀ k, Value.ownBlock _ = some k → k ≠ a.block := fun a ea _ k hk e => by
        have h1 := (hlt4 a.block (by rw [ea]; rfl)).1
        have h2 := (hlto k hk).2
        omega
      have hG4 := hGi.up hb4
      obtain ⟨wl, hwl⟩ : ∃ x, x = w4.alloc (.cells #[.slice A4 48 c4] 49) := ⟨_, rfl⟩
      have hbal : Below w4.heap.size w4 wl := by rw [hwl]; exact (Below.refl _ w4).alloc (Nat.le_refl _) _
      have hGl := hG4.up hbal
      have hsl : Bs wl wl.heap.size A4 Y := (hs4.below hbal (Nat.le_refl _)).more hbal.size
      have hcell : ∀ j u, [Value.slice A4 48 c4][j]? = some u → wl.cell? ((⟨w4.heap.size, 0, none⟩ : Addr).add j) = some u := by rw [hwl]; exact cell_one_new _ _ _
      obtain ⟨cs, hcs1, hcs2⟩ := hGl
      have htl : (bs.take i).length = i := by rw [List.length_take, Hn.out]; omega
      have hO4 : Below g W w4 := hO.trans (hb4.mono hgq)
      have hOl : Below g W wl := hO4.trans (hbal.mono (Nat.le_trans hgq hb4.size))
      have Hwl := Lib.hid hwl
      have Htl := Lib.hid htl
      rw [htl] at hcs1
      have hgl : g ≤ wl.heap.size := Nat.le_trans hgW hOl.size
      clear hwl hown4 hg4 hb4 hbal hGi hG4 hs4 hrq hO hO4 htl
      go_wp2_with (at_builtin; refine wpList_append_own_at _ rfl _ _ 74 rfl g 49 j0 (.slice none 0 0) 1 24 Try.underlying74 hj hz0 hz1 hz2 rfl (by decide) _ i cs rfl (by rw [Hwl.out] at hcs1; exact hcs1) ⟨w4.heap.size, 0, none⟩ 1 1 [Value.slice A4 48 c4] rfl rfl (by rw [Hwl.out] at hcell; exact hcell) (by intro u hu; simp at hu; subst hu; rfl) (by unfold maxLen; omega) (by omega) (by rw [Hwl.out] at hgl; exact hgl) ?_)
      intro v' w1 hown' hgrow _ hplace
      rw [← Hwl.out] at hgrow
      have hzl : wl.heap.size = w4.heap.size + 1 := by rw [Hwl.out]; simp
      first | rw [← hzl] at hplace | rw [← Hwl.out] at hplace
      have hltl := World.ownsRow.lt hcs1
      have hN1 := NRow.snoc (w := wl) (rs := bs.take i) (by rw [Htl.out]; exact hown') (by rw [Htl.out]; exact hcs1.1) hcs2 hgrow hplace hl48 h41 h42 hsl (fun a ea h e => hap a ea h a.block e rfl)
      have hb1 : Below g W w1 := hOl.trans ((Below.refl _ wl).grown hgrow hgl (fun k hk => (hltl k hk).1))
      rw [htake.out] at hN1
      clear hown' hgrow hplace hltl hcs1 hcs2 hsl hOl hap hcell
      go_wp2_with fail
      go_roundw
      case rel => exact ⟨i + 1, by omega, by go_num, hN1, hb1⟩
      case measure => simp [intOf]; omega
    · obtain rfl : i = n := by omega
      have hd : decide ((i : Int) < (i : Int)) = false := by simp
      have hdn : decide (i < i) = false := by simp
      have hRq : Arr wq w.heap.size 29 (Lib.byteCells zeros) := hR.below hO hwg
      have hti : bs.take i = bs := by rw [List.take_of_length_le]; rw [Hn.out]; exact Nat.le_refl _
      rw [hti] at hGi
      obtain ⟨A, cc, rfl, hc1, hc2, hrows⟩ := hGi.rows
      rw [Hn.out] at hc1 ⊢
      have hcc : cc ≤ 9223372036854775807 := by unfold maxLen at hc2; exact hc2
      clear hti
      go_wp2_with fail
      go_at_call 35
      refine Calls.mono (rroot_at bs RL A i cc wq Hn.out HRL.out (by omega) hc1 hcc (fun r hr => by have := h48 r hr; omega) hrows) ?_
      rintro e w5 ⟨rfl, hb5⟩
      have hR5 := Lib.hid (hRq.below hb5 hRq.lt)
      have hB5 := hbq.trans (hb5.mono hbq.size)
      clear hRq hb5 hrows hbq
      go_wp2_with (first
        | (refine wpList_store_row rfl _ _ _ rfl w.heap.size RL.toArray rfl rfl 29 (Lib.byteCells zeros).toArray hR5.out HI.out HS.out H1.out ?_))
      have hset : Arr (w5.setRow w.heap.size RL.toArray) w.heap.size 29 RL := Arr.setRow hR5.out RL
      have hfin : Below w.heap.size w (w5.setRow w.heap.size RL.toArray) := hB5.trans (((Only.refl (fun k => k = w.heap.size) w5).setRow (.inl rfl) RL.toArray).below hB5.size (by rintro k rfl; exact Nat.le_refl _))
      exact bodyPost_ret (v := .agg RL.toArray) (results_cell_row (by rfl) _ _ w.heap.size 29 RL.toArray (0, 0) _ (by rfl) hset Try.underlying29 rfl HI.out) rfl ⟨rfl, hfin⟩


end Go.Proofs.Ytccccpadnaocfaa

namespace Go.Proofs.Ytccccpadnaocfaa
open Go.RowKit Go.ChangeShapes Go.WideShapes
set_option linter.unusedVariables false
set_option maxRecDepth 100000

/-- Sectors in memory, one behind the other. -/
def BsAt (w : World) (A : Option Addr) (ds : List (List UInt8)) : Prop :=
  0 < ds.length → ∃ b off, A = some ⟨b, off, none⟩ ∧ b < w.heap.size ∧ ∀ i, i < ds.length → (ds.getD i []).length = 48 ∧ w.rangeAt b (off + i * 48) (Lib.byteCells (ds.getD i []))

theorem blk_cellsN {H : Type} {enc : TypeId × Value → H} {W : World} {base : Nat} {sp : Nat → Bool} {held : Bool} {m : Nat} {cs : List Value} {x : DataW H × List MemPlace} (hl : cs.length = 48) (h : DataW.trod enc Try.prog W base sp held m 40 cs = some x) : ∃ l : List UInt8, l.length = 48 ∧ cs = Lib.byteCells l := by
  have hr : ∃ l : List UInt8, l.length = 48 ∧ (.agg cs.toArray : Value) = digV l := by
    obtain ⟨xs, m', _, _, hlen, hn, hel⟩ := DataW.trod_array Try.underlying40 h
    have hc1 : Try.prog.cellsOf 5 = 1 := by kernel_rfl
    have hall : ∀ i, i < 48 → ∃ b : UInt8, cs[i]? = some (.int .u8 (b.toNat : Nat)) := by
      intro i hi
      have h1 := hel i hi
      rw [hc1, Nat.mul_one] at h1
      have hx : xs[i]? = some (xs[i]'(by omega)) := List.getElem?_eq_getElem (by omega)
      rw [hx] at h1
      have hd : ((cs.drop i).take 1) = [cs[i]'(by omega)] := by rw [List.drop_eq_getElem_cons (by omega)]; rfl
      rw [hd] at h1
      obtain ⟨k, e, _, hw⟩ := DataW.trod_int Try.underlying5 h1
      have hb := bounds_u8 hw
      simp only [List.cons.injEq, and_true] at e
      refine ⟨k.toNat.toUInt8, ?_⟩
      rw [List.getElem?_eq_getElem (by omega), e, Lib.toUInt8_toNat (by omega), Int.toNat_of_nonneg hb.1]
    have hch : ∃ f : Nat → UInt8, ∀ i, i < 48 → cs[i]? = some (.int .u8 ((f i).toNat : Nat)) := by
      classical
      refine ⟨fun i => if hi : i < 48 then Classical.choose (hall i hi) else 0, fun i hi => ?_⟩
      simp only [dif_pos hi]
      exact Classical.choose_spec (hall i hi)
    obtain ⟨f, hf2⟩ := hch
    refine ⟨(List.range 48).map f, by simp, ?_⟩
    unfold digV
    congr 2
    apply List.ext_getElem?
    intro i
    by_cases hi : i < 48
    · rw [hf2 i hi]
      simp [Lib.byteCells, hi]
    · rw [List.getElem?_eq_none (by omega), List.getElem?_eq_none (by simp [Lib.byteCells]; omega)]
  obtain ⟨l, h1, h2⟩ := hr
  refine ⟨l, h1, ?_⟩
  unfold digV at h2
  injection h2 with h2
  simpa using congrArg Array.toList h2

theorem blks_arg {H : Type} {enc : TypeId × Value → H} {W : World} {A : Option Addr} {len cap : Nat} {d : DataW H} {p : List MemPlace} (h : DataW.Trod enc Try.prog W 0 (fun _ => true) true 22 (.slice A len cap) d p) :
    ∃ ds : List (List UInt8), ds.length = len ∧ len ≤ cap ∧ cap ≤ maxLen ∧ BsAt W A ds := by
  obtain ⟨fuel, hf⟩ := h
  rcases Go.Deep.open_slice Try.underlying22 hf with ⟨h0, _⟩ | ⟨a, len', cap', m, n, D, Pl, hcs, _, hl, hm, hmm, _, hi⟩
  · simp [Value.cells] at h0
    obtain ⟨rfl, rfl, rfl⟩ := h0
    exact ⟨[], rfl, Nat.le_refl _, by unfold maxLen; omega, fun h => absurd h (by simp)⟩
  · simp [Value.cells] at hcs
    obtain ⟨rfl, rfl, rfl⟩ := hcs
    have hC : Try.prog.cellsOf 40 = 48 := by kernel_rfl
    have hle : len ≤ m := by rw [hmm]; split <;> omega
    have hall : ∀ i, i < len → ∃ l : List UInt8, l.length = 48 ∧ ∀ j v, (Lib.byteCells l)[j]? = some v → W.cell? (a.add (i * 48 + j)) = some v := by
      intro i him
      obtain ⟨cs', hc, ht'⟩ := hi i (by omega)
      rw [hC] at hc
      obtain ⟨_, hcl, hat⟩ := World.cells?_some hc
      obtain ⟨l, hl48, rfl⟩ := blk_cellsN hcl ht'
      refine ⟨l, hl48, fun j v hj => ?_⟩
      have hj48 : j < 48 := by have := (List.getElem?_eq_some_iff.1 hj).1; rw [Lib.byteCells_length] at this; omega
      have h0 := hat j hj48
      rw [Go.Deep.add_add] at h0
      rw [h0, hj]
    have hch : ∃ f : Nat → List UInt8, ∀ i, i < len → (f i).length = 48 ∧ ∀ j v, (Lib.byteCells (f i))[j]? = some v → W.cell? (a.add (i * 48 + j)) = some v := by
      classical
      refine ⟨fun i => if hi : i < len then Classical.choose (hall i hi) else [], fun i hi => ?_⟩
      simp only [dif_pos hi]
      exact Classical.choose_spec (hall i hi)
    clear hall
    obtain ⟨f, hf2⟩ := hch
    refine ⟨(List.range len).map f, by simp, hl, hm, fun hp => ?_⟩
    have hp' : 0 < len := by simpa using hp
    obtain ⟨b, off, spot⟩ := a
    obtain ⟨h48, hc0⟩ := hf2 0 hp'
    have hc00 := hc0 0 _ (byteCells_get (l := f 0) (j := 0) (by omega))
    have hspot : spot = none := by simpa [Addr.add] using World.cell?_spot hc00
    subst hspot
    refine ⟨b, off, rfl, World.block_lt_of_cell? W _ (by simpa [Addr.add] using hc00), fun i hi => ?_⟩
    have hi' : i < len := by simpa using hi
    have hg : ((List.range len).map f).getD i [] = f i := by simp [List.getD, hi']
    rw [hg]
    refine ⟨(hf2 i hi').1, fun j v hj => ?_⟩
    have h1 := (hf2 i hi').2 j v hj
    have hadd : (⟨b, off, none⟩ : Addr).add (i * 48 + j) = ⟨b, off + i * 48 + j, none⟩ := by unfold Addr.add; split <;> simp_all <;> omega
    rwa [hadd] at h1

theorem dig_cellsN {H : Type} {enc : TypeId × Value → H} {W : World} {base : Nat} {sp : Nat → Bool} {held : Bool} {m : Nat} {cs : List Value} {x : DataW H × List MemPlace} (hl : cs.length = 32) (h : DataW.trod enc Try.prog W base sp held m 29 cs = some x) : ∃ l : List UInt8, l.length = 32 ∧ cs = Lib.byteCells l := by
  have hr : ∃ l : List UInt8, l.length = 32 ∧ (.agg cs.toArray : Value) = digV l := by
    obtain ⟨xs, m', _, _, hlen, hn, hel⟩ := DataW.trod_array Try.underlying29 h
    have hc1 : Try.prog.cellsOf 5 = 1 := by kernel_rfl
    have hall : ∀ i, i < 32 → ∃ b : UInt8, cs[i]? = some (.int .u8 (b.toNat : Nat)) := by
      intro i hi
      have h1 := hel i hi
      rw [hc1, Nat.mul_one] at h1
      have hx : xs[i]? = some (xs[i]'(by omega)) := List.getElem?_eq_getElem (by omega)
      rw [hx] at h1
      have hd : ((cs.drop i).take 1) = [cs[i]'(by omega)] := by rw [List.drop_eq_getElem_cons (by omega)]; rfl
      rw [hd] at h1
      obtain ⟨k, e, _, hw⟩ := DataW.trod_int Try.underlying5 h1
      have hb := bounds_u8 hw
      simp only [List.cons.injEq, and_true] at e
      refine ⟨k.toNat.toUInt8, ?_⟩
      rw [List.getElem?_eq_getElem (by omega), e, Lib.toUInt8_toNat (by omega), Int.toNat_of_nonneg hb.1]
    have hch : ∃ f : Nat → UInt8, ∀ i, i < 32 → cs[i]? = some (.int .u8 ((f i).toNat : Nat)) := by
      classical
      refine ⟨fun i => if hi : i < 32 then Classical.choose (hall i hi) else 0, fun i hi => ?_⟩
      simp only [dif_pos hi]
      exact Classical.choose_spec (hall i hi)
    obtain ⟨f, hf2⟩ := hch
    refine ⟨(List.range 32).map f, by simp, ?_⟩
    unfold digV
    congr 2
    apply List.ext_getElem?
    intro i
    by_cases hi : i < 32
    · rw [hf2 i hi]
      simp [Lib.byteCells, hi]
    · rw [List.getElem?_eq_none (by omega), List.getElem?_eq_none (by simp [Lib.byteCells]; omega)]
  obtain ⟨l, h1, h2⟩ := hr
  refine ⟨l, h1, ?_⟩
  unfold digV at h2
  injection h2 with h2
  simpa using congrArg Array.toList h2

theorem int_cellN {H : Type} {enc : TypeId × Value → H} {W : World} {base : Nat} {sp : Nat → Bool} {held : Bool} {v : Value} {y : DataW H × List MemPlace} {n : Nat} (h : DataW.trod enc Try.prog W base sp held n 3 [v] = some y) :
    ∃ z, v = .int .i64 z ∧ -9223372036854775808 ≤ z ∧ z ≤ 9223372036854775807 := by
  obtain ⟨z, hcs, _, hw⟩ := DataW.trod_int Try.underlying3 h
  simp at hcs
  exact ⟨z, hcs, bounds_i64 hw⟩

theorem bin_open {H : Type} {enc : TypeId × Value → H} {W : World} {r : Reach} {b0 base : Nat} {sp : Nat → Bool} {held : Bool} {v : Value} {d : DataW H} {p : List MemPlace}
    (hv : Value.okWide Try.prog W r b0 31 v) (h : DataW.Trod enc Try.prog W base sp held 31 v d p) :
    ∃ (l : List UInt8) (x a n : Int), l.length = 32 ∧ (-9223372036854775808 ≤ x ∧ x ≤ 9223372036854775807) ∧ (-9223372036854775808 ≤ a ∧ a ≤ 9223372036854775807) ∧ (-9223372036854775808 ≤ n ∧ n ≤ 9223372036854775807) ∧ v = .agg (binC x a n l).toArray := by
  have hT := Try.underlying31
  obtain ⟨cs0, rfl, hsz, _⟩ : ∃ cs, v = .agg cs ∧ cs.size = Try.prog.cellsOf 31 ∧ Row.okWide Try.prog W r b0 31 cs := by
    simpa [Value.okWide, hT] using hv
  obtain ⟨fuel, hf⟩ := h
  have hC : Try.prog.cellsOf 31 = 35 := by kernel_rfl
  rw [hC] at hsz
  obtain ⟨cs⟩ := cs0
  have hl : cs.length = 35 := hsz
  obtain ⟨ys, n', _, _, hlen, hyl, hff⟩ := DataW.trod_struct Try.underlying31 hf
  have hcs : (Value.agg cs.toArray).cells.toList = cs := by simp [Value.cells]
  have g : ∀ j (hj : j < ys.length), ys[j]? = some (ys[j]) := fun j hj => List.getElem?_eq_getElem hj
  have hy3 : ys.length = 4 := hyl
  have c0 : DataW.trod enc Try.prog W base sp held n' 3 ((cs.drop 0).take (Try.prog.cellsOf 3)) = ys[0]? := hcs ▸ hff 0 _ rfl
  have c1 : DataW.trod enc Try.prog W base sp held n' 3 ((cs.drop 1).take (Try.prog.cellsOf 3)) = ys[1]? := hcs ▸ hff 1 _ rfl
  have c2 : DataW.trod enc Try.prog W base sp held n' 3 ((cs.drop 2).take (Try.prog.cellsOf 3)) = ys[2]? := hcs ▸ hff 2 _ rfl
  have c3 : DataW.trod enc Try.prog W base sp held n' 29 ((cs.drop 3).take (Try.prog.cellsOf 29)) = ys[3]? := hcs ▸ hff 3 _ rfl
  have k1 : Try.prog.cellsOf 3 = 1 := by kernel_rfl
  have k32 : Try.prog.cellsOf 29 = 32 := by kernel_rfl
  rw [k1, g 0 (by omega), show (cs.drop 0).take 1 = [cs[0]'(by omega)] by rw [List.drop_eq_getElem_cons (by omega)]; rfl] at c0
  rw [k1, g 1 (by omega), show (cs.drop 1).take 1 = [cs[1]'(by omega)] by rw [List.drop_eq_getElem_cons (by omega)]; rfl] at c1
  rw [k1, g 2 (by omega), show (cs.drop 2).take 1 = [cs[2]'(by omega)] by rw [List.drop_eq_getElem_cons (by omega)]; rfl] at c2
  rw [k32, g 3 (by omega)] at c3
  obtain ⟨x, e0, hx⟩ := int_cellN c0
  obtain ⟨a, e1, ha⟩ := int_cellN c1
  obtain ⟨n, e2, hn⟩ := int_cellN c2
  obtain ⟨l, h32, e3⟩ := dig_cellsN (by rw [List.length_take, List.length_drop]; omega) c3
  refine ⟨l, x, a, n, h32, hx, ha, hn, ?_⟩
  congr 2
  unfold binC
  rw [← e0, ← e1, ← e2, ← e3, List.take_of_length_le (by rw [List.length_drop]; omega)]
  conv => lhs; rw [← List.drop_zero (l := cs), List.drop_eq_getElem_cons (by omega), List.drop_eq_getElem_cons (by omega), List.drop_eq_getElem_cons (by omega)]

end Go.Proofs.Ytccccpadnaocfaa

namespace Go.Proofs.Ytccccpadnaocfaa
open Go.RowKit
set_option linter.unusedVariables false
set_option linter.unusedSimpArgs false

theorem blk_eqv (X Y : List UInt8) (hX : X.length = 48) (hY : Y.length = 48) (XL YL : List Value) (hXL : XL = Lib.byteCells X) (hYL : YL = Lib.byteCells Y) (w : World) :
    (Op.equalIn 10000 40 (.agg XL.toArray) (.agg YL.toArray)).run Try.prog w = .ok (decide (X = Y)) w := eqv_at Try.underlying40 X Y hX hY XL YL hXL hYL w
theorem take_next {α : Type} {xs ys : List α} (d : α) {i : Nat} (hx : i < xs.length) (hy : i < ys.length) (h : xs.take i = ys.take i) (he : xs.getD i d = ys.getD i d) : xs.take (i + 1) = ys.take (i + 1) := by
  rw [List.take_succ_eq_append_getElem hx, List.take_succ_eq_append_getElem hy, h]
  simp [List.getD, hx, hy] at he
  rw [he]

set_option maxHeartbeats 8000000 in
set_option maxRecDepth 100000 in
theorem nsame_at (xs ys : List (List UInt8)) (A B : Option Addr) (n c m c' : Nat) (ok : Bool) (w : World) (hx : xs.length = n) (hy : ys.length = m) (hX : BsAt w A xs) (hY : BsAt w B ys) (hc : n ≤ c) (hc2 : m ≤ c') (hcm : c ≤ 9223372036854775807) (hcm2 : c' ≤ 9223372036854775807) (hok : decide (xs = ys) = ok) :
    Calls Try.prog 16 #[.slice A n c, .slice B m c'] w fun e w' => e = .returned (.bool ok) ∧ ∃ nd, w' = w.drewN nd := by
  by_cases hnm : n = m
  · subst hnm
    have hd0 : ((n : Int) == (n : Int)) = true := by simp
    go_enter Try.func16, Try.ntmps16
    go_wp2_with fail
    go_loopw [5] (fun v wr => ∃ i : Nat, i ≤ n ∧ v = .int .i64 i ∧ xs.take i = ys.take i ∧ ∃ nd, wr = w.drewN nd) (fun v _ => n - (intOf v).toNat)
    case atStart => exact ⟨0, by omega, rfl, rfl, 0, rfl⟩
    case round =>
      obtain ⟨i, hi, rfl, htk, nd, rfl⟩ := hrel
      by_cases hlt : i < n
      · have hd : decide ((i : Int) < (n : Int)) = true := by simp; exact hlt
        have hdn : decide (i < n) = true := by simp; exact hlt
        have hiI : (i : Int) < (n : Int) := by omega
        obtain ⟨b, off, rfl, hb, hrx⟩ := hX (by omega)
        obtain ⟨b', off', rfl, hb', hry⟩ := hY (by omega)
        obtain ⟨hx48, hx1⟩ := hrx i (by omega)
        obtain ⟨hy48, hy1⟩ := hry i (by omega)
        obtain ⟨X, hXe⟩ : ∃ X, X = xs.getD i [] := ⟨_, rfl⟩
        obtain ⟨Y, hYe⟩ : ∃ Y, Y = ys.getD i [] := ⟨_, rfl⟩
        rw [← hXe] at hx48 hx1
        rw [← hYe] at hy48 hy1
        obtain ⟨XL, hXL⟩ : ∃ XL, XL = Lib.byteCells X := ⟨_, rfl⟩
        obtain ⟨YL, hYL⟩ : ∃ YL, YL = Lib.byteCells Y := ⟨_, rfl⟩
        obtain ⟨r, hr⟩ : ∃ r, decide (X = Y) = r := ⟨_, rfl⟩
        have hcmp : ∀ w, (Op.equalIn 10000 40 (.agg XL.toArray) (.agg YL.toArray)).run Try.prog w = .ok r w := fun w => by
          rw [blk_eqv X Y hx48 hy48 XL YL hXL hYL w, hr]
        have HXn := Lib.hid (show (Try.prog.info? 40).map (·.size) = some XL.length by rw [hXL, Lib.byteCells_length, hx48]; exact blkInfo)
        have HYn := Lib.hid (show (Try.prog.info? 40).map (·.size) = some YL.length by rw [hYL, Lib.byteCells_length, hy48]; exact blkInfo)
        rw [← hXL] at hx1
        rw [← hYL] at hy1
        have hgt := gtBN
        have hx2 : ((w.drewN nd).drew).rangeAt b (off + i * 48) XL := hx1
        have hy2 : ((w.drewN nd).drew).rangeAt b' (off' + i * 48) YL := hy1
        have Hr := Lib.hid hr
        have HXe := Lib.hid hXe
        have HYe := Lib.hid hYe
        have Hok := Lib.hid hok
        clear hXL hYL hr hXe hYe hrx hry hx1 hy1 hok
        go_wp2_with fail
        refine wp_region_held_drew (S := fun w' => w'.rangeAt b (off + i * 48) XL ∧ w'.rangeAt b' (off' + i * 48) YL) (by kernel_rfl) ⟨hx2, hy2⟩ (fun hHeld => ?_)
        refine anyH_take (i := 0) (v := .slice (some ⟨b, off, none⟩) n c) (some 17) rfl rfl (by kernel_rfl) (by kernel_rfl) (by kernel_rfl) (fun _ _ _ h => h) (Or.inl ⟨by rfl, fun w' hw' => by go_simp⟩) (by assumption) ?_
        simp only [Act.put, List.setIfInBounds_toArray, List.set_cons_zero, List.set_cons_succ]
        refine anyH_take (i := 1) (v := .int .i64 (i : Nat)) (some 18) rfl rfl (by kernel_rfl) (by kernel_rfl) (by kernel_rfl) (fun _ _ _ h => h) (Or.inl ⟨by rfl, fun w' hw' => by go_simp⟩) (by assumption) ?_
        simp only [Act.put, List.setIfInBounds_toArray, List.set_cons_zero, List.set_cons_succ]
        refine anyH_take (i := 2) (v := .pointer (some ⟨b, off + i * 48, none⟩)) (some 19) rfl rfl (by kernel_rfl) (by kernel_rfl) (by kernel_rfl) (fun _ _ _ h => h) (Or.inl ⟨by rfl, fun w' hw' => by go_simp⟩) (by assumption) ?_
        simp only [Act.put, List.setIfInBounds_toArray, List.set_cons_zero, List.set_cons_succ]
        refine anyH_take (i := 3) (some 20) rfl rfl (by kernel_rfl) (by kernel_rfl) (by kernel_rfl) (fun _ _ _ h => h) (yieldsIf_load_mid (by rfl) 40 (.tmp 19) rfl b (off + i * 48) rfl XL _ (fun _ h => h.1) Try.underlying40 rfl HXn.out) (by assumption) ?_
        simp only [Act.put, List.setIfInBounds_toArray, List.set_cons_zero, List.set_cons_succ]
        refine anyH_take (i := 4) (v := .slice (some ⟨b', off', none⟩) n c') (some 21) rfl rfl (by kernel_rfl) (by kernel_rfl) (by kernel_rfl) (fun _ _ _ h => h) (Or.inl ⟨by rfl, fun w' hw' => by go_simp⟩) (by assumption) ?_
        simp only [Act.put, List.setIfInBounds_toArray, List.set_cons_zero, List.set_cons_succ]
        refine anyH_take (i := 5) (v := .int .i64 (i : Nat)) (some 22) rfl rfl (by kernel_rfl) (by kernel_rfl) (by kernel_rfl) (fun _ _ _ h => h) (Or.inl ⟨by rfl, fun w' hw' => by go_simp⟩) (by assumption) ?_
        simp only [Act.put, List.setIfInBounds_toArray, List.set_cons_zero, List.set_cons_succ]
        refine anyH_take (i := 6) (v := .pointer (some ⟨b', off' + i * 48, none⟩)) (some 23) rfl rfl (by kernel_rfl) (by kernel_rfl) (by kernel_rfl) (fun _ _ _ h => h) (Or.inl ⟨by rfl, fun w' hw' => by go_simp⟩) (by assumption) ?_
        simp only [Act.put, List.setIfInBounds_toArray, List.set_cons_zero, List.set_cons_succ]
        refine anyH_take (i := 7) (some 24) rfl rfl (by kernel_rfl) (by kernel_rfl) (by kernel_rfl) (fun _ _ _ h => h) (yieldsIf_load_mid (by rfl) 40 (.tmp 23) rfl b' (off' + i * 48) rfl YL _ (fun _ h => h.2) Try.underlying40 rfl HYn.out) (by assumption) ?_
        simp only [Act.put, List.setIfInBounds_toArray, List.set_cons_zero, List.set_cons_succ]
        refine wpAnyH_ready (rs := [8]) (by kernel_rfl) (by simp) ?_
        refine AllReadyH.cons rfl (fun K hK => ?_) AllReadyH.nil
        go_simp
        refine hK.out _ _ ⟨hx2, hy2⟩ (fun hHeld => ?_)
        clear hK K
        try simp only [Act.put, List.setIfInBounds_toArray, List.set_cons_zero, List.set_cons_succ]
        cases r
        · have hne : ok = false := by
            rw [← Hok.out]
            rw [decide_eq_false_iff_not]
            intro e
            have := Hr.out
            rw [HXe.out, HYe.out, e] at this
            simp at this
          subst hne
          refine wpAnyH_done (by kernel_rfl) ?_ _
          go_wp2_with fail
          go_ret
          exact ⟨rfl, nd + 1, rfl⟩
        · have he : xs.getD i [] = ys.getD i [] := by rw [← HXe.out, ← HYe.out]; exact of_decide_eq_true Hr.out
          refine wpAnyH_done (by kernel_rfl) ?_ _
          go_wp2_with fail
          go_roundw
          case rel => exact ⟨i + 1, by omega, by go_num, take_next [] (by omega) (by omega) htk he, nd + 1, rfl⟩
          case measure => simp [intOf]; omega
      · obtain rfl : i = n := by omega
        have hd : decide ((i : Int) < (i : Int)) = false := by simp
        have hdn : decide (i < i) = false := by simp
        have hxy : xs = ys := by rw [← List.take_of_length_le (Nat.le_of_eq hx), htk, List.take_of_length_le (Nat.le_of_eq hy)]
        have hok2 : ok = true := by rw [← hok]; simp [hxy]
        subst hok2
        clear hxy htk hok
        go_wp2_with fail
        go_ret
        exact ⟨rfl, nd, rfl⟩
  · have hd0 : ((n : Int) == (m : Int)) = false := by rw [beq_eq_false_iff_ne]; omega
    have hok2 : ok = false := by
      rw [← hok, decide_eq_false_iff_not]
      intro e
      rw [e] at hx
      omega
    subst hok2
    clear hok
    go_enter Try.func16, Try.ntmps16
    go_wp2_with fail
    go_ret
    exact ⟨rfl, 0, rfl⟩

theorem nsame_below (xs ys : List (List UInt8)) (A B : Option Addr) (n c m c' : Nat) (ok : Bool) (w : World) (hx : xs.length = n) (hy : ys.length = m) (hX : BsAt w A xs) (hY : BsAt w B ys) (hc : n ≤ c) (hc2 : m ≤ c') (hcm : c ≤ 9223372036854775807) (hcm2 : c' ≤ 9223372036854775807) (hok : decide (xs = ys) = ok) :
    Calls Try.prog 16 #[.slice A n c, .slice B m c'] w fun e w' => e = .returned (.bool ok) ∧ Below w.heap.size w w' :=
  (nsame_at xs ys A B n c m c' ok w hx hy hX hY hc hc2 hcm hcm2 hok).mono fun e w' ⟨h, k, e'⟩ => ⟨h, e' ▸ Below.dN (Below.refl _ _) k⟩
theorem Arr.bsAt {w : World} {g : Nat} {T : TypeId} {bs : List (List UInt8)} (h : Arr w g T (blkC bs)) (h48 : ∀ s ∈ bs, s.length = 48) : BsAt w (some ⟨g, 0, none⟩) bs := fun _ =>
  ⟨g, 0, rfl, h.lt, fun i hi => ⟨h48 _ (by simp [List.getD, hi]), fun j v hj => by rw [Nat.zero_add, h.cell]; exact blkC_at h48 hi j v hj⟩⟩


end Go.Proofs.Ytccccpadnaocfaa

namespace Go.Proofs.Ytccccpadnaocfaa
open Go.RowKit
set_option linter.unusedVariables false
set_option linter.unusedSimpArgs false

/-- The first k bytes of a sector. -/
def partL (ch : List UInt8) (k : Nat) : List UInt8 := ch.take k ++ List.replicate (64 - k) 0
theorem partL_zero (ch : List UInt8) : partL ch 0 = zero64 := by simp [partL, zero64]
theorem partL_length {ch : List UInt8} {k : Nat} (hk : k ≤ ch.length) (hc : ch.length ≤ 64) : (partL ch k).length = 64 := by
  unfold partL
  rw [List.length_append, List.length_take, List.length_replicate]; omega
theorem partL_at {ch : List UInt8} {k : Nat} (hk : k < ch.length) (hc : ch.length ≤ 64) : (Lib.byteCells (partL ch k))[k]? = some (.int .u8 0) := by
  have hl : (ch.take k).length = k := by rw [List.length_take]; omega
  have h : (partL ch k)[k]? = some 0 := by
    unfold partL
    rw [List.getElem?_append_right (by omega), hl, Nat.sub_self, List.getElem?_replicate]
    simp; omega
  simp [Lib.byteCells, h]
theorem partL_set {ch : List UInt8} {k x : Nat} (hk : k < ch.length) (hc : ch.length ≤ 64) (hx : (ch.getD k 0).toNat = x) : (Lib.byteCells (partL ch k)).set k (.int .u8 (x : Nat)) = Lib.byteCells (partL ch (k + 1)) := by
  have hl : (ch.take k).length = k := by rw [List.length_take]; omega
  have h : (partL ch k).set k (ch.getD k 0) = partL ch (k + 1) := by
    unfold partL
    rw [List.set_append_right _ _ (by omega), hl, Nat.sub_self, show 64 - k = (64 - (k + 1)) + 1 by omega, List.replicate_succ, List.set_cons_zero, List.take_succ_eq_append_getElem hk, List.append_assoc]
    simp [List.getD, hk]
  rw [← h]
  unfold Lib.byteCells
  rw [List.map_set, ← hx]

set_option maxHeartbeats 8000000 in
set_option maxRecDepth 100000 in
theorem rlaid_at (b : List UInt8) (hb : b.length = 48) (BL SL : List Value) (hBL : BL = Lib.byteCells b) (hSL : SL = Lib.byteCells (laidB b)) (w : World) :
    Calls Try.prog 10 #[.agg BL.toArray] w fun e w' => e = .returned (.agg SL.toArray) ∧ Below w.heap.size w w' := by
  have hl64 := laidB_length hb
  have hSl : SL.length = 64 := by rw [hSL, Lib.byteCells_length, hl64]
  obtain ⟨W1, hW1⟩ : ∃ x, x = (w.alloc (.cells BL.toArray 40)).alloc (.cells (Lib.byteCells zero64).toArray 37) := ⟨_, rfl⟩
  have hX1 : Arr W1 w.heap.size 40 (Lib.byteCells b) := by rw [hW1, ← hBL]; exact (Arr.new w _ BL).alloc _
  have hR1 : Arr W1 (w.heap.size + 1) 37 (Lib.byteCells zero64) := by
    have h1 := Arr.new (w.alloc (.cells BL.toArray 40)) 37 (Lib.byteCells zero64)
    rw [show (w.alloc (.cells BL.toArray 40)).heap.size = w.heap.size + 1 from by simp] at h1
    rw [hW1]; exact h1
  have hb1 : Below w.heap.size w W1 := by rw [hW1]; exact ((Below.refl _ w).alloc (Nat.le_refl _) _).alloc (by simp) _
  obtain ⟨gr, hgr⟩ : ∃ g, g = w.heap.size + 1 := ⟨_, rfl⟩
  rw [← hgr] at hR1
  have hgw : w.heap.size < gr := by omega
  obtain ⟨ZL, hZL⟩ : ∃ Z, Z = Lib.byteCells zero64 := ⟨_, rfl⟩
  have hZl : ZL.length = 64 := by rw [hZL, Lib.byteCells_length]; rfl
  have HZLi := Lib.hid (show (Try.prog.info? 37).map (·.size) = some ZL.toArray.size by rw [List.size_toArray, hZl]; exact secInfo)
  have HZLn := Lib.hid (show (Try.prog.info? 37).map (·.size) = some ZL.length by rw [hZl]; exact secInfo)
  have HZLs := Lib.hid (show (Lib.byteCells zero64).toArray.size = ZL.toArray.size by rw [List.size_toArray, List.size_toArray, hZl]; rfl)
  have HZL1 := Lib.hid (show ZL.toArray.all (·.oneCell') = true by rw [hZL]; exact sec_one _)
  have HSLi := Lib.hid (show (Try.prog.info? 37).map (·.size) = some SL.toArray.size by rw [List.size_toArray, hSl]; exact secInfo)
  have HSLn := Lib.hid (show (Try.prog.info? 37).map (·.size) = some SL.length by rw [hSl]; exact secInfo)
  have HSLs := Lib.hid (show (Lib.byteCells zero64).toArray.size = SL.toArray.size by rw [List.size_toArray, List.size_toArray, hSl]; rfl)
  have HSL1 := Lib.hid (show SL.toArray.all (·.oneCell') = true by rw [hSL]; exact sec_one _)
  have HZb := Lib.hid (show Try.prog.built 37 [] = some ZL.toArray by rw [hZL]; exact sec_built0)
  have HW1 := Lib.hid hW1
  have Hgr := Lib.hid hgr
  have HZL := Lib.hid hZL
  have HSLe := Lib.hid hSL
  clear hW1 hgr hBL hZL hSL
  go_enter Try.func10, Try.ntmps10
  go_upto_region 1 with fail
  change Code.wp _ _ _ _ ((w.alloc (.cells BL.toArray 40)).alloc (.cells (Lib.byteCells zero64).toArray 37))
  rw [← HW1.out, ← Hgr.out]
  clear HW1 Hgr
  go_wp2_with (first
    | (refine wpList_builtD rfl _ _ rfl [] rfl ZL.toArray HZb.out ?_)
    | (change wpList _ _ _ _ _ (W1.alloc (.cells (Lib.byteCells zero64).toArray 37)); refine wpList_store_row rfl _ _ _ rfl W1.heap.size ZL.toArray rfl rfl 37 (Lib.byteCells zero64).toArray (heap_alloc_new W1 _) HZLi.out HZLs.out HZL1.out ?_; obtain ⟨w2, hw2⟩ : ∃ x, x = (W1.alloc (.cells (Lib.byteCells zero64).toArray 37)).setRow W1.heap.size ZL.toArray := ⟨_, rfl⟩; rw [← hw2]; obtain ⟨hXa, hba⟩ := alloc_rowD W1 37 (Lib.byteCells zero64).toArray ZL; rw [← hw2] at hXa hba; clear hw2))
  obtain ⟨g, hg⟩ : ∃ g, g = W1.heap.size := ⟨_, rfl⟩
  rw [← hg] at hXa ⊢
  have hgg : gr < g := by rw [hg]; exact hR1.lt
  have hgW : g ≤ W1.heap.size := Nat.le_of_eq hg
  have hXa' : Arr w2 g 37 (Lib.byteCells (partL b 0)) := by rw [partL_zero, ← HZL.out]; exact hXa
  have hX2 := hX1.below hba hX1.lt
  have hR2 := hR1.below hba hR1.lt
  have hb2 := hb1.trans (hba.mono hb1.size)
  have hglt : g < w2.heap.size := hXa.lt
  clear hg hXa hX1 hR1 hb1 hba
  go_loopw [4] (fun y wr => ∃ k : Nat, k ≤ 48 ∧ y = .int .i64 k ∧ Arr wr g 37 (Lib.byteCells (partL b k)) ∧ Only (fun j => j = g) w2 wr) (fun y _ => 48 - (intOf y).toNat)
  case atStart => exact ⟨0, by omega, rfl, hXa', Only.refl _ _⟩
  case round =>
    clear hXa'
    obtain ⟨k, hk, rfl, hX, hO⟩ := hrel
    obtain ⟨wk, hwk⟩ : ∃ x, x = wr := ⟨_, rfl⟩
    subst hwk
    by_cases hlk : k < 48
    · have hd2 : decide ((k : Int) < (48 : Int)) = true := by simp; omega
      have hXk := hX2.only hO (by omega)
      obtain ⟨z, hz⟩ : ∃ z, (b.getD k 0).toNat = z := ⟨_, rfl⟩
      have hcz : wk.cell? ⟨w.heap.size, k, none⟩ = some (.int .u8 (z : Nat)) := by rw [hXk.cell, ← hz]; exact byteCells_get (by omega)
      have hzl : z < 256 := by rw [← hz]; exact UInt8.toNat_lt _
      have hck : wk.cell? ⟨g, k, none⟩ = some (.int .u8 0) := by rw [hX.cell]; exact partL_at (by omega) (by omega)
      have hfk := hX.frozen k
      have hset := hX.set k (.int .u8 (z : Nat))
      rw [partL_set (x := z) (by omega) (by omega) hz] at hset
      have hkI : (k : Int) < (48 : Int) := by omega
      have hkI2 : (k : Int) < (64 : Int) := by omega
      have hOs : Only (fun j => j = g) w2 (wk.setCell ⟨g, k, none⟩ (.int .u8 (z : Nat))) := hO.setCell (p := ⟨g, k, none⟩) (.inl rfl) _
      obtain ⟨wn, hwn⟩ : ∃ x, x = wk.setCell ⟨g, k, none⟩ (.int .u8 (z : Nat)) := ⟨_, rfl⟩
      rw [← hwn] at hset hOs
      have Hwn := Lib.hid hwn
      clear hwn hXk hz hX hO
      go_wp2_with fail
      go_roundw
      case rel => exact ⟨k + 1, by omega, by go_num, by rw [← Hwn.out]; exact hset, by rw [← Hwn.out]; exact hOs⟩
      case measure => simp [intOf]; omega
    · obtain rfl : k = 48 := by omega
      have hpk : partL b 48 = laidB b := by unfold partL laidB; rw [List.take_of_length_le (by omega)]
      rw [hpk] at hX
      have hRk := Lib.hid (hR2.only hO (by omega))
      have hXk : Hid (wk.heap[g]? = some (.cells SL.toArray 37 (0, 0))) := by rw [HSLe.out]; exact hX
      have hbk := hb2.trans ((hO.below (Nat.le_of_lt hglt) (by rintro j rfl; exact Nat.le_refl _)).mono (show w.heap.size ≤ g by omega))
      clear hX hO hpk
      go_wp2_with (first
        | (refine wpList_load_row rfl _ _ rfl g rfl 37 SL.toArray (0, 0) _ hXk.out Try.underlying37 rfl HSLi.out ?_)
        | (refine wpList_store_row rfl _ _ _ rfl gr SL.toArray rfl rfl 37 (Lib.byteCells zero64).toArray hRk.out HSLi.out HSLs.out HSL1.out ?_))
      have hset := Arr.setRow hRk.out SL
      have hfin : Below w.heap.size w (wk.setRow gr SL.toArray) := hbk.trans (((Only.refl (fun k => k = gr) wk).setRow (.inl rfl) SL.toArray).below hbk.size (by rintro k rfl; exact Nat.le_of_lt hgw))
      exact bodyPost_ret (v := .agg SL.toArray) (results_cell_row (by rfl) _ _ gr 37 SL.toArray (0, 0) _ (by rfl) hset Try.underlying37 rfl HSLi.out) rfl ⟨rfl, hfin⟩


end Go.Proofs.Ytccccpadnaocfaa

namespace Go.Proofs.Ytccccpadnaocfaa
open Go.RowKit
set_option linter.unusedVariables false
set_option linter.unusedSimpArgs false

theorem bin_fields : (Try.prog.fieldsOf 31).toList.map (fun f => (f.name == "_", f.type, f.offset)) = [(false, 3, 0), (false, 3, 1), (false, 3, 2), (false, 29, 3)] := by kernel_rfl
theorem bin_held : Try.prog.stoodInHeld 31 = false := by kernel_rfl
theorem bin_under : Try.prog.underlying 31 = some (.struct (Try.prog.fieldsOf 31)) := by kernel_rfl
theorem gtNN : Try.prog.eqGuardType Try.prog.depth 31 = false := by kernel_rfl
theorem bin_dig_part {d : List UInt8} (hd : d.length = 32) (x a n : Int) (w : World) : (part 29 (binC x a n d).toArray 3).run Try.prog w = .ok (.agg (Lib.byteCells d).toArray) w := by
  have hs : (Try.prog.info? 29).map (·.size) = some 32 := digInfo
  have hu := Try.underlying29
  have hl : (Lib.byteCells d).length = 32 := by rw [Lib.byteCells_length, hd]
  cases hq : Try.prog.info? 29 with
  | none => simp [hq] at hs
  | some i0 =>
    have h1 : i0.size = 32 := by simpa [hq] using hs
    have e : List.take 32 ((binC x a n d).drop 3) = Lib.byteCells d := by
      show List.take 32 (Lib.byteCells d) = _
      rw [List.take_of_length_le (Nat.le_of_eq hl)]
    simp [part, isAgg, run_underlying hu, sizeOf, typeInfo, hq, h1, e]
theorem bin_int_part (d : List UInt8) (x a n : Int) (w : World) : (part 3 (binC x a n d).toArray 0).run Try.prog w = .ok (.int .i64 x) w ∧ (part 3 (binC x a n d).toArray 1).run Try.prog w = .ok (.int .i64 a) w ∧ (part 3 (binC x a n d).toArray 2).run Try.prog w = .ok (.int .i64 n) w := by
  have hu := Try.underlying3
  have h := binC_at x a n d
  refine ⟨?_, ?_, ?_⟩ <;> simp [part, isAgg, run_underlying hu, h.1, h.2.1, h.2.2]
theorem bin_list : ∃ f g h k : Field, (Try.prog.fieldsOf 31).toList = [f, g, h, k] ∧ (f.name ≠ "_" ∧ f.type = 3 ∧ f.offset = 0) ∧ (g.name ≠ "_" ∧ g.type = 3 ∧ g.offset = 1) ∧ (h.name ≠ "_" ∧ h.type = 3 ∧ h.offset = 2) ∧ (k.name ≠ "_" ∧ k.type = 29 ∧ k.offset = 3) := by
  have h := bin_fields
  revert h
  generalize (Try.prog.fieldsOf 31).toList = l
  intro h
  cases l with
  | nil => simp at h
  | cons f l => cases l with
    | nil => simp at h
    | cons g l => cases l with
      | nil => simp at h
      | cons k l => cases l with
        | nil => simp at h
        | cons u l => cases l with
          | cons _ _ => simp at h
          | nil =>
            simp only [List.map_cons, List.map_nil, List.cons.injEq, Prod.mk.injEq, beq_eq_false_iff_ne, and_true] at h
            exact ⟨f, g, k, u, rfl, h.1, h.2.1, h.2.2.1, h.2.2.2⟩
theorem eqFieldsN_yes {P : Program} {d : Nat} {xs ys : Array Value} {f : Field} {fs : List Field} {w : World} {a b : Value} (hn : f.name ≠ "_") (ha : (part f.type xs f.offset).run P w = .ok a w) (hb : (part f.type ys f.offset).run P w = .ok b w) (he : (Op.equalIn d f.type a b).run P w = .ok true w) :
    (Op.eqFields d xs ys (f :: fs)).run P w = (Op.eqFields d xs ys fs).run P w := by
  rw [Op.eqFields, if_pos hn]
  simp only [Sem.run_bind, ha, hb, he, Result.andThen_ok, Bool.not_true, Bool.false_eq_true, if_false]
theorem eqFieldsN_nil {P : Program} {d : Nat} {xs ys : Array Value} {w : World} : (Op.eqFields d xs ys []).run P w = .ok true w := by
  rw [Op.eqFields, Sem.run_pure]
set_option maxRecDepth 100000 in
theorem dig_eqvN_at (e : Nat) (X : List UInt8) (hX : X.length = 32) (w : World) :
    (Op.equalIn (e + 1 + 1) 29 (.agg (Lib.byteCells X).toArray) (.agg (Lib.byteCells X).toArray)).run Try.prog w = .ok true w := by
  have hi : Try.prog.info? 5 = some ((Try.prog.info? 5).get (by kernel_rfl)) := (Option.some_get _).symm
  have h1 := run_equalIn_array (P := Try.prog) (w := w) (e + 1) (Lib.byteCells X).toArray (Lib.byteCells X).toArray Try.underlying29 hi
  have hc : Try.prog.cellsOf 5 = 1 := by kernel_rfl
  rw [hc, eqItems_bytes e X X w (List.range 32) (fun i hi => by have := List.mem_range.1 hi; omega), all_getD hX hX] at h1
  rw [h1]
  simp
theorem bin_refl (d : List UInt8) (hd : d.length = 32) (x a n : Int) (XL : List Value) (hXL : XL = binC x a n d) (w : World) : (Op.equalIn 10000 31 (.agg XL.toArray) (.agg XL.toArray)).run Try.prog w = .ok true w := by
  subst hXL
  obtain ⟨f, g, h, k, hl, ⟨f1, f2, f3⟩, ⟨g1, g2, g3⟩, ⟨h1, h2, h3⟩, ⟨k1, k2, k3⟩⟩ := bin_list
  show (Op.equalIn (9997 + 1 + 1 + 1) _ _ _).run _ _ = _
  rw [run_equalIn_struct w (9997 + 1 + 1) 31 _ _ bin_under bin_held, hl]
  obtain ⟨p1, p2, p3⟩ := bin_int_part d x a n w
  have p4 := bin_dig_part hd x a n w
  have q0 : ∀ z : Int, (Op.equalIn (9997 + 1 + 1) 3 (.int .i64 z) (.int .i64 z)).run Try.prog w = .ok true w := fun z => by
    rw [run_equalIn_int w (9997 + 1) 3 .i64 .i64 z z Try.underlying3]; simp
  have q4 := dig_eqvN_at 9997 d hd w
  rw [eqFieldsN_yes f1 (by rw [f2, f3]; exact p1) (by rw [f2, f3]; exact p1) (by rw [f2]; exact q0 x)]
  rw [eqFieldsN_yes g1 (by rw [g2, g3]; exact p2) (by rw [g2, g3]; exact p2) (by rw [g2]; exact q0 a)]
  rw [eqFieldsN_yes h1 (by rw [h2, h3]; exact p3) (by rw [h2, h3]; exact p3) (by rw [h2]; exact q0 n)]
  rw [eqFieldsN_yes k1 (by rw [k2, k3]; exact p4) (by rw [k2, k3]; exact p4) (by rw [k2]; exact q4), eqFieldsN_nil]

set_option maxHeartbeats 8000000 in
set_option maxRecDepth 100000 in
theorem nwrite_arg (p : Value) (a number : Int) (m c : Nat) (X : Option Addr) (DL : List Value) (w : World) (h : number < 0 ∨ m = 0) (hDL : DL = binZ) :
    Calls Try.prog 8 #[p, .int .i64 number, .int .i64 a, .slice X m c] w fun e w' => e = .returned (.tuple #[.agg DL.toArray, .int .i64 1]) ∧ Below w.heap.size w w' := by
  have hd : decide (number < (0 : Int)) = true ∨ (decide (number < (0 : Int)) = false ∧ ((m : Int) == (0 : Int)) = true) := by
    rw [decide_eq_true_eq, decide_eq_false_iff_not, beq_iff_eq]; omega
  obtain ⟨W1, hW1⟩ : ∃ x, x = w.alloc (.cells binZ.toArray 31) := ⟨_, rfl⟩
  have hR1 : Arr W1 w.heap.size 31 binZ := by rw [hW1]; exact Arr.new w _ _
  have hb1 : Below w.heap.size w W1 := by rw [hW1]; exact (Below.refl _ w).alloc (Nat.le_refl _) _
  have hDl : DL.length = 35 := by rw [hDL]; rfl
  have HDLi := Lib.hid (show (Try.prog.info? 31).map (·.size) = some DL.toArray.size by rw [List.size_toArray, hDl]; exact binSize)
  have HDLn := Lib.hid (show (Try.prog.info? 31).map (·.size) = some DL.length by rw [hDl]; exact binSize)
  have HDLs := Lib.hid (show binZ.toArray.size = DL.toArray.size by rw [List.size_toArray, List.size_toArray, hDl]; rfl)
  have HDL1 := Lib.hid (show DL.toArray.all (·.oneCell') = true by rw [hDL]; exact all_oneCell_toArray (binC_cell _ _ _ _))
  have HDb := Lib.hid (show Try.prog.built 31 [] = some DL.toArray by rw [hDL]; exact bin_built0)
  have H0 := Lib.hid hR1
  have HW1 := Lib.hid hW1
  clear hW1 h hDL hR1
  rcases hd with h1 | ⟨h1, h2⟩
  all_goals
    go_enter Try.func8, Try.ntmps8
    go_upto_region 1 with fail
    change Code.wp _ _ _ _ (w.alloc (.cells binZ.toArray 31))
    rw [← HW1.out]
    clear HW1
    go_wp2_with (first
      | (refine wpList_builtD rfl _ _ rfl [] rfl DL.toArray HDb.out ?_)
      | (refine wpList_store_row rfl _ _ _ rfl w.heap.size DL.toArray rfl rfl 31 binZ.toArray H0.out HDLi.out HDLs.out HDL1.out ?_))
    have hset := Arr.setRow H0.out DL
    have hfin : Below w.heap.size w (W1.setRow w.heap.size DL.toArray) := hb1.trans (((Only.refl (fun k => k = w.heap.size) W1).setRow (.inl rfl) DL.toArray).below hb1.size (by rintro k rfl; exact Nat.le_refl _))
    obtain ⟨V, hV⟩ : ∃ V, V = Value.tuple #[.agg DL.toArray, .int .i64 1] := ⟨_, rfl⟩
    refine bodyPost_ret (v := V) ?_ rfl ⟨by rw [hV], hfin⟩
    rw [hV]
    exact results_cell2 (fn := Try.f8) (by rfl) _ _ w.heap.size 31 DL.toArray (0, 0) _ (by rfl) _ (by rfl) hset Try.underlying31 rfl HDLi.out

set_option maxHeartbeats 8000000 in
set_option maxRecDepth 100000 in
theorem nwrite_range (k gs n : Nat) (a number : Int) (m c : Nat) (X : Option Addr) (DL : List Value) (w : World) (hc0 : w.cell? ⟨k, 0, none⟩ = some (.slice (some ⟨gs, 0, none⟩) n n)) (hkl : k < w.heap.size) (hn : n ≤ 65536) (h0 : 0 ≤ number) (hm : 1 ≤ m) (ha : a ≤ 9223372036854775807) (h : a < 0 ∨ (n : Int) - a < m) (hDL : DL = binZ) :
    Calls Try.prog 8 #[.pointer (some ⟨k, 0, none⟩), .int .i64 number, .int .i64 a, .slice X m c] w fun e w' => e = .returned (.tuple #[.agg DL.toArray, .int .i64 2]) ∧ Below w.heap.size w w' := by
  have hd0 : decide (number < (0 : Int)) = false := by simp; exact h0
  have hd1 : ((m : Int) == (0 : Int)) = false := by rw [beq_eq_false_iff_ne]; omega
  have hd2 : decide (0 ≤ a ∧ (m : Int) ≤ n - a) = false := by simp; omega
  obtain ⟨W1, hW1⟩ : ∃ x, x = w.alloc (.cells binZ.toArray 31) := ⟨_, rfl⟩
  have hR1 : Arr W1 w.heap.size 31 binZ := by rw [hW1]; exact Arr.new w _ _
  have hb1 : Below w.heap.size w W1 := by rw [hW1]; exact (Below.refl _ w).alloc (Nat.le_refl _) _
  have hc1 := (hb1.cell (p := ⟨k, 0, none⟩) hkl).trans hc0
  have hDl : DL.length = 35 := by rw [hDL]; rfl
  have HDLi := Lib.hid (show (Try.prog.info? 31).map (·.size) = some DL.toArray.size by rw [List.size_toArray, hDl]; exact binSize)
  have HDLn := Lib.hid (show (Try.prog.info? 31).map (·.size) = some DL.length by rw [hDl]; exact binSize)
  have HDLs := Lib.hid (show binZ.toArray.size = DL.toArray.size by rw [List.size_toArray, List.size_toArray, hDl]; rfl)
  have HDL1 := Lib.hid (show DL.toArray.all (·.oneCell') = true by rw [hDL]; exact all_oneCell_toArray (binC_cell _ _ _ _))
  have HDb := Lib.hid (show Try.prog.built 31 [] = some DL.toArray by rw [hDL]; exact bin_built0)
  have H0 := Lib.hid hR1
  have HW1 := Lib.hid hW1
  clear hW1 h hDL hR1
  go_enter Try.func8, Try.ntmps8
  go_upto_region 1 with fail
  change Code.wp _ _ _ _ (w.alloc (.cells binZ.toArray 31))
  rw [← HW1.out]
  clear HW1
  go_wp2_with fail
  refine Calls.mono (nthere_is k gs n a m false W1 hc1 hn ha hd2) ?_
  rintro e w2 ⟨rfl, rfl⟩
  go_wp2_with (first
    | (refine wpList_builtD rfl _ _ rfl [] rfl DL.toArray HDb.out ?_)
    | (refine wpList_store_row rfl _ _ _ rfl w.heap.size DL.toArray rfl rfl 31 binZ.toArray H0.out HDLi.out HDLs.out HDL1.out ?_))
  have hset := Arr.setRow H0.out DL
  have hfin : Below w.heap.size w (w2.setRow w.heap.size DL.toArray) := hb1.trans (((Only.refl (fun k => k = w.heap.size) w2).setRow (.inl rfl) DL.toArray).below hb1.size (by rintro k rfl; exact Nat.le_refl _))
  obtain ⟨V, hV⟩ : ∃ V, V = Value.tuple #[.agg DL.toArray, .int .i64 2] := ⟨_, rfl⟩
  refine bodyPost_ret (v := V) ?_ rfl ⟨by rw [hV], hfin⟩
  rw [hV]
  exact results_cell2 (fn := Try.f8) (by rfl) _ _ w.heap.size 31 DL.toArray (0, 0) _ (by rfl) _ (by rfl) hset Try.underlying31 rfl HDLi.out


end Go.Proofs.Ytccccpadnaocfaa

namespace Go.Proofs.Ytccccpadnaocfaa
open Go.RowKit
set_option linter.unusedVariables false
set_option linter.unusedSimpArgs false

theorem wpList_load_mid_if {P : Program} {ops : Array Oper} {rest : List Oper} {o : Oper} {a : Act} {w : World} {Q : Exit → Act → World → Prop} (hw : Region.wanted o (yielded ops a.tmps) = true) (ty : TypeId) (x : Operand) (ho : o.op = .load ty x)
    (b off : Nat) (hx : a.eval x = .pointer (some ⟨b, off, none⟩)) (cs : List Value) (d : TypeDesc) (hc : w.rangeAt b off cs)
    (hu : P.underlying ty = some d) (hd : d.isRow = true) (hi : (P.info? ty).map (·.size) = some cs.length)
    (h : wpList P ops Q rest (a.put o.dst (.agg cs.toArray)) w) : wpList P ops Q (o :: rest) a w :=
  wpList_step fun K hK => by
    rw [if_pos hw]
    exact wp_load_mid ty x ho b off hx cs d hc hu hd hi (hK _ _ h)
theorem wpList_built_if {P : Program} {ops : Array Oper} {rest : List Oper} {o : Oper} {a : Act} {w : World} {Q : Exit → Act → World → Prop} (hw : Region.wanted o (yielded ops a.tmps) = true) (t : TypeId) (parts : Array (Nat × Operand)) (ho : o.op = .build t parts)
    (ps : List (Nat × Value)) (hp : parts.toList.map (fun x => (x.1, a.eval x.2)) = ps) (cells : Array Value) (hf : P.built t ps = some cells)
    (h : wpList P ops Q rest (a.put o.dst (.agg cells)) w) : wpList P ops Q (o :: rest) a w :=
  wpList_step fun K hK => by
    rw [if_pos hw]
    unfold Oper.wp execOp
    simp only [ho, Sem.run_bind, run_build w t _ cells (show P.built t (parts.map fun (i, x) => (i, a.eval x)).toList = some cells by rw [← hf, ← hp]; simp), Result.andThen_ok, Sem.run_pure]
    exact hK _ _ h

theorem Only.upN {F : Nat → Prop} {B : Nat} {w0 w w' : World} (h : Below B w0 w) (hO : Only F w w') (hF : ∀ b, F b → B ≤ b) (hB : B ≤ w0.heap.size) : Below B w0 w' := h.trans (hO.below (Nat.le_trans hB h.size) hF)
def sp9N : List (List UInt8) := List.replicate 9 zero64
def blk1 : List UInt8 := 1 :: List.replicate 47 0
def blk2 : List UInt8 := 2 :: List.replicate 47 0
theorem blk1_built : Try.prog.built 40 [(0, .int .u8 1)] = some (Lib.byteCells blk1).toArray := by kernel_rfl
theorem blk2_built : Try.prog.built 40 [(0, .int .u8 2)] = some (Lib.byteCells blk2).toArray := by kernel_rfl
theorem blk12_48 : ∀ s ∈ [blk1, blk2], s.length = 48 := by
  intro s hs
  simp only [List.mem_cons, List.not_mem_nil, or_false] at hs
  rcases hs with rfl | rfl <;> rfl
theorem fill_blk2 (X Y : List Value) (hX : X.length = 48) (hY : Y.length = 48) (cells : Array Value) (hc : cells.size = 96) : Instr.fill (fun i => some (i * 48, 48)) cells [(0, .agg X.toArray), (1, .agg Y.toArray)] = some (X ++ Y).toArray := by
  have h1 := fill_mid (fun i => some (i * 48, 48)) cells 0 0 X (by rw [hX]) (by rw [hX, hc]; omega)
  rw [fill_consN _ _ _ _ _ h1]
  have hd : (cells.toList.drop (0 + X.length)).length = 48 := by rw [List.length_drop, hX]; simp [hc]
  have h2 := fill_mid (fun i => some (i * 48, 48)) (cells.toList.take 0 ++ (X ++ cells.toList.drop (0 + X.length))).toArray 1 48 Y (by rw [hY]) (by rw [hY, List.size_toArray, List.length_append, List.length_append, hd, hX]; simp)
  rw [h2]
  congr 1
  apply congrArg List.toArray
  simp only [List.take_zero, List.nil_append]
  rw [show (48 : Nat) = X.length from hX.symm, List.take_left, hY, ← hX, List.drop_append, List.drop_of_length_le (by omega : X.length ≤ X.length + X.length)]
  rw [List.nil_append, List.drop_of_length_le (by rw [hd]; omega), List.append_nil]
theorem blkInfoS : (Try.prog.info? 40).map (fun i => (i.zero, i.size, i.bytes)) = some (some (.agg (Lib.byteCells z48).toArray), 48, 48) := by kernel_rfl
/-- '[]api.Block{x, y}'. -/
theorem wpList_build_blks {ops : Array Oper} {rest : List Oper} {o : Oper} {a : Act} {w : World} {Q : Exit → Act → World → Prop} (hg : o.guard = none) (x y : Operand) (ho : o.op = .buildSlice 22 2 #[(0, x), (1, y)]) (X Y : List Value) (hX : X.length = 48) (hY : Y.length = 48) (hx : a.eval x = .agg X.toArray) (hy : a.eval y = .agg Y.toArray)
    (h : wpList Try.prog ops Q rest (a.put o.dst (.slice (some ⟨w.heap.size, 0, none⟩) 2 2)) (w.alloc (.cells (X ++ Y).toArray 40))) : wpList Try.prog ops Q (o :: rest) a w := by
  refine wpList_plain hg fun K hK => ?_
  obtain ⟨i0, hi, hz0, hz1, hz2⟩ := info_parts blkInfoS
  refine wp_buildSlice 22 40 2 #[(0, x), (1, y)] ho (X ++ Y).toArray i0 _ Try.underlying22 hi hz0 (by rw [hz1]; decide) (by rw [hz1]; decide) ?_ (hK _ _ h)
  rw [hz1]
  simp only [List.map_toArray, List.map_cons, List.map_nil, hx, hy]
  exact fill_blk2 X Y hX hY _ (by simp)

set_option maxHeartbeats 16000000 in
set_option maxRecDepth 100000 in
theorem nspeaks_true (w : World) : Calls Try.prog 6 #[] w fun e w' => e = .returned (.bool true) ∧ Below w.heap.size w w' := by
  obtain ⟨XL, hXL⟩ : ∃ X, X = Lib.byteCells blk1 := ⟨_, rfl⟩
  obtain ⟨YL, hYL⟩ : ∃ X, X = Lib.byteCells blk2 := ⟨_, rfl⟩
  have hXl : XL.length = 48 := by rw [hXL]; rfl
  have hYl : YL.length = 48 := by rw [hYL]; rfl
  have HXb := Lib.hid (show Try.prog.built 40 [(0, .int .u8 1)] = some XL.toArray by rw [hXL]; exact blk1_built)
  have HYb := Lib.hid (show Try.prog.built 40 [(0, .int .u8 2)] = some YL.toArray by rw [hYL]; exact blk2_built)
  have HXY := Lib.hid (show XL ++ YL = blkC [blk1, blk2] by rw [hXL, hYL]; simp [blkC])
  have HYn := Lib.hid (show (Try.prog.info? 40).map (·.size) = some YL.length by rw [hYl]; exact blkInfo)
  have hcmp : ∀ w, (Op.equalIn 10000 40 (.agg YL.toArray) (.agg YL.toArray)).run Try.prog w = .ok true w := fun w => by
    rw [eqv_at Try.underlying40 blk2 blk2 rfl rfl YL YL hYL hYL w]
    simp
  obtain ⟨DL, hDL⟩ : ∃ x, x = binC (1 : Nat) (2 : Nat) (2 : Nat) (rootF [blk1, blk2]) := ⟨_, rfl⟩
  have hDl : DL.length = 35 := by rw [hDL]; exact binC_length _ _ _ (rootF_length _)
  have HDLi := Lib.hid (show (Try.prog.info? 31).map (·.size) = some DL.toArray.size by rw [List.size_toArray, hDl]; exact binSize)
  have HDLn := Lib.hid (show (Try.prog.info? 31).map (·.size) = some DL.length by rw [hDl]; exact binSize)
  have HDLs := Lib.hid (show binZ.toArray.size = DL.toArray.size by rw [List.size_toArray, List.size_toArray, hDl]; rfl)
  have HDL1 := Lib.hid (show DL.toArray.all (·.oneCell') = true by rw [hDL]; exact all_oneCell_toArray (binC_cell _ _ _ _))
  have HYL := Lib.hid hYL
  have HDL := Lib.hid hDL
  have hgt := gtBN
  clear hXL hYL hDL
  go_enter Try.func6, Try.ntmps6
  go_wp2_with fail
  go_at_call 7
  refine Calls.mono (show Calls Try.prog 7 #[.int .i64 9] w (NewPost 9 w) from new_yes 9 w (by omega) (by omega)) ?_
  rintro e w2 ⟨k, rfl, hD2, hb2⟩
  have hF2 : ∀ b, newF (fun _ => False) w w2 b → w.heap.size ≤ b := fun b h => h.elim (fun h => h.elim) (fun h => h.1)
  go_wp2_with (first
    | (refine wpList_builtD rfl _ _ rfl [(0, .int .u8 1)] rfl XL.toArray HXb.out ?_)
    | (refine wpList_builtD rfl _ _ rfl [(0, .int .u8 2)] rfl YL.toArray HYb.out ?_)
    | (refine wpList_build_blks rfl _ _ rfl XL YL hXl hYl rfl rfl ?_))
  obtain ⟨w3, hw3⟩ : ∃ x, x = w2.alloc (.cells (XL ++ YL).toArray 40) := ⟨_, rfl⟩
  have hA3 : Arr w3 w2.heap.size 40 (blkC [blk1, blk2]) := by rw [hw3, HXY.out]; exact Arr.new w2 _ _
  have hb3 : Below w2.heap.size w2 w3 := by rw [hw3]; exact (Below.refl _ w2).alloc (Nat.le_refl _) _
  have hD3 := hD2.below hb3
  have hB3 := hb2.trans (hb3.mono hb2.size)
  rw [← hw3]
  have hFn : ¬ newF (fun _ => False) w w2 w2.heap.size := fun h => h.elim (fun h => h) (fun h => Nat.lt_irrefl _ h.2)
  clear hw3
  refine Calls.mono (nwrite_yes _ k 9 2 1 (List.replicate 9 zero64) _ [] [blk1, blk2] DL w2.heap.size 0 2 2 w3 hD3 rfl (by omega) (Nat.le_refl _) (by omega) blk12_48 hA3.lt (fun i hi => by
    obtain ⟨b, off, e, _, hr⟩ := hA3.blks blk12_48 (by simp)
    injection e with e
    injection e with e1 e2
    subst e1 e2
    exact hr i hi) hFn (by omega) (by simp) (by omega) HDL.out) ?_
  rintro e w4 ⟨rfl, F4, hD4, hF4, hO4⟩
  have hB4 := Only.upN hB3 hO4 hF2 (Nat.le_refl _)
  obtain ⟨gs, hS4⟩ := hD4.seenN
  clear hD2 hD3 hD4 hA3 hb2 hb3 hO4 hF4 hF2 hFn
  go_wp2_with (first
    | (change wpList _ _ _ _ _ (w4.alloc (.cells binZ.toArray 31)); refine wpList_store_row rfl _ _ _ rfl w4.heap.size DL.toArray rfl rfl 31 binZ.toArray (heap_alloc_new w4 _) HDLi.out HDLs.out HDL1.out ?_; obtain ⟨w5, hw5⟩ : ∃ x, x = (w4.alloc (.cells binZ.toArray 31)).setRow w4.heap.size DL.toArray := ⟨_, rfl⟩; rw [← hw5]; obtain ⟨hP5, hb5⟩ := alloc_rowD w4 31 binZ.toArray DL; rw [← hw5] at hP5 hb5; clear hw5)
    | (refine wpList_load_row rfl _ _ rfl w4.heap.size rfl 31 DL.toArray (0, 0) _ hP5 Try.underlying31 rfl HDLi.out ?_))
  have hS5 := hS4.below hb5
  have hB5 := hB4.trans (hb5.mono hB4.size)
  clear hS4 hB4 hb5 hB3
  have hst : standsF (putB (List.replicate 9 zero64) 2 [blk1, blk2] 2) 2 2 = [blk1, blk2] := stands_put (bs := [blk1, blk2]) blk12_48 (by simp)
  refine Calls.mono (nall_at k gs 9 _ 1 2 2 (rootF [blk1, blk2]) DL true w5 hS5 (rootF_length _) HDL.out (by omega) (by omega) (by rw [hst]; simp)) ?_
  rintro e w6 ⟨h6, _, hb6⟩
  obtain ⟨g, rfl, hG6, hg6⟩ := h6 (by first | rfl | trivial)
  rw [hst] at hG6
  have hB6 := hB5.trans (hb6.mono hB5.size)
  have hY6 : w6.rangeAt g 48 YL := fun j v hj => by
    rw [HYL.out] at hj
    rw [hG6.cell]
    exact blkC_at blk12_48 (i := 1) (by simp) j v hj
  clear hS5 hP5 h6 hb6 hB5 hst hG6 hg6
  go_wp2_with (first
    | (refine wpList_load_mid_if (by rfl) _ _ rfl g 48 rfl YL _ hY6 Try.underlying40 rfl HYn.out ?_)
    | (refine wpList_built_if (by rfl) _ _ rfl [(0, .int .u8 2)] rfl YL.toArray HYb.out ?_))
  go_ret
  exact ⟨rfl, hB6⟩


end Go.Proofs.Ytccccpadnaocfaa

namespace Go.Proofs.Ytccccpadnaocfaa
open Go.RowKit
set_option linter.unusedVariables false
set_option linter.unusedSimpArgs false

set_option maxHeartbeats 8000000 in
set_option maxRecDepth 100000 in
theorem bw_great (z number a : Int) (A : Option Addr) (n c : Nat) (w : World) (h : z < 1 ∨ 100 < z ∨ 60 < n) :
    Calls Try.prog 3 #[.int .i64 z, .int .i64 number, .int .i64 a, .slice A n c] w fun e w' => e = .returned (.bool true) ∧ Below w.heap.size w w' := by
  have hd : decide (z < (1 : Int)) = true ∨ (decide (z < (1 : Int)) = false ∧ decide ((100 : Int) < z) = true) ∨ (decide (z < (1 : Int)) = false ∧ decide ((100 : Int) < z) = false ∧ decide ((60 : Int) < (n : Int)) = true) := by
    simp only [decide_eq_true_eq, decide_eq_false_iff_not]
    omega
  clear h
  rcases hd with h1 | ⟨h1, h2⟩ | ⟨h1, h2, h3⟩
  all_goals
    go_enter Try.func3, Try.ntmps3
    go_wp2_with fail
    refine Calls.mono (nspeaks_true w) ?_
    rintro e w1 ⟨rfl, hB1⟩
    go_wp2_with fail
    go_ret
    exact ⟨rfl, hB1⟩

set_option maxHeartbeats 16000000 in
set_option maxRecDepth 100000 in
theorem bw_arg (m : Nat) (number a : Int) (A : Option Addr) (n c : Nat) (w : World) (hm1 : 1 ≤ m) (hm2 : m ≤ 100) (hn6 : n ≤ 60) (h : number < 0 ∨ n = 0) :
    Calls Try.prog 3 #[.int .i64 (m : Nat), .int .i64 number, .int .i64 a, .slice A n c] w fun e w' => e = .returned (.bool true) ∧ Below w.heap.size w w' := by
  have hd1 : decide ((m : Int) < (1 : Int)) = false := by simp; omega
  have hd2 : decide ((100 : Int) < (m : Int)) = false := by simp; omega
  have hd3 : decide ((60 : Int) < (n : Int)) = false := by simp; omega
  have hd : decide (number < (0 : Int)) = true ∨ (decide (number < (0 : Int)) = false ∧ ((n : Int) == (0 : Int)) = true) := by
    rw [decide_eq_true_eq, decide_eq_false_iff_not, beq_iff_eq]; omega
  obtain ⟨DL, hDL⟩ : ∃ x, x = binZ := ⟨_, rfl⟩
  have hDl : DL.length = 35 := by rw [hDL]; rfl
  have HDLi := Lib.hid (show (Try.prog.info? 31).map (·.size) = some DL.toArray.size by rw [List.size_toArray, hDl]; exact binSize)
  have HDLn := Lib.hid (show (Try.prog.info? 31).map (·.size) = some DL.length by rw [hDl]; exact binSize)
  have HDLs := Lib.hid (show binZ.toArray.size = DL.toArray.size by rw [List.size_toArray, List.size_toArray, hDl]; rfl)
  have HDL1 := Lib.hid (show DL.toArray.all (·.oneCell') = true by rw [hDL]; exact all_oneCell_toArray (binC_cell _ _ _ _))
  have HDb := Lib.hid (show Try.prog.built 31 [] = some DL.toArray by rw [hDL]; exact bin_built0)
  have hcmpN : ∀ w, (Op.equalIn 10000 31 (.agg DL.toArray) (.agg DL.toArray)).run Try.prog w = .ok true w := fun w => bin_refl (List.replicate 32 0) (by simp) 0 0 0 DL hDL w
  have hgtN := gtNN
  have HDL := Lib.hid hDL
  clear hDL
  go_enter Try.func3, Try.ntmps3
  go_wp2_with fail
  refine Calls.mono (nspeaks_true w) ?_
  rintro e w1 ⟨rfl, hB1⟩
  go_wp2_with fail
  go_at_call 7
  refine Calls.mono (show Calls Try.prog 7 #[.int .i64 (m : Nat)] w1 (NewPost m w1) from new_yes m w1 hm1 (by omega)) ?_
  rintro e w2 ⟨k, rfl, hD2, hb2⟩
  have hB2 := hB1.trans (hb2.mono hB1.size)
  have hF2 : ∀ b, newF (fun _ => False) w1 w2 b → w.heap.size ≤ b := fun b h => h.elim (fun h => h.elim) (fun h => Nat.le_trans hB1.size h.1)
  clear hb2 hB1
  go_wp2_with fail
  refine Calls.mono (nwrite_arg _ a number n c A DL w2 h HDL.out) ?_
  rintro e w3 ⟨rfl, hb3⟩
  have hD3 := hD2.below hb3
  have hB3 := hB2.trans (hb3.mono hB2.size)
  clear hD2 hb3 hB2
  go_wp2_with (first
    | (change wpList _ _ _ _ _ (w3.alloc (.cells binZ.toArray 31)); refine wpList_store_row rfl _ _ _ rfl w3.heap.size DL.toArray rfl rfl 31 binZ.toArray (heap_alloc_new w3 _) HDLi.out HDLs.out HDL1.out ?_; obtain ⟨w4, hw4⟩ : ∃ x, x = (w3.alloc (.cells binZ.toArray 31)).setRow w3.heap.size DL.toArray := ⟨_, rfl⟩; rw [← hw4]; obtain ⟨hP4, hb4⟩ := alloc_rowD w3 31 binZ.toArray DL; rw [← hw4] at hP4 hb4; clear hw4))
  have hD4 := hD3.below hb4
  have hB4 := hB3.trans (hb4.mono hB3.size)
  clear hD3 hb4 hB3
  refine Calls.mono hD4.image ?_
  rintro e w5 ⟨ga, ca, rfl, _, _, _, _, _, hb5⟩
  have hP5 := (hP4.below hb5 hP4.lt).rangeN
  have hB5 := hB4.trans (hb5.mono hB4.size)
  clear hP4 hB4 hb5 hD4
  clear h
  rcases hd with h1 | ⟨h1, h2⟩
  all_goals
    go_wp2_with (first
      | (refine wpList_load_mid_if (by rfl) _ _ rfl w3.heap.size 0 rfl DL _ hP5 Try.underlying31 rfl HDLn.out ?_)
      | (refine wpList_built_if (by rfl) _ _ rfl [] rfl DL.toArray HDb.out ?_))
    go_ret
    exact ⟨rfl, hB5⟩

set_option maxHeartbeats 16000000 in
set_option maxRecDepth 100000 in
theorem bw_range (m : Nat) (number a : Int) (A : Option Addr) (n c : Nat) (w : World) (hm1 : 1 ≤ m) (hm2 : m ≤ 100) (hn6 : n ≤ 60) (h0 : 0 ≤ number) (h1 : 1 ≤ n) (ha0 : -9223372036854775808 ≤ a) (ha1 : a ≤ 9223372036854775807) (h : a < 0 ∨ (m : Int) ≤ a ∨ (m : Int) - a < n) :
    Calls Try.prog 3 #[.int .i64 (m : Nat), .int .i64 number, .int .i64 a, .slice A n c] w fun e w' => e = .returned (.bool true) ∧ Below w.heap.size w w' := by
  have hd1 : decide ((m : Int) < (1 : Int)) = false := by simp; omega
  have hd2 : decide ((100 : Int) < (m : Int)) = false := by simp; omega
  have hd3 : decide ((60 : Int) < (n : Int)) = false := by simp; omega
  have hd : decide (a < (0 : Int)) = true ∨ (decide (a < (0 : Int)) = false ∧ decide ((m : Int) ≤ a) = true) ∨ (decide (a < (0 : Int)) = false ∧ decide ((m : Int) ≤ a) = false ∧ decide ((m : Int) - a < (n : Int)) = true ∧ -9223372036854775808 ≤ (m : Int) - a ∧ (m : Int) - a ≤ 9223372036854775807) := by
    simp only [decide_eq_true_eq, decide_eq_false_iff_not]; omega
  have hq1 : decide (number < (0 : Int)) = false := by simp; exact h0
  have hq2 : ((n : Int) == (0 : Int)) = false := by rw [beq_eq_false_iff_ne]; omega
  obtain ⟨DL, hDL⟩ : ∃ x, x = binZ := ⟨_, rfl⟩
  have hDl : DL.length = 35 := by rw [hDL]; rfl
  have HDLi := Lib.hid (show (Try.prog.info? 31).map (·.size) = some DL.toArray.size by rw [List.size_toArray, hDl]; exact binSize)
  have HDLn := Lib.hid (show (Try.prog.info? 31).map (·.size) = some DL.length by rw [hDl]; exact binSize)
  have HDLs := Lib.hid (show binZ.toArray.size = DL.toArray.size by rw [List.size_toArray, List.size_toArray, hDl]; rfl)
  have HDL1 := Lib.hid (show DL.toArray.all (·.oneCell') = true by rw [hDL]; exact all_oneCell_toArray (binC_cell _ _ _ _))
  have HDb := Lib.hid (show Try.prog.built 31 [] = some DL.toArray by rw [hDL]; exact bin_built0)
  have hcmpN : ∀ w, (Op.equalIn 10000 31 (.agg DL.toArray) (.agg DL.toArray)).run Try.prog w = .ok true w := fun w => bin_refl (List.replicate 32 0) (by simp) 0 0 0 DL hDL w
  have hgtN := gtNN
  have HDL := Lib.hid hDL
  clear hDL
  go_enter Try.func3, Try.ntmps3
  go_wp2_with fail
  refine Calls.mono (nspeaks_true w) ?_
  rintro e w1 ⟨rfl, hB1⟩
  go_wp2_with fail
  go_at_call 7
  refine Calls.mono (show Calls Try.prog 7 #[.int .i64 (m : Nat)] w1 (NewPost m w1) from new_yes m w1 hm1 (by omega)) ?_
  rintro e w2 ⟨k, rfl, hD2, hb2⟩
  have hB2 := hB1.trans (hb2.mono hB1.size)
  have hF2 : ∀ b, newF (fun _ => False) w1 w2 b → w.heap.size ≤ b := fun b h => h.elim (fun h => h.elim) (fun h => Nat.le_trans hB1.size h.1)
  clear hb2 hB1
  go_wp2_with fail
  obtain ⟨gs, hs2⟩ := hD2.seenN
  refine Calls.mono (nwrite_range k gs m a number n c A DL w2 hs2.c0 hs2.klt hs2.n2 h0 h1 ha1 (by omega) HDL.out) ?_
  clear hs2
  rintro e w3 ⟨rfl, hb3⟩
  have hD3 := hD2.below hb3
  have hB3 := hB2.trans (hb3.mono hB2.size)
  clear hD2 hb3 hB2
  go_wp2_with (first
    | (change wpList _ _ _ _ _ (w3.alloc (.cells binZ.toArray 31)); refine wpList_store_row rfl _ _ _ rfl w3.heap.size DL.toArray rfl rfl 31 binZ.toArray (heap_alloc_new w3 _) HDLi.out HDLs.out HDL1.out ?_; obtain ⟨w4, hw4⟩ : ∃ x, x = (w3.alloc (.cells binZ.toArray 31)).setRow w3.heap.size DL.toArray := ⟨_, rfl⟩; rw [← hw4]; obtain ⟨hP4, hb4⟩ := alloc_rowD w3 31 binZ.toArray DL; rw [← hw4] at hP4 hb4; clear hw4))
  have hD4 := hD3.below hb4
  have hB4 := hB3.trans (hb4.mono hB3.size)
  clear hD3 hb4 hB3
  refine Calls.mono hD4.image ?_
  rintro e w5 ⟨ga, ca, rfl, _, _, _, _, _, hb5⟩
  have hP5 := (hP4.below hb5 hP4.lt).rangeN
  have hB5 := hB4.trans (hb5.mono hB4.size)
  clear hP4 hB4 hb5 hD4
  clear h
  rcases hd with h1 | ⟨h1, h2⟩ | ⟨h1, h2, h3, h4, h5⟩
  all_goals
    go_wp2_with (first
      | (refine wpList_load_mid_if (by rfl) _ _ rfl w3.heap.size 0 rfl DL _ hP5 Try.underlying31 rfl HDLn.out ?_)
      | (refine wpList_built_if (by rfl) _ _ rfl [] rfl DL.toArray HDb.out ?_))
    go_ret
    exact ⟨rfl, hB5⟩


end Go.Proofs.Ytccccpadnaocfaa

namespace Go.Proofs.Ytccccpadnaocfaa
open Go.RowKit
set_option linter.unusedVariables false
set_option linter.unusedSimpArgs false

theorem secN_range {w : World} {g : Nat} {S : List (List UInt8)} (h : w.rangeAt g 0 (secC S)) (h64 : ∀ s ∈ S, s.length = 64) {i : Nat} (hi : i < S.length) : w.rangeAt g (i * 64) (Lib.byteCells (S.getD i [])) := fun j v hj => by
  have := h (i * 64 + j) v (secC_at h64 hi j v hj)
  rwa [Nat.zero_add] at this
theorem secN_eqv (X : List UInt8) (hX : X.length = 64) (XL : List Value) (hXL : XL = Lib.byteCells X) (w : World) : (Op.equalIn 10000 37 (.agg XL.toArray) (.agg XL.toArray)).run Try.prog w = .ok true w := by
  rw [sec_eqv X X hX hX XL XL hXL hXL w]; simp

set_option maxHeartbeats 32000000 in
set_option maxRecDepth 100000 in
theorem bw_good (m number a b off n c : Nat) (bs : List (List UInt8)) (w : World) (hm1 : 1 ≤ m) (hm2 : m ≤ 100) (hn6 : n ≤ 60) (hnum : number ≤ 9223372036854775807) (hn1 : 1 ≤ n) (ha : a + n ≤ m) (hbl : bs.length = n) (hnc : n ≤ c) (hcm : c ≤ 9223372036854775807) (h48 : ∀ s ∈ bs, s.length = 48) (hb : b < w.heap.size)
    (hr : ∀ i, i < n → w.rangeAt b (off + i * 48) (Lib.byteCells (bs.getD i []))) :
    Calls Try.prog 3 #[.int .i64 (m : Nat), .int .i64 (number : Nat), .int .i64 (a : Nat), .slice (some ⟨b, off, none⟩) n c] w fun e w' => e = .returned (.bool true) ∧ Below w.heap.size w w' := by
  have hd1 : decide ((m : Int) < (1 : Int)) = false := by simp; omega
  have hd2 : decide ((100 : Int) < (m : Int)) = false := by simp; omega
  have hd3 : decide ((60 : Int) < (n : Int)) = false := by simp; omega
  have hq1 : decide ((number : Int) < (0 : Int)) = false := by simp
  have hq2 : ((n : Int) == (0 : Int)) = false := by rw [beq_eq_false_iff_ne]; omega
  have hq3 : decide ((a : Int) < (0 : Int)) = false := by simp
  have hq4 : decide ((m : Int) ≤ (a : Int)) = false := by simp; omega
  have hq4n : decide (m ≤ a) = false := by simp; omega
  have hq5 : decide ((m : Int) - (a : Int) < (n : Int)) = false := by simp; omega
  have Hr := Lib.hid (show ∀ w', Below w.heap.size w w' → ∀ i, i < n → w'.rangeAt b (off + i * 48) (Lib.byteCells (bs.getD i [])) from fun w' hw' i hi j v hj => (hw'.cell (p := ⟨b, _, none⟩) hb).trans (hr i hi j v hj))
  obtain ⟨DL, hDL⟩ : ∃ x, x = binC (number : Nat) (a : Nat) (n : Nat) (rootF bs) := ⟨_, rfl⟩
  have hDl : DL.length = 35 := by rw [hDL]; exact binC_length _ _ _ (rootF_length _)
  have HDLi := Lib.hid (show (Try.prog.info? 31).map (·.size) = some DL.toArray.size by rw [List.size_toArray, hDl]; exact binSize)
  have HDLn := Lib.hid (show (Try.prog.info? 31).map (·.size) = some DL.length by rw [hDl]; exact binSize)
  have HDLs := Lib.hid (show binZ.toArray.size = DL.toArray.size by rw [List.size_toArray, List.size_toArray, hDl]; rfl)
  have HDL1 := Lib.hid (show DL.toArray.all (·.oneCell') = true by rw [hDL]; exact all_oneCell_toArray (binC_cell _ _ _ _))
  have hcmpN : ∀ w, (Op.equalIn 10000 31 (.agg DL.toArray) (.agg DL.toArray)).run Try.prog w = .ok true w := fun w => bin_refl (rootF bs) (rootF_length _) _ _ _ DL hDL w
  have hgtN := gtNN
  have hgtB := gtBN
  have hgtD := gtDN
  have hgtS := gtS
  obtain ⟨RL, hRL⟩ : ∃ RL, RL = Lib.byteCells (rootF bs) := ⟨_, rfl⟩
  have HDbR := Lib.hid (show Try.prog.built 31 [(0, .int .i64 (number : Nat)), (1, .int .i64 (a : Nat)), (2, .int .i64 (n : Nat)), (3, .agg RL.toArray)] = some DL.toArray by rw [hDL]; exact bin_built number a n (rootF bs) RL hRL (rootF_length bs))
  have HRL := Lib.hid hRL
  have HDL := Lib.hid hDL
  have Hbl := Lib.hid hbl
  have H48 := Lib.hid h48
  obtain ⟨B, hBe⟩ : ∃ B, B = w.heap.size := ⟨_, rfl⟩
  have hbB : b < B := by omega
  clear hDL hRL hr hbl
  go_enter Try.func3, Try.ntmps3
  go_wp2_with fail
  refine Calls.mono (nspeaks_true w) ?_
  rintro e w1 ⟨rfl, hB1⟩
  go_wp2_with fail
  go_at_call 7
  refine Calls.mono (show Calls Try.prog 7 #[.int .i64 (m : Nat)] w1 (NewPost m w1) from new_yes m w1 hm1 (by omega)) ?_
  rintro e w2 ⟨k, rfl, hD2, hb2⟩
  have hB2 := hB1.trans (hb2.mono hB1.size)
  have hF2 : ∀ b, newF (fun _ => False) w1 w2 b → w.heap.size ≤ b := fun b h => h.elim (fun h => h.elim) (fun h => Nat.le_trans hB1.size h.1)
  clear hb2 hB1
  go_wp2_with fail
  refine Calls.mono (nwrite_yes _ k m a number (List.replicate m zero64) _ [] bs DL b off n c w2 hD2 Hbl.out hn1 hnc hcm h48 (Nat.lt_of_lt_of_le hb hB2.size) (Hr.out w2 hB2) (fun h => by have := hF2 b h; omega) ha (by simp; omega) hnum HDL.out) ?_
  rintro e w3 ⟨rfl, F3, hD3, hF3, hO3⟩
  have hB3 := Only.upN hB2 hO3 hF2 (Nat.le_refl _)
  clear hD2 hF3 hO3 hB2 hF2 h48
  obtain ⟨T, hT⟩ : ∃ T, T = putB (List.replicate m zero64) a bs n := ⟨_, rfl⟩
  have HT := Lib.hid hT
  rw [← hT] at hD3
  clear hT
  have hTl : T.length = m := by rw [HT.out, putB_length, List.length_replicate]
  have hT64 : ∀ s ∈ T, s.length = 64 := by rw [HT.out]; exact putB_64 (fun s hs => by rw [(List.mem_replicate.1 hs).2]; rfl) H48.out (Nat.le_of_eq Hbl.out.symm)
  have HTin := Lib.hid (show ∀ j, j < n → T.getD (a + j) [] = laidB (bs.getD j []) from fun j hj => by rw [HT.out]; exact putB_at bs (by rw [List.length_replicate]; exact ha) hj)
  have HToff := Lib.hid (show ∀ i, i < m → i < a ∨ a + n ≤ i → T.getD i [] = zero64 from fun i hi h => by
    have h1 := putB_off (S := List.replicate m zero64) (a := a) bs (i := n) (j := i) h
    rw [HT.out]
    simp only [List.getD, h1]
    simp [List.getElem?_replicate, hi])
  have HTst := Lib.hid (show ∀ j, j < n → standF T (a + j) = bs.getD j [] from fun j hj => by
    unfold standF
    rw [HTin.out j hj]
    exact stand_laid (H48.out _ (by have := Hbl.out; simp [List.getD, show j < bs.length by omega])))
  have HTall := Lib.hid (show standsF T a n = bs from list_ext_getD (by rw [standsF_length, Hbl.out]) fun j hj => by
    rw [standsF_length] at hj
    rw [standsF_getD hj]
    exact HTst.out j hj)
  go_wp2_with (first
    | (change wpList _ _ _ _ _ (w3.alloc (.cells binZ.toArray 31)); refine wpList_store_row rfl _ _ _ rfl w3.heap.size DL.toArray rfl rfl 31 binZ.toArray (heap_alloc_new w3 _) HDLi.out HDLs.out HDL1.out ?_; obtain ⟨w4, hw4⟩ : ∃ x, x = (w3.alloc (.cells binZ.toArray 31)).setRow w3.heap.size DL.toArray := ⟨_, rfl⟩; rw [← hw4]; obtain ⟨hP4, hb4⟩ := alloc_rowD w3 31 binZ.toArray DL; rw [← hw4] at hP4 hb4; clear hw4))
  have hD4 := hD3.below hb4
  have hB4 := hB3.trans (hb4.mono hB3.size)
  clear hD3 hb4 hB3
  refine Calls.mono hD4.image ?_
  rintro e w5 ⟨ga, ca, rfl, hra, hga1, hga2, hca1, hca2, hb5⟩
  have hD5 := hD4.below hb5
  have hP5 := hP4.below hb5 hP4.lt
  have hB5 := hB4.trans (hb5.mono hB4.size)
  obtain ⟨gs, hS5⟩ := hD5.seenN
  have hBs5 : B ≤ w5.heap.size := by have := hB5.size; omega
  have hP5l := hP5.lt
  obtain ⟨gp, hgp⟩ : ∃ g, g = w3.heap.size := ⟨_, rfl⟩
  rw [← hgp] at hP5 hP5l ⊢
  clear hP4 hB4 hb5 hD4 hD5 hgp hga1
  go_wp2_with fail
  obtain ⟨N, hN⟩ : ∃ x, x = m := ⟨_, rfl⟩
  go_loopw [95] (fun x wr => ∃ i : Nat, i ≤ m ∧ x = .int .i64 i ∧ Below w5.heap.size w5 wr) (fun x _ => m - (intOf x).toNat)
  case atStart => exact ⟨0, Nat.zero_le _, rfl, Below.refl _ _⟩
  case round =>
    obtain ⟨i, hi, rfl, hbr⟩ := hrel
    obtain ⟨wq, hwq⟩ : ∃ x, x = wr := ⟨_, rfl⟩
    subst hwq
    by_cases hlt : i < m
    · have hd6 : decide ((i : Int) < (m : Int)) = true := by simp; exact hlt
      have hd6n : decide (i < m) = true := by simp; exact hlt
      have hiI : (i : Int) < (m : Int) := by omega
      have hraq : wq.rangeAt ga (i * 64) (Lib.byteCells (T.getD i [])) := rangeN_below (secN_range hra hT64 (by rw [hTl]; exact hlt)) hbr hga2
      have hX64 : (T.getD i []).length = 64 := hT64 _ (by simp [List.getD, show i < T.length by omega])
      have hBq : Below w.heap.size w wq := hB5.trans (hbr.mono hB5.size)
      obtain ⟨XL, hXL⟩ : ∃ l, l = Lib.byteCells (T.getD i []) := ⟨_, rfl⟩
      have hXl : XL.length = 64 := by rw [hXL, Lib.byteCells_length]; exact hX64
      rw [← hXL] at hraq
      obtain ⟨ZL, hZL⟩ : ∃ Z, Z = Lib.byteCells zero64 := ⟨_, rfl⟩
      have hZl : ZL.length = 64 := by rw [hZL, Lib.byteCells_length]; rfl
      have hXe := secN_eqv (T.getD i []) hX64 XL hXL
      have HXLi := Lib.hid (show (Try.prog.info? 37).map (·.size) = some XL.toArray.size by rw [List.size_toArray, hXl]; exact secInfo)
      have HXLn := Lib.hid (show (Try.prog.info? 37).map (·.size) = some XL.length by rw [hXl]; exact secInfo)
      have HXLs := Lib.hid (show (Lib.byteCells zero64).toArray.size = XL.toArray.size by rw [List.size_toArray, List.size_toArray, hXl]; rfl)
      have HXL1 := Lib.hid (show XL.toArray.all (·.oneCell') = true by rw [hXL]; exact sec_one _)
      have HZLi := Lib.hid (show (Try.prog.info? 37).map (·.size) = some ZL.toArray.size by rw [List.size_toArray, hZl]; exact secInfo)
      have HZLn := Lib.hid (show (Try.prog.info? 37).map (·.size) = some ZL.length by rw [hZl]; exact secInfo)
      have HZLs := Lib.hid (show (Lib.byteCells zero64).toArray.size = ZL.toArray.size by rw [List.size_toArray, List.size_toArray, hZl]; rfl)
      have HZL1 := Lib.hid (show ZL.toArray.all (·.oneCell') = true by rw [hZL]; exact sec_one _)
      have HZb := Lib.hid (show Try.prog.built 37 [] = some ZL.toArray by rw [hZL]; exact sec_built0)
      have HXZ := Lib.hid (show XL = Lib.byteCells (T.getD i []) from hXL)
      have HZL := Lib.hid hZL
      clear hXL hZL
      by_cases hin : a ≤ i ∧ i < a + n
      · obtain ⟨q, hq⟩ : ∃ q, i - a = q := ⟨_, rfl⟩
        have hqn : q < n := by omega
        have hqI : (i : Int) - (a : Int) = (q : Int) := by omega
        have hqq : (q : Int) < (n : Int) := by omega
        have hiq : i = a + q := by omega
        have hrq := Hr.out wq hBq q hqn
        have hy48 : (bs.getD q []).length = 48 := H48.out _ (by have := Hbl.out; simp [List.getD, show q < bs.length by omega])
        obtain ⟨YL, hYL⟩ : ∃ l, l = Lib.byteCells (bs.getD q []) := ⟨_, rfl⟩
        rw [← hYL] at hrq
        have HYn := Lib.hid (show (Try.prog.info? 40).map (·.size) = some YL.length by rw [hYL, Lib.byteCells_length, hy48]; exact blkInfo)
        have HYL := Lib.hid hYL
        have hXY : XL = Lib.byteCells (laidB (bs.getD q [])) := by rw [HXZ.out, hiq, HTin.out q hqn]
        have HXY := Lib.hid hXY
        have HZs2 := Lib.hid (show ZL.toArray.size = XL.toArray.size by rw [List.size_toArray, List.size_toArray, hXl, hZl])
        have e1 : decide ((a : Int) ≤ (i : Int)) = true := by simp; omega
        have e1n : decide (a ≤ i) = true := by simp; omega
        have e2 : decide ((i : Int) < (a : Int) + (n : Int)) = true := by simp; omega
        have hbwq : b < wq.heap.size := Nat.lt_of_lt_of_le hb hBq.size
        clear hq hYL hXY hiq
        go_wp2_with (first
          | (refine wpList_load_mid rfl _ _ rfl ga (i * 64) rfl XL _ hraq Try.underlying37 rfl HXLn.out ?_)
          | (change wpList _ _ _ _ _ (wq.alloc (.cells (Lib.byteCells zero64).toArray 37)); refine wpList_store_row rfl _ _ _ rfl wq.heap.size XL.toArray rfl rfl 37 (Lib.byteCells zero64).toArray (heap_alloc_new wq _) HXLi.out HXLs.out HXL1.out ?_; obtain ⟨wa, hwa⟩ : ∃ x, x = (wq.alloc (.cells (Lib.byteCells zero64).toArray 37)).setRow wq.heap.size XL.toArray := ⟨_, rfl⟩; rw [← hwa]; obtain ⟨hXa, hba⟩ := alloc_rowD wq 37 (Lib.byteCells zero64).toArray XL; rw [← hwa] at hXa hba; clear hwa)
          | (refine wpList_builtD rfl _ _ rfl [] rfl ZL.toArray HZb.out ?_)
          | (change wpList _ _ _ _ _ (wa.alloc (.cells (Lib.byteCells zero64).toArray 37)); refine wpList_store_row rfl _ _ _ rfl wa.heap.size ZL.toArray rfl rfl 37 (Lib.byteCells zero64).toArray (heap_alloc_new wa _) HZLi.out HZLs.out HZL1.out ?_; obtain ⟨wb, hwb⟩ : ∃ x, x = (wa.alloc (.cells (Lib.byteCells zero64).toArray 37)).setRow wa.heap.size ZL.toArray := ⟨_, rfl⟩; rw [← hwb]; obtain ⟨hXb, hbb⟩ := alloc_rowD wa 37 (Lib.byteCells zero64).toArray ZL; rw [← hwb] at hXb hbb; clear hwb)
          | (refine wpList_load_mid rfl _ _ rfl b (off + q * 48) rfl YL _ (rangeN_below (rangeN_below hrq hba hbwq) hbb (Nat.lt_of_lt_of_le hbwq hba.size)) Try.underlying40 rfl HYn.out ?_))
        refine Calls.mono (rlaid_at (bs.getD q []) hy48 YL XL HYL.out HXY.out wb) ?_
        rintro e wc ⟨rfl, hbc⟩
        have hZc := Lib.hid (hXb.below hbc hXb.lt)
        have hXc := (hXa.below hbb hXa.lt).below hbc (Nat.lt_of_lt_of_le hXa.lt hbb.size)
        have hxl := hXa.lt
        have hbqc : Below wq.heap.size wq wc := (hba.trans (hbb.mono hba.size)).trans (hbc.mono (Nat.le_trans hba.size hbb.size))
        have hbz := hbr.size
        obtain ⟨gz, hgz⟩ : ∃ g, g = wa.heap.size := ⟨_, rfl⟩
        have hgzx : wq.heap.size ≠ gz := by omega
        have hgzq : wq.heap.size ≤ gz := by omega
        rw [← hgz] at hZc ⊢
        clear hXb hXa hba hbb hbc hgz hraq hrq
        go_wp2_with (first
          | (refine wpList_store_row rfl _ _ _ rfl gz XL.toArray rfl rfl 37 ZL.toArray hZc.out HXLi.out HZs2.out HXL1.out ?_; obtain ⟨wd, hwd⟩ : ∃ x, x = wc.setRow gz XL.toArray := ⟨_, rfl⟩; rw [← hwd]; have hXd : Arr wd gz 37 XL := (by rw [hwd]; exact Arr.setRow hZc.out XL); have hOd : Only (fun j => j = gz) wc wd := (by rw [hwd]; exact (Only.refl (fun j => j = gz) wc).setRow (.inl rfl) _); clear hwd)
          | (refine wpList_load_row rfl _ _ rfl wq.heap.size rfl 37 XL.toArray (0, 0) _ (hXc.only hOd hgzx) Try.underlying37 rfl HXLi.out ?_)
          | (refine wpList_load_row rfl _ _ rfl gz rfl 37 XL.toArray (0, 0) _ hXd Try.underlying37 rfl HXLi.out ?_))
        have hbe : Below w5.heap.size w5 wd := hbr.trans ((hbqc.trans (hOd.below hbqc.size (by rintro j rfl; exact hgzq))).mono hbr.size)
        case roundEnd => exact ⟨⟨i + 1, by omega, by simp, hbe⟩, by simp [intOf]; omega⟩
      · have hXY : ZL = XL := by rw [HXZ.out, HZL.out, HToff.out i hlt (by omega)]
        subst hXY
        have e1 : decide ((a : Int) ≤ (i : Int)) = false ∨ (decide ((a : Int) ≤ (i : Int)) = true ∧ decide ((i : Int) < (a : Int) + (n : Int)) = false) := by
          simp only [decide_eq_true_eq, decide_eq_false_iff_not]
          omega
        have hbz := hbr.size
        clear hin
        rcases e1 with e1 | ⟨e1, e2⟩
        · have e1n : decide (a ≤ i) = false := by simp at e1 ⊢; omega
          go_wp2_with (first
            | (refine wpList_load_mid rfl _ _ rfl ga (i * 64) rfl ZL _ hraq Try.underlying37 rfl HZLn.out ?_)
            | (change wpList _ _ _ _ _ (wq.alloc (.cells (Lib.byteCells zero64).toArray 37)); refine wpList_store_row rfl _ _ _ rfl wq.heap.size ZL.toArray rfl rfl 37 (Lib.byteCells zero64).toArray (heap_alloc_new wq _) HZLi.out HZLs.out HZL1.out ?_; obtain ⟨wa, hwa⟩ : ∃ x, x = (wq.alloc (.cells (Lib.byteCells zero64).toArray 37)).setRow wq.heap.size ZL.toArray := ⟨_, rfl⟩; rw [← hwa]; obtain ⟨hXa, hba⟩ := alloc_rowD wq 37 (Lib.byteCells zero64).toArray ZL; rw [← hwa] at hXa hba; clear hwa)
            | (refine wpList_builtD rfl _ _ rfl [] rfl ZL.toArray HZb.out ?_)
            | (change wpList _ _ _ _ _ (wa.alloc (.cells (Lib.byteCells zero64).toArray 37)); refine wpList_store_row rfl _ _ _ rfl wa.heap.size ZL.toArray rfl rfl 37 (Lib.byteCells zero64).toArray (heap_alloc_new wa _) HZLi.out HZLs.out HZL1.out ?_; obtain ⟨wb, hwb⟩ : ∃ x, x = (wa.alloc (.cells (Lib.byteCells zero64).toArray 37)).setRow wa.heap.size ZL.toArray := ⟨_, rfl⟩; rw [← hwb]; obtain ⟨hXb, hbb⟩ := alloc_rowD wa 37 (Lib.byteCells zero64).toArray ZL; rw [← hwb] at hXb hbb; clear hwb)
            | (refine wpList_load_row rfl _ _ rfl wq.heap.size rfl 37 ZL.toArray (0, 0) _ (hXa.below hbb hXa.lt) Try.underlying37 rfl HZLi.out ?_)
            | (refine wpList_load_row rfl _ _ rfl wa.heap.size rfl 37 ZL.toArray (0, 0) _ hXb Try.underlying37 rfl HZLi.out ?_))
          have hbe : Below w5.heap.size w5 wb := hbr.trans ((hba.trans (hbb.mono hba.size)).mono hbr.size)
          case roundEnd => exact ⟨⟨i + 1, by omega, by simp, hbe⟩, by simp [intOf]; omega⟩
        · have e1n : decide (a ≤ i) = true := by simp at e1 ⊢; omega
          go_wp2_with (first
            | (refine wpList_load_mid rfl _ _ rfl ga (i * 64) rfl ZL _ hraq Try.underlying37 rfl HZLn.out ?_)
            | (change wpList _ _ _ _ _ (wq.alloc (.cells (Lib.byteCells zero64).toArray 37)); refine wpList_store_row rfl _ _ _ rfl wq.heap.size ZL.toArray rfl rfl 37 (Lib.byteCells zero64).toArray (heap_alloc_new wq _) HZLi.out HZLs.out HZL1.out ?_; obtain ⟨wa, hwa⟩ : ∃ x, x = (wq.alloc (.cells (Lib.byteCells zero64).toArray 37)).setRow wq.heap.size ZL.toArray := ⟨_, rfl⟩; rw [← hwa]; obtain ⟨hXa, hba⟩ := alloc_rowD wq 37 (Lib.byteCells zero64).toArray ZL; rw [← hwa] at hXa hba; clear hwa)
            | (refine wpList_builtD rfl _ _ rfl [] rfl ZL.toArray HZb.out ?_)
            | (change wpList _ _ _ _ _ (wa.alloc (.cells (Lib.byteCells zero64).toArray 37)); refine wpList_store_row rfl _ _ _ rfl wa.heap.size ZL.toArray rfl rfl 37 (Lib.byteCells zero64).toArray (heap_alloc_new wa _) HZLi.out HZLs.out HZL1.out ?_; obtain ⟨wb, hwb⟩ : ∃ x, x = (wa.alloc (.cells (Lib.byteCells zero64).toArray 37)).setRow wa.heap.size ZL.toArray := ⟨_, rfl⟩; rw [← hwb]; obtain ⟨hXb, hbb⟩ := alloc_rowD wa 37 (Lib.byteCells zero64).toArray ZL; rw [← hwb] at hXb hbb; clear hwb)
            | (refine wpList_load_row rfl _ _ rfl wq.heap.size rfl 37 ZL.toArray (0, 0) _ (hXa.below hbb hXa.lt) Try.underlying37 rfl HZLi.out ?_)
            | (refine wpList_load_row rfl _ _ rfl wa.heap.size rfl 37 ZL.toArray (0, 0) _ hXb Try.underlying37 rfl HZLi.out ?_))
          have hbe : Below w5.heap.size w5 wb := hbr.trans ((hba.trans (hbb.mono hba.size)).mono hbr.size)
          case roundEnd => exact ⟨⟨i + 1, by omega, by simp, hbe⟩, by simp [intOf]; omega⟩
    · obtain rfl : i = m := by omega
      have hd6 : decide ((i : Int) < (i : Int)) = false := by simp
      have hd6n : decide (i < i) = false := by simp
      have hSq := hS5.below hbr
      have hPq := hP5.below hbr hP5l
      have hBq := hB5.trans (hbr.mono hB5.size)
      have hPl := hPq.lt
      have hBsq := hBq.size
      clear hbr hra hga2 hS5 hP5 hB5
      go_wp2_with fail
      go_loopw [125] (fun x wr => ∃ u : Nat, u ≤ n ∧ x = .int .i64 u ∧ Below wq.heap.size wq wr) (fun x _ => n - (intOf x).toNat)
      case atStart => exact ⟨0, Nat.zero_le _, rfl, Below.refl _ _⟩
      case round =>
        obtain ⟨u, hu, rfl, hbv⟩ := hrel
        obtain ⟨wv, hwv⟩ : ∃ x, x = wr := ⟨_, rfl⟩
        subst hwv
        have hSv := hSq.below hbv
        have hPv := hPq.below hbv hPl
        have hBv := hBq.trans (hbv.mono hBsq)
        by_cases hlu : u < n
        · have hd7 : decide ((u : Int) < (n : Int)) = true := by simp; exact hlu
          have hd7n : decide (u < n) = true := by simp; exact hlu
          have huI : (u : Int) < (n : Int) := by omega
          have hrq := Hr.out wv hBv u hlu
          have hy48 : (bs.getD u []).length = 48 := H48.out _ (by have := Hbl.out; simp [List.getD, show u < bs.length by omega])
          have hst := HTst.out u hlu
          obtain ⟨Y, hY⟩ : ∃ Y, Y = bs.getD u [] := ⟨_, rfl⟩
          rw [← hY] at hrq hy48 hst
          obtain ⟨YL, hYL⟩ : ∃ l, l = Lib.byteCells Y := ⟨_, rfl⟩
          rw [← hYL] at hrq
          have hYl : YL.length = 48 := by rw [hYL, Lib.byteCells_length, hy48]
          have HYLi := Lib.hid (show (Try.prog.info? 40).map (·.size) = some YL.toArray.size by rw [List.size_toArray, hYl]; exact blkInfo)
          have HYLn := Lib.hid (show (Try.prog.info? 40).map (·.size) = some YL.length by rw [hYl]; exact blkInfo)
          have HYLs := Lib.hid (show (Lib.byteCells z48).toArray.size = YL.toArray.size by rw [List.size_toArray, List.size_toArray, hYl]; rfl)
          have HYL1 := Lib.hid (show YL.toArray.all (·.oneCell') = true by rw [hYL]; exact sec_one _)
          obtain ⟨GL, hGL⟩ : ∃ l, l = Lib.byteCells (fingF Y) := ⟨_, rfl⟩
          have hcmpB : ∀ w, (Op.equalIn 10000 40 (.agg YL.toArray) (.agg YL.toArray)).run Try.prog w = .ok true w := fun w => by
            rw [blk_eqv Y Y hy48 hy48 YL YL hYL hYL w]; simp
          have hcmpD : ∀ w, (Op.equalIn 10000 29 (.agg GL.toArray) (.agg GL.toArray)).run Try.prog w = .ok true w := fun w => by
            rw [eqv_at Try.underlying29 (fingF Y) (fingF Y) (fingF_length _) (fingF_length _) GL GL hGL hGL w]; simp
          have HYL := Lib.hid hYL
          have HGL := Lib.hid hGL
          clear hYL hGL hY
          go_wp2_with (first
            | (refine wpList_load_mid rfl _ _ rfl b (off + u * 48) rfl YL _ hrq Try.underlying40 rfl HYLn.out ?_)
            | (change wpList _ _ _ _ _ (wv.alloc (.cells (Lib.byteCells z48).toArray 40)); refine wpList_store_row rfl _ _ _ rfl wv.heap.size YL.toArray rfl rfl 40 (Lib.byteCells z48).toArray (heap_alloc_new wv _) HYLi.out HYLs.out HYL1.out ?_; obtain ⟨wa, hwa⟩ : ∃ x, x = (wv.alloc (.cells (Lib.byteCells z48).toArray 40)).setRow wv.heap.size YL.toArray := ⟨_, rfl⟩; rw [← hwa]; obtain ⟨hXa, hba⟩ := alloc_rowD wv 40 (Lib.byteCells z48).toArray YL; rw [← hwa] at hXa hba; clear hwa))
          obtain ⟨gx, hgx⟩ : ∃ g, g = wv.heap.size := ⟨_, rfl⟩
          rw [← hgx] at hXa ⊢
          have hPa := hPv.below hba hPv.lt
          have hSa := hSv.below hba
          have hbz := hbv.size
          have hxl0 : gx < wa.drew.heap.size := hXa.lt
          have hpl0 : gp < wa.drew.heap.size := hPa.lt
          have hPr0 : wa.drew.rangeAt gp 0 DL := hPa.rangeN
          have hXr0 : wa.drew.rangeAt gx 0 YL := hXa.rangeN
          have hSd0 : SeenN wa.drew k gs i T := hSa.below (Below.dN (Below.refl _ _) 1)
          have hbd0 : Below wq.heap.size wq wa.drew := Below.dN (hbv.trans (hba.mono hbz)) 1
          clear hgx hXa hPa hSa hPv hSv hrq hba hBv
          refine wp_region_held_drew (S := fun w' => w'.rangeAt gp 0 DL ∧ w'.rangeAt gx 0 YL) (by kernel_rfl) ⟨hPr0, hXr0⟩ (fun hHeld => ?_)
          obtain ⟨wd, hwd⟩ : ∃ x, x = wa.drew := ⟨_, rfl⟩
          rw [← hwd] at hxl0 hpl0 hPr0 hXr0 hSd0 hbd0 hHeld ⊢
          clear hwd
          have hB30 : Below wd.heap.size wd wd := Below.refl _ _
          have hxl := hxl0
          have hpl := hpl0
          have hPr := hPr0
          have hXr := hXr0
          have hSd := hSd0
          have hbd := hbd0
          clear hxl0 hpl0 hPr0 hXr0 hSd0 hbd0
          refine anyH_take (i := 0) (v := .pointer (some ⟨k, 0, none⟩)) (some 131) rfl rfl (by kernel_rfl) (by kernel_rfl) (by kernel_rfl) (fun _ _ _ h => h) (Or.inl ⟨by rfl, fun _ hw => by rfl⟩) (by assumption) ?_
          simp only [Act.put, List.setIfInBounds_toArray, List.set_cons_zero, List.set_cons_succ]
          refine anyH_take (i := 1) (some 132) rfl rfl (by kernel_rfl) (by kernel_rfl) (by kernel_rfl) (fun _ _ _ h => h) (yieldsIf_load_mid (by rfl) 31 (.tmp 11) rfl gp 0 rfl DL _ (fun _ h => h.1) Try.underlying31 rfl HDLn.out) (by assumption) ?_
          simp only [Act.put, List.setIfInBounds_toArray, List.set_cons_zero, List.set_cons_succ]
          refine anyH_take (i := 2) (v := .int .i64 (u : Nat)) (some 133) rfl rfl (by kernel_rfl) (by kernel_rfl) (by kernel_rfl) (fun _ _ _ h => h) (Or.inl ⟨by rfl, fun _ hw => by rfl⟩) (by assumption) ?_
          simp only [Act.put, List.setIfInBounds_toArray, List.set_cons_zero, List.set_cons_succ]
          refine anyH_take (i := 3) (some 134) rfl rfl (by kernel_rfl) (by kernel_rfl) (by kernel_rfl) (fun _ _ _ h => h) (yieldsIf_load_mid (by rfl) 40 (.tmp 18) rfl gx 0 rfl YL _ (fun _ h => h.2) Try.underlying40 rfl HYLn.out) (by assumption) ?_
          simp only [Act.put, List.setIfInBounds_toArray, List.set_cons_zero, List.set_cons_succ]
          refine wpAnyH_ready (rs := [4, 9]) (by kernel_rfl) (by simp) ?_
          refine AllReadyH.cons rfl (fun KC hKC => ?_) (AllReadyH.cons rfl (fun KC hKC => ?_) AllReadyH.nil)
          · go_simp
            go_at_call 12
            refine Calls.mono (rfinger_at Y hy48 YL GL HYL.out HGL.out _) ?_
            rintro e w31 ⟨rfl, hb31⟩
            have hB31 := hB30.trans (hb31.mono hB30.size)
            go_wp2_with fail
            refine hKC.out _ _ ⟨rangeN_below hPr hB31 hpl, rangeN_below hXr hB31 hxl⟩ (fun hHeld31 => ?_)
            clear hKC KC
            try simp only [Act.put, List.setIfInBounds_toArray, List.set_cons_zero, List.set_cons_succ]
            refine wpAnyH_ready (rs := [5, 9]) (by kernel_rfl) (by simp) ?_
            refine AllReadyH.cons rfl (fun KC hKC => ?_) (AllReadyH.cons rfl (fun KC hKC => ?_) AllReadyH.nil)
            · go_simp
              go_at_call 11
              refine Calls.mono (nread_yes k gs i T (number : Nat) a n u (rootF bs) (fingF Y) DL GL YL _ (hSd.below hB31) (rootF_length _) (fingF_length _) HDL.out HGL.out hlu ha (by rw [hst]) (by rw [hst]; exact HYL.out)) ?_
              rintro e w32 ⟨rfl, hb32⟩
              have hB32 := hB31.trans (hb32.mono hB31.size)
              go_wp2_with fail
              refine hKC.out _ _ ⟨rangeN_below hPr hB32 hpl, rangeN_below hXr hB32 hxl⟩ (fun hHeld32 => ?_)
              clear hKC KC
              try simp only [Act.put, List.setIfInBounds_toArray, List.set_cons_zero, List.set_cons_succ]
              refine anyH_take (i := 6) (v := .tuple #[.agg YL.toArray, .int .i64 0]) (some 130) rfl rfl (by kernel_rfl) (by kernel_rfl) (by kernel_rfl) (fun _ _ _ h => h) (Or.inl ⟨by rfl, fun _ hw => by rfl⟩) (by assumption) ?_
              simp only [Act.put, List.setIfInBounds_toArray, List.set_cons_zero, List.set_cons_succ]
              refine anyH_take (i := 7) (v := .agg YL.toArray) (some 137) rfl rfl (by kernel_rfl) (by kernel_rfl) (by kernel_rfl) (fun _ _ _ h => h) (Or.inl ⟨by rfl, fun _ hw => by go_simp⟩) (by assumption) ?_
              simp only [Act.put, List.setIfInBounds_toArray, List.set_cons_zero, List.set_cons_succ]
              refine anyH_take (i := 8) (v := .int .i64 0) (some 138) rfl rfl (by kernel_rfl) (by kernel_rfl) (by kernel_rfl) (fun _ _ _ h => h) (Or.inl ⟨by rfl, fun _ hw => by go_simp⟩) (by assumption) ?_
              simp only [Act.put, List.setIfInBounds_toArray, List.set_cons_zero, List.set_cons_succ]
              refine wpAnyH_ready (rs := [9]) (by kernel_rfl) (by simp) ?_
              refine AllReadyH.cons rfl (fun KC hKC => ?_) AllReadyH.nil
              go_simp
              refine hKC.out _ _ ⟨rangeN_below hPr (Below.alloc hB32 hB32.size _) hpl, rangeN_below hXr (Below.alloc hB32 hB32.size _) hxl⟩ (fun hHeld33 => ?_)
              clear hKC KC
              try simp only [Act.put, List.setIfInBounds_toArray, List.set_cons_zero, List.set_cons_succ]
              change wpAnyH _ _ _ _ _ _ _ _ (w32.alloc (.cells (Lib.byteCells z48).toArray 40))
              obtain ⟨g33, hg33⟩ : ∃ x, x = w32.heap.size := ⟨_, rfl⟩
              have N33 := Arr.new w32 40 (Lib.byteCells z48)
              have hb33 : Below w32.heap.size w32 (w32.alloc (.cells (Lib.byteCells z48).toArray 40)) := (Below.refl _ _).alloc (Nat.le_refl _) _
              have hlo33 : wd.heap.size ≤ g33 := by have := hB32.size; omega
              obtain ⟨w33, hw33⟩ : ∃ x, x = w32.alloc (.cells (Lib.byteCells z48).toArray 40) := ⟨_, rfl⟩
              rw [← hw33] at hb33 N33 ⊢
              have hB33 := hB32.trans (hb33.mono hB32.size)
              rw [← hg33] at N33
              try rw [← hg33]
              clear hw33 hg33
              refine wpAnyH_ready (rs := [10]) (by kernel_rfl) (by simp) ?_
              refine AllReadyH.cons rfl (fun KC hKC => ?_) AllReadyH.nil
              rw [if_pos (by rfl)]
              obtain ⟨hth34, hs34, ho34⟩ := put_arr (Arr.below N33 (Below.refl _ _) (Arr.lt N33)) (show (Lib.byteCells z48).length = YL.length by rw [hYl]; rfl)
              refine wp_store_mid 40 _ _ rfl g33 0 YL.toArray rfl rfl (by rw [List.size_toArray]; exact hth34) HYLi.out HYL1.out ?_
              have hB34 := hB33.trans (ho34.below (B := wd.heap.size) hB33.size (by rintro j rfl; exact hlo33))
              refine hKC.out _ _ ⟨rangeN_below hPr hB34 hpl, rangeN_below hXr hB34 hxl⟩ (fun hHeld34 => ?_)
              clear hKC KC
              try simp only [Act.put, List.setIfInBounds_toArray, List.set_cons_zero, List.set_cons_succ]
              try rw [show YL.toArray.toList = YL from rfl]
              obtain ⟨w34, hw34⟩ : ∃ x, x = w33.setCells g33 0 YL := ⟨_, rfl⟩
              rw [← hw34] at hB34 hs34 hHeld34 ⊢
              clear hw34 ho34 hth34
              refine anyH_take (i := 11) (v := .int .i64 0) (some 20) rfl rfl (by kernel_rfl) (by kernel_rfl) (by kernel_rfl) (fun _ _ _ h => h) (Or.inl ⟨by rfl, fun _ hw => by go_simp⟩) (by assumption) ?_
              simp only [Act.put, List.setIfInBounds_toArray, List.set_cons_zero, List.set_cons_succ]
              refine wpAnyH_done (by kernel_rfl) ?_ _
              clear hHeld
              have hBz := hB34
              have hZz := Arr.rangeN hs34
              have hlz := Arr.lt hs34
              have hXz := rangeN_below hXr hB34 hxl
              have hxz : gx < w34.heap.size := Nat.lt_of_lt_of_le hxl hB34.size
              go_wp2_with fail
              have hZe0 : w34.drew.rangeAt g33 0 YL := hZz
              have hXe0 : w34.drew.rangeAt gx 0 YL := hXz
              refine wp_region_held_drew (S := fun w' => w'.rangeAt g33 0 YL ∧ w'.rangeAt gx 0 YL) (by kernel_rfl) ⟨hZe0, hXe0⟩ (fun hHeld => ?_)
              have hle0 : g33 < w34.drew.heap.size := hlz
              have hxe0 : gx < w34.drew.heap.size := hxz
              have hbe : Below w34.heap.size w34 w34.drew := Below.dN (Below.refl _ _) 1
              obtain ⟨we, hwe⟩ : ∃ x, x = w34.drew := ⟨_, rfl⟩
              rw [← hwe] at hbe hZe0 hXe0 hle0 hxe0 ⊢
              try rw [← hwe] at hHeld
              clear hwe
              have hZe := hZe0
              have hXe := hXe0
              have hle := hle0
              have hxe := hxe0
              have hB90 : Below we.heap.size we we := Below.refl _ _
              refine anyH_take (i := 0) (v := .int .i64 0) (some 139) rfl rfl (by kernel_rfl) (by kernel_rfl) (by kernel_rfl) (fun _ _ _ h => h) (Or.inl ⟨by rfl, fun _ hw => by rfl⟩) (by assumption) ?_
              simp only [Act.put, List.setIfInBounds_toArray, List.set_cons_zero, List.set_cons_succ]
              refine anyH_take (i := 1) (v := .bool false) (some 140) rfl rfl (by kernel_rfl) (by kernel_rfl) (by kernel_rfl) (fun _ _ _ h => h) (Or.inl ⟨by rfl, fun _ hw => by go_simp⟩) (by assumption) ?_
              simp only [Act.put, List.setIfInBounds_toArray, List.set_cons_zero, List.set_cons_succ]
              refine anyH_take (i := 2) (v := .bool false) (some 141) rfl rfl (by kernel_rfl) (by kernel_rfl) (by kernel_rfl) (fun _ _ _ h => h) (Or.inl ⟨by rfl, fun _ hw => by rfl⟩) (by assumption) ?_
              simp only [Act.put, List.setIfInBounds_toArray, List.set_cons_zero, List.set_cons_succ]
              refine anyH_take (i := 3) (some 142) rfl rfl (by kernel_rfl) (by kernel_rfl) (by kernel_rfl) (fun _ _ _ h => h) (yieldsIf_load_mid (by rfl) 40 (.tmp 19) rfl g33 0 rfl YL _ (fun _ h => h.1) Try.underlying40 rfl HYLn.out) (by assumption) ?_
              simp only [Act.put, List.setIfInBounds_toArray, List.set_cons_zero, List.set_cons_succ]
              refine anyH_take (i := 4) (some 143) rfl rfl (by kernel_rfl) (by kernel_rfl) (by kernel_rfl) (fun _ _ _ h => h) (yieldsIf_load_mid (by rfl) 40 (.tmp 18) rfl gx 0 rfl YL _ (fun _ h => h.2) Try.underlying40 rfl HYLn.out) (by assumption) ?_
              simp only [Act.put, List.setIfInBounds_toArray, List.set_cons_zero, List.set_cons_succ]
              refine wpAnyH_ready (rs := [5]) (by kernel_rfl) (by simp) ?_
              refine AllReadyH.cons rfl (fun KC hKC => ?_) AllReadyH.nil
              go_simp
              refine hKC.out _ _ ⟨rangeN_below hZe hB90 hle, rangeN_below hXe hB90 hxe⟩ (fun hHeld91 => ?_)
              clear hKC KC
              try simp only [Act.put, List.setIfInBounds_toArray, List.set_cons_zero, List.set_cons_succ]
              refine anyH_take (i := 6) (v := .bool false) (some 145) rfl rfl (by kernel_rfl) (by kernel_rfl) (by kernel_rfl) (fun _ _ _ h => h) (Or.inl ⟨by rfl, fun _ hw => by go_simp⟩) (by assumption) ?_
              simp only [Act.put, List.setIfInBounds_toArray, List.set_cons_zero, List.set_cons_succ]
              refine anyH_take (i := 7) (v := .bool false) (some 146) rfl rfl (by kernel_rfl) (by kernel_rfl) (by kernel_rfl) (fun _ _ _ h => h) (Or.inl ⟨by rfl, fun _ hw => by rfl⟩) (by assumption) ?_
              simp only [Act.put, List.setIfInBounds_toArray, List.set_cons_zero, List.set_cons_succ]
              refine anyH_take (i := 8) (some 147) rfl rfl (by kernel_rfl) (by kernel_rfl) (by kernel_rfl) (fun _ _ _ h => h) (yieldsIf_load_mid (by rfl) 40 (.tmp 18) rfl gx 0 rfl YL _ (fun _ h => h.2) Try.underlying40 rfl HYLn.out) (by assumption) ?_
              simp only [Act.put, List.setIfInBounds_toArray, List.set_cons_zero, List.set_cons_succ]
              refine anyH_take (i := 10) (some 149) rfl rfl (by kernel_rfl) (by kernel_rfl) (by kernel_rfl) (fun _ _ _ h => h) (yieldsIf_load_mid (by rfl) 40 (.tmp 18) rfl gx 0 rfl YL _ (fun _ h => h.2) Try.underlying40 rfl HYLn.out) (by assumption) ?_
              simp only [Act.put, List.setIfInBounds_toArray, List.set_cons_zero, List.set_cons_succ]
              refine wpAnyH_ready (rs := [9]) (by kernel_rfl) (by simp) ?_
              refine AllReadyH.cons rfl (fun KC hKC => ?_) AllReadyH.nil
              go_simp
              go_at_call 13
              refine Calls.mono (finger_at Y hy48 YL GL HYL.out HGL.out _) ?_
              rintro e w92 ⟨rfl, hb92⟩
              have hB92 := hB90.trans (hb92.mono hB90.size)
              go_wp2_with fail
              refine hKC.out _ _ ⟨rangeN_below hZe hB92 hle, rangeN_below hXe hB92 hxe⟩ (fun hHeld92 => ?_)
              clear hKC KC
              try simp only [Act.put, List.setIfInBounds_toArray, List.set_cons_zero, List.set_cons_succ]
              refine wpAnyH_ready (rs := [11]) (by kernel_rfl) (by simp) ?_
              refine AllReadyH.cons rfl (fun KC hKC => ?_) AllReadyH.nil
              go_simp
              go_at_call 12
              refine Calls.mono (rfinger_at Y hy48 YL GL HYL.out HGL.out _) ?_
              rintro e w93 ⟨rfl, hb93⟩
              have hB93 := hB92.trans (hb93.mono hB92.size)
              go_wp2_with fail
              refine hKC.out _ _ ⟨rangeN_below hZe hB93 hle, rangeN_below hXe hB93 hxe⟩ (fun hHeld93 => ?_)
              clear hKC KC
              try simp only [Act.put, List.setIfInBounds_toArray, List.set_cons_zero, List.set_cons_succ]
              refine wpAnyH_ready (rs := [12]) (by kernel_rfl) (by simp) ?_
              refine AllReadyH.cons rfl (fun KC hKC => ?_) AllReadyH.nil
              go_simp
              refine hKC.out _ _ ⟨rangeN_below hZe hB93 hle, rangeN_below hXe hB93 hxe⟩ (fun hHeld94 => ?_)
              clear hKC KC
              try simp only [Act.put, List.setIfInBounds_toArray, List.set_cons_zero, List.set_cons_succ]
              refine anyH_take (i := 13) (v := .bool false) (some 152) rfl rfl (by kernel_rfl) (by kernel_rfl) (by kernel_rfl) (fun _ _ _ h => h) (Or.inl ⟨by rfl, fun _ hw => by go_simp⟩) (by assumption) ?_
              simp only [Act.put, List.setIfInBounds_toArray, List.set_cons_zero, List.set_cons_succ]
              refine wpAnyH_done (by kernel_rfl) ?_ _
              clear hHeld
              have hfin : Below wq.heap.size wq w93 := hbd.trans ((hBz.trans ((hbe.mono hBz.size).trans (hB93.mono (Nat.le_trans hBz.size hbe.size)))).mono hbd.size)
              go_wp2_with fail
              case roundEnd => exact ⟨⟨u + 1, by omega, by simp, hfin⟩, by simp [intOf]; omega⟩
            · go_simp
              refine hKC.out _ _ ⟨rangeN_below hPr (Below.alloc hB31 hB31.size _) hpl, rangeN_below hXr (Below.alloc hB31 hB31.size _) hxl⟩ (fun hHeld35 => ?_)
              clear hKC KC
              try simp only [Act.put, List.setIfInBounds_toArray, List.set_cons_zero, List.set_cons_succ]
              change wpAnyH _ _ _ _ _ _ _ _ (w31.alloc (.cells (Lib.byteCells z48).toArray 40))
              obtain ⟨g35, hg35⟩ : ∃ x, x = w31.heap.size := ⟨_, rfl⟩
              have N35 := Arr.new w31 40 (Lib.byteCells z48)
              have hb35 : Below w31.heap.size w31 (w31.alloc (.cells (Lib.byteCells z48).toArray 40)) := (Below.refl _ _).alloc (Nat.le_refl _) _
              have hlo35 : wd.heap.size ≤ g35 := by have := hB31.size; omega
              obtain ⟨w35, hw35⟩ : ∃ x, x = w31.alloc (.cells (Lib.byteCells z48).toArray 40) := ⟨_, rfl⟩
              rw [← hw35] at hb35 N35 ⊢
              have hB35 := hB31.trans (hb35.mono hB31.size)
              rw [← hg35] at N35
              try rw [← hg35]
              clear hw35 hg35
              refine wpAnyH_ready (rs := [5]) (by kernel_rfl) (by simp) ?_
              refine AllReadyH.cons rfl (fun KC hKC => ?_) AllReadyH.nil
              go_simp
              go_at_call 11
              refine Calls.mono (nread_yes k gs i T (number : Nat) a n u (rootF bs) (fingF Y) DL GL YL _ (hSd.below hB35) (rootF_length _) (fingF_length _) HDL.out HGL.out hlu ha (by rw [hst]) (by rw [hst]; exact HYL.out)) ?_
              rintro e w36 ⟨rfl, hb36⟩
              have hB36 := hB35.trans (hb36.mono hB35.size)
              go_wp2_with fail
              refine hKC.out _ _ ⟨rangeN_below hPr hB36 hpl, rangeN_below hXr hB36 hxl⟩ (fun hHeld36 => ?_)
              clear hKC KC
              try simp only [Act.put, List.setIfInBounds_toArray, List.set_cons_zero, List.set_cons_succ]
              refine anyH_take (i := 6) (v := .tuple #[.agg YL.toArray, .int .i64 0]) (some 130) rfl rfl (by kernel_rfl) (by kernel_rfl) (by kernel_rfl) (fun _ _ _ h => h) (Or.inl ⟨by rfl, fun _ hw => by rfl⟩) (by assumption) ?_
              simp only [Act.put, List.setIfInBounds_toArray, List.set_cons_zero, List.set_cons_succ]
              refine anyH_take (i := 7) (v := .agg YL.toArray) (some 137) rfl rfl (by kernel_rfl) (by kernel_rfl) (by kernel_rfl) (fun _ _ _ h => h) (Or.inl ⟨by rfl, fun _ hw => by go_simp⟩) (by assumption) ?_
              simp only [Act.put, List.setIfInBounds_toArray, List.set_cons_zero, List.set_cons_succ]
              refine anyH_take (i := 8) (v := .int .i64 0) (some 138) rfl rfl (by kernel_rfl) (by kernel_rfl) (by kernel_rfl) (fun _ _ _ h => h) (Or.inl ⟨by rfl, fun _ hw => by go_simp⟩) (by assumption) ?_
              simp only [Act.put, List.setIfInBounds_toArray, List.set_cons_zero, List.set_cons_succ]
              refine wpAnyH_ready (rs := [10]) (by kernel_rfl) (by simp) ?_
              refine AllReadyH.cons rfl (fun KC hKC => ?_) AllReadyH.nil
              rw [if_pos (by rfl)]
              obtain ⟨hth37, hs37, ho37⟩ := put_arr (Arr.below N35 (hb36) (Arr.lt N35)) (show (Lib.byteCells z48).length = YL.length by rw [hYl]; rfl)
              refine wp_store_mid 40 _ _ rfl g35 0 YL.toArray rfl rfl (by rw [List.size_toArray]; exact hth37) HYLi.out HYL1.out ?_
              have hB37 := hB36.trans (ho37.below (B := wd.heap.size) hB36.size (by rintro j rfl; exact hlo35))
              refine hKC.out _ _ ⟨rangeN_below hPr hB37 hpl, rangeN_below hXr hB37 hxl⟩ (fun hHeld37 => ?_)
              clear hKC KC
              try simp only [Act.put, List.setIfInBounds_toArray, List.set_cons_zero, List.set_cons_succ]
              try rw [show YL.toArray.toList = YL from rfl]
              obtain ⟨w37, hw37⟩ : ∃ x, x = w36.setCells g35 0 YL := ⟨_, rfl⟩
              rw [← hw37] at hB37 hs37 hHeld37 ⊢
              clear hw37 ho37 hth37
              refine anyH_take (i := 11) (v := .int .i64 0) (some 20) rfl rfl (by kernel_rfl) (by kernel_rfl) (by kernel_rfl) (fun _ _ _ h => h) (Or.inl ⟨by rfl, fun _ hw => by go_simp⟩) (by assumption) ?_
              simp only [Act.put, List.setIfInBounds_toArray, List.set_cons_zero, List.set_cons_succ]
              refine wpAnyH_done (by kernel_rfl) ?_ _
              clear hHeld
              have hBz := hB37
              have hZz := Arr.rangeN hs37
              have hlz := Arr.lt hs37
              have hXz := rangeN_below hXr hB37 hxl
              have hxz : gx < w37.heap.size := Nat.lt_of_lt_of_le hxl hB37.size
              go_wp2_with fail
              have hZe0 : w37.drew.rangeAt g35 0 YL := hZz
              have hXe0 : w37.drew.rangeAt gx 0 YL := hXz
              refine wp_region_held_drew (S := fun w' => w'.rangeAt g35 0 YL ∧ w'.rangeAt gx 0 YL) (by kernel_rfl) ⟨hZe0, hXe0⟩ (fun hHeld => ?_)
              have hle0 : g35 < w37.drew.heap.size := hlz
              have hxe0 : gx < w37.drew.heap.size := hxz
              have hbe : Below w37.heap.size w37 w37.drew := Below.dN (Below.refl _ _) 1
              obtain ⟨we, hwe⟩ : ∃ x, x = w37.drew := ⟨_, rfl⟩
              rw [← hwe] at hbe hZe0 hXe0 hle0 hxe0 ⊢
              try rw [← hwe] at hHeld
              clear hwe
              have hZe := hZe0
              have hXe := hXe0
              have hle := hle0
              have hxe := hxe0
              have hB90 : Below we.heap.size we we := Below.refl _ _
              refine anyH_take (i := 0) (v := .int .i64 0) (some 139) rfl rfl (by kernel_rfl) (by kernel_rfl) (by kernel_rfl) (fun _ _ _ h => h) (Or.inl ⟨by rfl, fun _ hw => by rfl⟩) (by assumption) ?_
              simp only [Act.put, List.setIfInBounds_toArray, List.set_cons_zero, List.set_cons_succ]
              refine anyH_take (i := 1) (v := .bool false) (some 140) rfl rfl (by kernel_rfl) (by kernel_rfl) (by kernel_rfl) (fun _ _ _ h => h) (Or.inl ⟨by rfl, fun _ hw => by go_simp⟩) (by assumption) ?_
              simp only [Act.put, List.setIfInBounds_toArray, List.set_cons_zero, List.set_cons_succ]
              refine anyH_take (i := 2) (v := .bool false) (some 141) rfl rfl (by kernel_rfl) (by kernel_rfl) (by kernel_rfl) (fun _ _ _ h => h) (Or.inl ⟨by rfl, fun _ hw => by rfl⟩) (by assumption) ?_
              simp only [Act.put, List.setIfInBounds_toArray, List.set_cons_zero, List.set_cons_succ]
              refine anyH_take (i := 3) (some 142) rfl rfl (by kernel_rfl) (by kernel_rfl) (by kernel_rfl) (fun _ _ _ h => h) (yieldsIf_load_mid (by rfl) 40 (.tmp 19) rfl g35 0 rfl YL _ (fun _ h => h.1) Try.underlying40 rfl HYLn.out) (by assumption) ?_
              simp only [Act.put, List.setIfInBounds_toArray, List.set_cons_zero, List.set_cons_succ]
              refine anyH_take (i := 4) (some 143) rfl rfl (by kernel_rfl) (by kernel_rfl) (by kernel_rfl) (fun _ _ _ h => h) (yieldsIf_load_mid (by rfl) 40 (.tmp 18) rfl gx 0 rfl YL _ (fun _ h => h.2) Try.underlying40 rfl HYLn.out) (by assumption) ?_
              simp only [Act.put, List.setIfInBounds_toArray, List.set_cons_zero, List.set_cons_succ]
              refine wpAnyH_ready (rs := [5]) (by kernel_rfl) (by simp) ?_
              refine AllReadyH.cons rfl (fun KC hKC => ?_) AllReadyH.nil
              go_simp
              refine hKC.out _ _ ⟨rangeN_below hZe hB90 hle, rangeN_below hXe hB90 hxe⟩ (fun hHeld91 => ?_)
              clear hKC KC
              try simp only [Act.put, List.setIfInBounds_toArray, List.set_cons_zero, List.set_cons_succ]
              refine anyH_take (i := 6) (v := .bool false) (some 145) rfl rfl (by kernel_rfl) (by kernel_rfl) (by kernel_rfl) (fun _ _ _ h => h) (Or.inl ⟨by rfl, fun _ hw => by go_simp⟩) (by assumption) ?_
              simp only [Act.put, List.setIfInBounds_toArray, List.set_cons_zero, List.set_cons_succ]
              refine anyH_take (i := 7) (v := .bool false) (some 146) rfl rfl (by kernel_rfl) (by kernel_rfl) (by kernel_rfl) (fun _ _ _ h => h) (Or.inl ⟨by rfl, fun _ hw => by rfl⟩) (by assumption) ?_
              simp only [Act.put, List.setIfInBounds_toArray, List.set_cons_zero, List.set_cons_succ]
              refine anyH_take (i := 8) (some 147) rfl rfl (by kernel_rfl) (by kernel_rfl) (by kernel_rfl) (fun _ _ _ h => h) (yieldsIf_load_mid (by rfl) 40 (.tmp 18) rfl gx 0 rfl YL _ (fun _ h => h.2) Try.underlying40 rfl HYLn.out) (by assumption) ?_
              simp only [Act.put, List.setIfInBounds_toArray, List.set_cons_zero, List.set_cons_succ]
              refine anyH_take (i := 10) (some 149) rfl rfl (by kernel_rfl) (by kernel_rfl) (by kernel_rfl) (fun _ _ _ h => h) (yieldsIf_load_mid (by rfl) 40 (.tmp 18) rfl gx 0 rfl YL _ (fun _ h => h.2) Try.underlying40 rfl HYLn.out) (by assumption) ?_
              simp only [Act.put, List.setIfInBounds_toArray, List.set_cons_zero, List.set_cons_succ]
              refine wpAnyH_ready (rs := [9]) (by kernel_rfl) (by simp) ?_
              refine AllReadyH.cons rfl (fun KC hKC => ?_) AllReadyH.nil
              go_simp
              go_at_call 13
              refine Calls.mono (finger_at Y hy48 YL GL HYL.out HGL.out _) ?_
              rintro e w92 ⟨rfl, hb92⟩
              have hB92 := hB90.trans (hb92.mono hB90.size)
              go_wp2_with fail
              refine hKC.out _ _ ⟨rangeN_below hZe hB92 hle, rangeN_below hXe hB92 hxe⟩ (fun hHeld92 => ?_)
              clear hKC KC
              try simp only [Act.put, List.setIfInBounds_toArray, List.set_cons_zero, List.set_cons_succ]
              refine wpAnyH_ready (rs := [11]) (by kernel_rfl) (by simp) ?_
              refine AllReadyH.cons rfl (fun KC hKC => ?_) AllReadyH.nil
              go_simp
              go_at_call 12
              refine Calls.mono (rfinger_at Y hy48 YL GL HYL.out HGL.out _) ?_
              rintro e w93 ⟨rfl, hb93⟩
              have hB93 := hB92.trans (hb93.mono hB92.size)
              go_wp2_with fail
              refine hKC.out _ _ ⟨rangeN_below hZe hB93 hle, rangeN_below hXe hB93 hxe⟩ (fun hHeld93 => ?_)
              clear hKC KC
              try simp only [Act.put, List.setIfInBounds_toArray, List.set_cons_zero, List.set_cons_succ]
              refine wpAnyH_ready (rs := [12]) (by kernel_rfl) (by simp) ?_
              refine AllReadyH.cons rfl (fun KC hKC => ?_) AllReadyH.nil
              go_simp
              refine hKC.out _ _ ⟨rangeN_below hZe hB93 hle, rangeN_below hXe hB93 hxe⟩ (fun hHeld94 => ?_)
              clear hKC KC
              try simp only [Act.put, List.setIfInBounds_toArray, List.set_cons_zero, List.set_cons_succ]
              refine anyH_take (i := 13) (v := .bool false) (some 152) rfl rfl (by kernel_rfl) (by kernel_rfl) (by kernel_rfl) (fun _ _ _ h => h) (Or.inl ⟨by rfl, fun _ hw => by go_simp⟩) (by assumption) ?_
              simp only [Act.put, List.setIfInBounds_toArray, List.set_cons_zero, List.set_cons_succ]
              refine wpAnyH_done (by kernel_rfl) ?_ _
              clear hHeld
              have hfin : Below wq.heap.size wq w93 := hbd.trans ((hBz.trans ((hbe.mono hBz.size).trans (hB93.mono (Nat.le_trans hBz.size hbe.size)))).mono hbd.size)
              go_wp2_with fail
              case roundEnd => exact ⟨⟨u + 1, by omega, by simp, hfin⟩, by simp [intOf]; omega⟩
          · go_simp
            refine hKC.out _ _ ⟨rangeN_below hPr (Below.alloc hB30 hB30.size _) hpl, rangeN_below hXr (Below.alloc hB30 hB30.size _) hxl⟩ (fun hHeld38 => ?_)
            clear hKC KC
            try simp only [Act.put, List.setIfInBounds_toArray, List.set_cons_zero, List.set_cons_succ]
            change wpAnyH _ _ _ _ _ _ _ _ (wd.alloc (.cells (Lib.byteCells z48).toArray 40))
            obtain ⟨g38, hg38⟩ : ∃ x, x = wd.heap.size := ⟨_, rfl⟩
            have N38 := Arr.new wd 40 (Lib.byteCells z48)
            have hb38 : Below wd.heap.size wd (wd.alloc (.cells (Lib.byteCells z48).toArray 40)) := (Below.refl _ _).alloc (Nat.le_refl _) _
            have hlo38 : wd.heap.size ≤ g38 := by have := hB30.size; omega
            obtain ⟨w38, hw38⟩ : ∃ x, x = wd.alloc (.cells (Lib.byteCells z48).toArray 40) := ⟨_, rfl⟩
            rw [← hw38] at hb38 N38 ⊢
            have hB38 := hB30.trans (hb38.mono hB30.size)
            rw [← hg38] at N38
            try rw [← hg38]
            clear hw38 hg38
            refine wpAnyH_ready (rs := [4]) (by kernel_rfl) (by simp) ?_
            refine AllReadyH.cons rfl (fun KC hKC => ?_) AllReadyH.nil
            go_simp
            go_at_call 12
            refine Calls.mono (rfinger_at Y hy48 YL GL HYL.out HGL.out _) ?_
            rintro e w39 ⟨rfl, hb39⟩
            have hB39 := hB38.trans (hb39.mono hB38.size)
            go_wp2_with fail
            refine hKC.out _ _ ⟨rangeN_below hPr hB39 hpl, rangeN_below hXr hB39 hxl⟩ (fun hHeld39 => ?_)
            clear hKC KC
            try simp only [Act.put, List.setIfInBounds_toArray, List.set_cons_zero, List.set_cons_succ]
            refine wpAnyH_ready (rs := [5]) (by kernel_rfl) (by simp) ?_
            refine AllReadyH.cons rfl (fun KC hKC => ?_) AllReadyH.nil
            go_simp
            go_at_call 11
            refine Calls.mono (nread_yes k gs i T (number : Nat) a n u (rootF bs) (fingF Y) DL GL YL _ (hSd.below hB39) (rootF_length _) (fingF_length _) HDL.out HGL.out hlu ha (by rw [hst]) (by rw [hst]; exact HYL.out)) ?_
            rintro e w40 ⟨rfl, hb40⟩
            have hB40 := hB39.trans (hb40.mono hB39.size)
            go_wp2_with fail
            refine hKC.out _ _ ⟨rangeN_below hPr hB40 hpl, rangeN_below hXr hB40 hxl⟩ (fun hHeld40 => ?_)
            clear hKC KC
            try simp only [Act.put, List.setIfInBounds_toArray, List.set_cons_zero, List.set_cons_succ]
            refine anyH_take (i := 6) (v := .tuple #[.agg YL.toArray, .int .i64 0]) (some 130) rfl rfl (by kernel_rfl) (by kernel_rfl) (by kernel_rfl) (fun _ _ _ h => h) (Or.inl ⟨by rfl, fun _ hw => by rfl⟩) (by assumption) ?_
            simp only [Act.put, List.setIfInBounds_toArray, List.set_cons_zero, List.set_cons_succ]
            refine anyH_take (i := 7) (v := .agg YL.toArray) (some 137) rfl rfl (by kernel_rfl) (by kernel_rfl) (by kernel_rfl) (fun _ _ _ h => h) (Or.inl ⟨by rfl, fun _ hw => by go_simp⟩) (by assumption) ?_
            simp only [Act.put, List.setIfInBounds_toArray, List.set_cons_zero, List.set_cons_succ]
            refine anyH_take (i := 8) (v := .int .i64 0) (some 138) rfl rfl (by kernel_rfl) (by kernel_rfl) (by kernel_rfl) (fun _ _ _ h => h) (Or.inl ⟨by rfl, fun _ hw => by go_simp⟩) (by assumption) ?_
            simp only [Act.put, List.setIfInBounds_toArray, List.set_cons_zero, List.set_cons_succ]
            refine wpAnyH_ready (rs := [10]) (by kernel_rfl) (by simp) ?_
            refine AllReadyH.cons rfl (fun KC hKC => ?_) AllReadyH.nil
            rw [if_pos (by rfl)]
            obtain ⟨hth41, hs41, ho41⟩ := put_arr (Arr.below N38 ((hb39).trans (hb40.mono (hb39).size)) (Arr.lt N38)) (show (Lib.byteCells z48).length = YL.length by rw [hYl]; rfl)
            refine wp_store_mid 40 _ _ rfl g38 0 YL.toArray rfl rfl (by rw [List.size_toArray]; exact hth41) HYLi.out HYL1.out ?_
            have hB41 := hB40.trans (ho41.below (B := wd.heap.size) hB40.size (by rintro j rfl; exact hlo38))
            refine hKC.out _ _ ⟨rangeN_below hPr hB41 hpl, rangeN_below hXr hB41 hxl⟩ (fun hHeld41 => ?_)
            clear hKC KC
            try simp only [Act.put, List.setIfInBounds_toArray, List.set_cons_zero, List.set_cons_succ]
            try rw [show YL.toArray.toList = YL from rfl]
            obtain ⟨w41, hw41⟩ : ∃ x, x = w40.setCells g38 0 YL := ⟨_, rfl⟩
            rw [← hw41] at hB41 hs41 hHeld41 ⊢
            clear hw41 ho41 hth41
            refine anyH_take (i := 11) (v := .int .i64 0) (some 20) rfl rfl (by kernel_rfl) (by kernel_rfl) (by kernel_rfl) (fun _ _ _ h => h) (Or.inl ⟨by rfl, fun _ hw => by go_simp⟩) (by assumption) ?_
            simp only [Act.put, List.setIfInBounds_toArray, List.set_cons_zero, List.set_cons_succ]
            refine wpAnyH_done (by kernel_rfl) ?_ _
            clear hHeld
            have hBz := hB41
            have hZz := Arr.rangeN hs41
            have hlz := Arr.lt hs41
            have hXz := rangeN_below hXr hB41 hxl
            have hxz : gx < w41.heap.size := Nat.lt_of_lt_of_le hxl hB41.size
            go_wp2_with fail
            have hZe0 : w41.drew.rangeAt g38 0 YL := hZz
            have hXe0 : w41.drew.rangeAt gx 0 YL := hXz
            refine wp_region_held_drew (S := fun w' => w'.rangeAt g38 0 YL ∧ w'.rangeAt gx 0 YL) (by kernel_rfl) ⟨hZe0, hXe0⟩ (fun hHeld => ?_)
            have hle0 : g38 < w41.drew.heap.size := hlz
            have hxe0 : gx < w41.drew.heap.size := hxz
            have hbe : Below w41.heap.size w41 w41.drew := Below.dN (Below.refl _ _) 1
            obtain ⟨we, hwe⟩ : ∃ x, x = w41.drew := ⟨_, rfl⟩
            rw [← hwe] at hbe hZe0 hXe0 hle0 hxe0 ⊢
            try rw [← hwe] at hHeld
            clear hwe
            have hZe := hZe0
            have hXe := hXe0
            have hle := hle0
            have hxe := hxe0
            have hB90 : Below we.heap.size we we := Below.refl _ _
            refine anyH_take (i := 0) (v := .int .i64 0) (some 139) rfl rfl (by kernel_rfl) (by kernel_rfl) (by kernel_rfl) (fun _ _ _ h => h) (Or.inl ⟨by rfl, fun _ hw => by rfl⟩) (by assumption) ?_
            simp only [Act.put, List.setIfInBounds_toArray, List.set_cons_zero, List.set_cons_succ]
            refine anyH_take (i := 1) (v := .bool false) (some 140) rfl rfl (by kernel_rfl) (by kernel_rfl) (by kernel_rfl) (fun _ _ _ h => h) (Or.inl ⟨by rfl, fun _ hw => by go_simp⟩) (by assumption) ?_
            simp only [Act.put, List.setIfInBounds_toArray, List.set_cons_zero, List.set_cons_succ]
            refine anyH_take (i := 2) (v := .bool false) (some 141) rfl rfl (by kernel_rfl) (by kernel_rfl) (by kernel_rfl) (fun _ _ _ h => h) (Or.inl ⟨by rfl, fun _ hw => by rfl⟩) (by assumption) ?_
            simp only [Act.put, List.setIfInBounds_toArray, List.set_cons_zero, List.set_cons_succ]
            refine anyH_take (i := 3) (some 142) rfl rfl (by kernel_rfl) (by kernel_rfl) (by kernel_rfl) (fun _ _ _ h => h) (yieldsIf_load_mid (by rfl) 40 (.tmp 19) rfl g38 0 rfl YL _ (fun _ h => h.1) Try.underlying40 rfl HYLn.out) (by assumption) ?_
            simp only [Act.put, List.setIfInBounds_toArray, List.set_cons_zero, List.set_cons_succ]
            refine anyH_take (i := 4) (some 143) rfl rfl (by kernel_rfl) (by kernel_rfl) (by kernel_rfl) (fun _ _ _ h => h) (yieldsIf_load_mid (by rfl) 40 (.tmp 18) rfl gx 0 rfl YL _ (fun _ h => h.2) Try.underlying40 rfl HYLn.out) (by assumption) ?_
            simp only [Act.put, List.setIfInBounds_toArray, List.set_cons_zero, List.set_cons_succ]
            refine wpAnyH_ready (rs := [5]) (by kernel_rfl) (by simp) ?_
            refine AllReadyH.cons rfl (fun KC hKC => ?_) AllReadyH.nil
            go_simp
            refine hKC.out _ _ ⟨rangeN_below hZe hB90 hle, rangeN_below hXe hB90 hxe⟩ (fun hHeld91 => ?_)
            clear hKC KC
            try simp only [Act.put, List.setIfInBounds_toArray, List.set_cons_zero, List.set_cons_succ]
            refine anyH_take (i := 6) (v := .bool false) (some 145) rfl rfl (by kernel_rfl) (by kernel_rfl) (by kernel_rfl) (fun _ _ _ h => h) (Or.inl ⟨by rfl, fun _ hw => by go_simp⟩) (by assumption) ?_
            simp only [Act.put, List.setIfInBounds_toArray, List.set_cons_zero, List.set_cons_succ]
            refine anyH_take (i := 7) (v := .bool false) (some 146) rfl rfl (by kernel_rfl) (by kernel_rfl) (by kernel_rfl) (fun _ _ _ h => h) (Or.inl ⟨by rfl, fun _ hw => by rfl⟩) (by assumption) ?_
            simp only [Act.put, List.setIfInBounds_toArray, List.set_cons_zero, List.set_cons_succ]
            refine anyH_take (i := 8) (some 147) rfl rfl (by kernel_rfl) (by kernel_rfl) (by kernel_rfl) (fun _ _ _ h => h) (yieldsIf_load_mid (by rfl) 40 (.tmp 18) rfl gx 0 rfl YL _ (fun _ h => h.2) Try.underlying40 rfl HYLn.out) (by assumption) ?_
            simp only [Act.put, List.setIfInBounds_toArray, List.set_cons_zero, List.set_cons_succ]
            refine anyH_take (i := 10) (some 149) rfl rfl (by kernel_rfl) (by kernel_rfl) (by kernel_rfl) (fun _ _ _ h => h) (yieldsIf_load_mid (by rfl) 40 (.tmp 18) rfl gx 0 rfl YL _ (fun _ h => h.2) Try.underlying40 rfl HYLn.out) (by assumption) ?_
            simp only [Act.put, List.setIfInBounds_toArray, List.set_cons_zero, List.set_cons_succ]
            refine wpAnyH_ready (rs := [9]) (by kernel_rfl) (by simp) ?_
            refine AllReadyH.cons rfl (fun KC hKC => ?_) AllReadyH.nil
            go_simp
            go_at_call 13
            refine Calls.mono (finger_at Y hy48 YL GL HYL.out HGL.out _) ?_
            rintro e w92 ⟨rfl, hb92⟩
            have hB92 := hB90.trans (hb92.mono hB90.size)
            go_wp2_with fail
            refine hKC.out _ _ ⟨rangeN_below hZe hB92 hle, rangeN_below hXe hB92 hxe⟩ (fun hHeld92 => ?_)
            clear hKC KC
            try simp only [Act.put, List.setIfInBounds_toArray, List.set_cons_zero, List.set_cons_succ]
            refine wpAnyH_ready (rs := [11]) (by kernel_rfl) (by simp) ?_
            refine AllReadyH.cons rfl (fun KC hKC => ?_) AllReadyH.nil
            go_simp
            go_at_call 12
            refine Calls.mono (rfinger_at Y hy48 YL GL HYL.out HGL.out _) ?_
            rintro e w93 ⟨rfl, hb93⟩
            have hB93 := hB92.trans (hb93.mono hB92.size)
            go_wp2_with fail
            refine hKC.out _ _ ⟨rangeN_below hZe hB93 hle, rangeN_below hXe hB93 hxe⟩ (fun hHeld93 => ?_)
            clear hKC KC
            try simp only [Act.put, List.setIfInBounds_toArray, List.set_cons_zero, List.set_cons_succ]
            refine wpAnyH_ready (rs := [12]) (by kernel_rfl) (by simp) ?_
            refine AllReadyH.cons rfl (fun KC hKC => ?_) AllReadyH.nil
            go_simp
            refine hKC.out _ _ ⟨rangeN_below hZe hB93 hle, rangeN_below hXe hB93 hxe⟩ (fun hHeld94 => ?_)
            clear hKC KC
            try simp only [Act.put, List.setIfInBounds_toArray, List.set_cons_zero, List.set_cons_succ]
            refine anyH_take (i := 13) (v := .bool false) (some 152) rfl rfl (by kernel_rfl) (by kernel_rfl) (by kernel_rfl) (fun _ _ _ h => h) (Or.inl ⟨by rfl, fun _ hw => by go_simp⟩) (by assumption) ?_
            simp only [Act.put, List.setIfInBounds_toArray, List.set_cons_zero, List.set_cons_succ]
            refine wpAnyH_done (by kernel_rfl) ?_ _
            clear hHeld
            have hfin : Below wq.heap.size wq w93 := hbd.trans ((hBz.trans ((hbe.mono hBz.size).trans (hB93.mono (Nat.le_trans hBz.size hbe.size)))).mono hbd.size)
            go_wp2_with fail
            case roundEnd => exact ⟨⟨u + 1, by omega, by simp, hfin⟩, by simp [intOf]; omega⟩
        · obtain rfl : u = n := by omega
          have hd7 : decide ((u : Int) < (u : Int)) = false := by simp
          have hd7n : decide (u < u) = false := by simp
          go_wp2_with (first
            | (refine wpList_load_row rfl _ _ rfl gp rfl 31 DL.toArray (0, 0) _ hPv Try.underlying31 rfl HDLi.out ?_))
          refine Calls.mono (nall_at k gs i T (number : Nat) a u (rootF bs) DL true wv hSv (rootF_length _) HDL.out hn1 ha (by rw [HTall.out]; simp)) ?_
          rintro e w6 ⟨h6, _, hb6⟩
          obtain ⟨g, rfl, hG6, hg6⟩ := h6 (by first | rfl | trivial)
          rw [HTall.out] at hG6
          have hB6 := hBv.trans (hb6.mono hBv.size)
          have hP6 := hPv.below hb6 hPv.lt
          clear h6 hSv hb6 hPv hBv hbv
          go_wp2_with fail
          have hpl : gp < w6.drew.heap.size := hP6.lt
          have hPr0 : w6.drew.rangeAt gp 0 DL := hP6.rangeN
          have hGd0 : Arr w6.drew g 40 (blkC bs) := hG6.drewN 1
          have hBd0 : Below w.heap.size w w6.drew := Below.dN hB6 1
          clear hP6 hG6 hB6
          refine wp_region_held_drew (S := fun w' => w'.rangeAt gp 0 DL) (by kernel_rfl) hPr0 (fun hHeld => ?_)
          obtain ⟨wd, hwd⟩ : ∃ x, x = w6.drew := ⟨_, rfl⟩
          rw [← hwd] at hpl hPr0 hGd0 hBd0 hHeld ⊢
          clear hwd
          have hPr := hPr0
          have hGd := hGd0
          have hBd := hBd0
          have hB30 : Below wd.heap.size wd wd := Below.refl _ _
          clear hPr0 hGd0 hBd0
          refine anyH_take (i := 0) (v := .int .i64 0) (some 160) rfl rfl (by kernel_rfl) (by kernel_rfl) (by kernel_rfl) (fun _ _ _ h => h) (Or.inl ⟨by rfl, fun _ hw => by rfl⟩) (by assumption) ?_
          simp only [Act.put, List.setIfInBounds_toArray, List.set_cons_zero, List.set_cons_succ]
          refine anyH_take (i := 1) (v := .bool true) (some 161) rfl rfl (by kernel_rfl) (by kernel_rfl) (by kernel_rfl) (fun _ _ _ h => h) (Or.inl ⟨by rfl, fun _ hw => by go_simp⟩) (by assumption) ?_
          simp only [Act.put, List.setIfInBounds_toArray, List.set_cons_zero, List.set_cons_succ]
          refine anyH_take (i := 2) (v := .bool true) (some 162) rfl rfl (by kernel_rfl) (by kernel_rfl) (by kernel_rfl) (fun _ _ _ h => h) (Or.inl ⟨by rfl, fun _ hw => by rfl⟩) (by assumption) ?_
          simp only [Act.put, List.setIfInBounds_toArray, List.set_cons_zero, List.set_cons_succ]
          refine anyH_take (i := 3) (some 163) rfl rfl (by kernel_rfl) (by kernel_rfl) (by kernel_rfl) (fun _ _ _ h => h) (yieldsIf_load_mid (by rfl) 31 (.tmp 11) rfl gp 0 rfl DL _ (fun _ h => h) Try.underlying31 rfl HDLn.out) (by assumption) ?_
          simp only [Act.put, List.setIfInBounds_toArray, List.set_cons_zero, List.set_cons_succ]
          refine anyH_take (i := 4) (v := .int .i64 (number : Nat)) (some 164) rfl rfl (by kernel_rfl) (by kernel_rfl) (by kernel_rfl) (fun _ _ _ h => h) (Or.inl ⟨by rfl, fun _ hw => by rfl⟩) (by assumption) ?_
          simp only [Act.put, List.setIfInBounds_toArray, List.set_cons_zero, List.set_cons_succ]
          refine anyH_take (i := 5) (v := .int .i64 (a : Nat)) (some 165) rfl rfl (by kernel_rfl) (by kernel_rfl) (by kernel_rfl) (fun _ _ _ h => h) (Or.inl ⟨by rfl, fun _ hw => by rfl⟩) (by assumption) ?_
          simp only [Act.put, List.setIfInBounds_toArray, List.set_cons_zero, List.set_cons_succ]
          refine anyH_take (i := 6) (v := .slice (some ⟨b, off, none⟩) u c) (some 166) rfl rfl (by kernel_rfl) (by kernel_rfl) (by kernel_rfl) (fun _ _ _ h => h) (Or.inl ⟨by rfl, fun _ hw => by rfl⟩) (by assumption) ?_
          simp only [Act.put, List.setIfInBounds_toArray, List.set_cons_zero, List.set_cons_succ]
          refine anyH_take (i := 7) (v := .int .i64 (u : Nat)) (some 167) rfl rfl (by kernel_rfl) (by kernel_rfl) (by kernel_rfl) (fun _ _ _ h => h) (Or.inl ⟨by rfl, fun _ hw => by go_simp⟩) (by assumption) ?_
          simp only [Act.put, List.setIfInBounds_toArray, List.set_cons_zero, List.set_cons_succ]
          refine anyH_take (i := 8) (v := .slice (some ⟨b, off, none⟩) u c) (some 168) rfl rfl (by kernel_rfl) (by kernel_rfl) (by kernel_rfl) (fun _ _ _ h => h) (Or.inl ⟨by rfl, fun _ hw => by rfl⟩) (by assumption) ?_
          simp only [Act.put, List.setIfInBounds_toArray, List.set_cons_zero, List.set_cons_succ]
          refine wpAnyH_ready (rs := [9]) (by kernel_rfl) (by simp) ?_
          refine AllReadyH.cons rfl (fun KC hKC => ?_) AllReadyH.nil
          go_simp
          go_at_call 15
          refine Calls.mono (r10root_at bs u c b off RL _ Hbl.out (by omega) hnc hcm H48.out (Nat.lt_of_lt_of_le hb (Nat.le_trans hBd.size hB30.size)) (Hr.out _ (hBd.trans (hB30.mono hBd.size))) HRL.out) ?_
          rintro e w31 ⟨rfl, hb31⟩
          have hB31 := hB30.trans (hb31.mono hB30.size)
          go_wp2_with fail
          refine hKC.out _ _ (rangeN_below hPr hB31 hpl) (fun hHeld31 => ?_)
          clear hKC KC
          try simp only [Act.put, List.setIfInBounds_toArray, List.set_cons_zero, List.set_cons_succ]
          refine anyH_take (i := 10) (some 170) rfl rfl (by kernel_rfl) (by kernel_rfl) (by kernel_rfl) (fun _ _ _ h => h) (yieldsIf_build (by rfl) _ _ rfl _ rfl DL.toArray HDbR.out) (by assumption) ?_
          simp only [Act.put, List.setIfInBounds_toArray, List.set_cons_zero, List.set_cons_succ]
          refine wpAnyH_ready (rs := [11]) (by kernel_rfl) (by simp) ?_
          refine AllReadyH.cons rfl (fun KC hKC => ?_) AllReadyH.nil
          go_simp
          refine hKC.out _ _ (rangeN_below hPr hB31 hpl) (fun hHeld32 => ?_)
          clear hKC KC
          try simp only [Act.put, List.setIfInBounds_toArray, List.set_cons_zero, List.set_cons_succ]
          refine anyH_take (i := 12) (v := .bool true) (some 172) rfl rfl (by kernel_rfl) (by kernel_rfl) (by kernel_rfl) (fun _ _ _ h => h) (Or.inl ⟨by rfl, fun _ hw => by go_simp⟩) (by assumption) ?_
          simp only [Act.put, List.setIfInBounds_toArray, List.set_cons_zero, List.set_cons_succ]
          refine anyH_take (i := 13) (v := .bool true) (some 173) rfl rfl (by kernel_rfl) (by kernel_rfl) (by kernel_rfl) (fun _ _ _ h => h) (Or.inl ⟨by rfl, fun _ hw => by rfl⟩) (by assumption) ?_
          simp only [Act.put, List.setIfInBounds_toArray, List.set_cons_zero, List.set_cons_succ]
          refine anyH_take (i := 14) (v := .int .i64 0) (some 174) rfl rfl (by kernel_rfl) (by kernel_rfl) (by kernel_rfl) (fun _ _ _ h => h) (Or.inl ⟨by rfl, fun _ hw => by rfl⟩) (by assumption) ?_
          simp only [Act.put, List.setIfInBounds_toArray, List.set_cons_zero, List.set_cons_succ]
          refine anyH_take (i := 15) (v := .bool true) (some 175) rfl rfl (by kernel_rfl) (by kernel_rfl) (by kernel_rfl) (fun _ _ _ h => h) (Or.inl ⟨by rfl, fun _ hw => by go_simp⟩) (by assumption) ?_
          simp only [Act.put, List.setIfInBounds_toArray, List.set_cons_zero, List.set_cons_succ]
          refine anyH_take (i := 16) (v := .bool true) (some 176) rfl rfl (by kernel_rfl) (by kernel_rfl) (by kernel_rfl) (fun _ _ _ h => h) (Or.inl ⟨by rfl, fun _ hw => by go_simp⟩) (by assumption) ?_
          simp only [Act.put, List.setIfInBounds_toArray, List.set_cons_zero, List.set_cons_succ]
          refine anyH_take (i := 17) (v := .bool true) (some 177) rfl rfl (by kernel_rfl) (by kernel_rfl) (by kernel_rfl) (fun _ _ _ h => h) (Or.inl ⟨by rfl, fun _ hw => by rfl⟩) (by assumption) ?_
          simp only [Act.put, List.setIfInBounds_toArray, List.set_cons_zero, List.set_cons_succ]
          refine anyH_take (i := 18) (v := .slice (some ⟨g, 0, none⟩) u u) (some 178) rfl rfl (by kernel_rfl) (by kernel_rfl) (by kernel_rfl) (fun _ _ _ h => h) (Or.inl ⟨by rfl, fun _ hw => by rfl⟩) (by assumption) ?_
          simp only [Act.put, List.setIfInBounds_toArray, List.set_cons_zero, List.set_cons_succ]
          refine anyH_take (i := 19) (v := .slice (some ⟨b, off, none⟩) u c) (some 179) rfl rfl (by kernel_rfl) (by kernel_rfl) (by kernel_rfl) (fun _ _ _ h => h) (Or.inl ⟨by rfl, fun _ hw => by rfl⟩) (by assumption) ?_
          simp only [Act.put, List.setIfInBounds_toArray, List.set_cons_zero, List.set_cons_succ]
          refine wpAnyH_ready (rs := [20]) (by kernel_rfl) (by simp) ?_
          refine AllReadyH.cons rfl (fun KC hKC => ?_) AllReadyH.nil
          go_simp
          go_at_call 16
          refine Calls.mono (nsame_below bs bs (some ⟨g, 0, none⟩) (some ⟨b, off, none⟩) u u u c true _ Hbl.out Hbl.out ((hGd.below hB31 hGd.lt).bsAt H48.out) (fun _ => ⟨b, off, rfl, Nat.lt_of_lt_of_le hb (Nat.le_trans hBd.size hB31.size), fun j hj => ⟨H48.out _ (by simp [List.getD, hj]), Hr.out _ (hBd.trans (hB31.mono hBd.size)) j (by have := Hbl.out; omega)⟩⟩) (Nat.le_refl _) hnc (by omega) hcm (by simp)) ?_
          rintro e w33 ⟨rfl, hb33⟩
          have hB33 := hB31.trans (hb33.mono hB31.size)
          go_wp2_with fail
          refine hKC.out _ _ (rangeN_below hPr hB33 hpl) (fun hHeld33 => ?_)
          clear hKC KC
          try simp only [Act.put, List.setIfInBounds_toArray, List.set_cons_zero, List.set_cons_succ]
          refine anyH_take (i := 21) (v := .bool true) (some 181) rfl rfl (by kernel_rfl) (by kernel_rfl) (by kernel_rfl) (fun _ _ _ h => h) (Or.inl ⟨by rfl, fun _ hw => by go_simp⟩) (by assumption) ?_
          simp only [Act.put, List.setIfInBounds_toArray, List.set_cons_zero, List.set_cons_succ]
          refine anyH_take (i := 22) (v := .bool true) (some 8) rfl rfl (by kernel_rfl) (by kernel_rfl) (by kernel_rfl) (fun _ _ _ h => h) (Or.inl ⟨by rfl, fun _ hw => by go_simp⟩) (by assumption) ?_
          simp only [Act.put, List.setIfInBounds_toArray, List.set_cons_zero, List.set_cons_succ]
          refine wpAnyH_done (by kernel_rfl) ?_ _
          clear hHeld
          have hfin := hBd.trans (hB33.mono hBd.size)
          go_wp2_with fail
          go_ret
          exact ⟨rfl, hfin⟩

end Go.Proofs.Ytccccpadnaocfaa

namespace Go.Proofs.Ytccccpadnaocfaa
open Go.RowKit
set_option linter.unusedVariables false
set_option linter.unusedSimpArgs false

theorem bin_writes_walk (z : Int) (hz0 : -9223372036854775808 ≤ z) (hz1 : z ≤ 9223372036854775807) (number : Int) (hn0 : -9223372036854775808 ≤ number) (hn1 : number ≤ 9223372036854775807) (a : Int) (ha0 : -9223372036854775808 ≤ a) (ha1 : a ≤ 9223372036854775807)
    (A : Option Addr) (n c : Nat) (bs : List (List UInt8)) (hbl : bs.length = n) (hnc : n ≤ c) (hcm : c ≤ maxLen) (w : World) (hA : BsAt w A bs) :
    Calls Try.prog 3 #[.int .i64 z, .int .i64 number, .int .i64 a, .slice A n c] w fun e w' => e = .returned (.bool true) ∧ Below w.heap.size w w' := by
  have hcm63 : c ≤ 9223372036854775807 := by unfold maxLen at hcm; exact hcm
  by_cases hg : z < 1 ∨ 100 < z ∨ 60 < n
  · exact bw_great z number a A n c w hg
  obtain ⟨m, rfl⟩ : ∃ m : Nat, z = (m : Int) := ⟨z.toNat, by omega⟩
  by_cases h1 : number < 0 ∨ n = 0
  · exact bw_arg m number a A n c w (by omega) (by omega) (by omega) h1
  by_cases h2 : a < 0 ∨ (m : Int) ≤ a ∨ (m : Int) - a < n
  · exact bw_range m number a A n c w (by omega) (by omega) (by omega) (by omega) (by omega) ha0 ha1 h2
  obtain ⟨x, rfl⟩ : ∃ x : Nat, number = (x : Int) := ⟨number.toNat, by omega⟩
  obtain ⟨y, rfl⟩ : ∃ y : Nat, a = (y : Int) := ⟨a.toNat, by omega⟩
  obtain ⟨b, off, rfl, hb, hr⟩ := hA (by omega)
  have h48 : ∀ s ∈ bs, s.length = 48 := fun s hs => by
    obtain ⟨i, hi, rfl⟩ := List.getElem_of_mem hs
    have := (hr i hi).1
    simpa [List.getD, hi] using this
  exact bw_good m x y b off n c bs w (by omega) (by omega) (by omega) (by omega) (by omega) (by omega) hbl hnc hcm63 h48 hb (fun i hi => (hr i (by omega)).2)


end Go.Proofs.Ytccccpadnaocfaa

/-
  Event.
-/
import Derived.Test.YtcajhndhjlfmaaaModBytes
import Derived.Test.YtcajhndhjlfmaaaModDo
namespace Go.Proofs.Ytcajhndhjlfmaaa
open Go.RowKit
set_option linter.unusedVariables false
set_option linter.unusedSimpArgs false

/-- A whole number, taken modulo 2^64. -/
def uF (a : Int) : Nat := (IntKind.u64.wrap a).toNat

theorem uF_wrap (a : Int) : IntKind.u64.wrap a = ((uF a : Nat) : Int) ∧ uF a < 18446744073709551616 := by
  unfold uF
  have h : IntKind.u64.wrap a = a % 18446744073709551616 := by rw [IntKind.wrap_u64]
  omega

theorem uF_nat {n : Nat} (h : n < 18446744073709551616) : uF (n : Int) = n := by
  unfold uF
  rw [IntWalk.u64_in _ (by omega)]
  simp

def evN (l : List Int) : List UInt8 := l.flatMap fun n => Lib.uvarint (uF n)
def evS (l : List ByteArray) : List UInt8 := l.flatMap fun s => Lib.uvarint s.size ++ s.data.toList
/-- An operation's event. -/
def evF (o : Op15) : List UInt8 := evN [o.kind, o.num, o.quota] ++ evS [o.name, o.other] ++ (if o.kind = 3 then o.blk else [])
theorem owns_down {w : World} {B B' : Nat} {T : TypeId} {v : Value} {l : List UInt8} (h : Owns w B T v l) (hB : B' ≤ B) : Owns w B' T v l := by
  refine ⟨h.1, ?_⟩
  rcases h.2 with h0 | ⟨g, cap, cur, e, e1, e2, e3⟩
  · exact .inl h0
  · exact .inr ⟨g, cap, cur, e, Nat.le_trans hB e1, e2, e3⟩
theorem arr3_built (a b c : Int) : Try.prog.built 118 [(0, .int .i64 a), (1, .int .i64 b), (2, .int .i64 c)] = some #[.int .i64 a, .int .i64 b, .int .i64 c] := by kernel_rfl
theorem arr2_built (a b : ByteArray) : Try.prog.built 119 [(0, .string a), (1, .string b)] = some #[.string a, .string b] := by kernel_rfl
theorem arr3_idx (a b c : Int) (w : World) : ∀ k : Nat, k < 3 → (Instr.index 118 (.agg #[.int .i64 a, .int .i64 b, .int .i64 c]) (.int .i64 k)).run Try.prog w = .ok (.int .i64 ([a, b, c].getD k 0)) w
  | 0, _ => by kernel_rfl
  | 1, _ => by kernel_rfl
  | 2, _ => by kernel_rfl
theorem arr2_idx (a b : ByteArray) (w : World) : ∀ k : Nat, k < 2 → (Instr.index 119 (.agg #[.string a, .string b]) (.int .i64 k)).run Try.prog w = .ok (.string ([a, b].getD k ⟨#[]⟩)) w
  | 0, _ => by kernel_rfl
  | 1, _ => by kernel_rfl
theorem evN_le (l : List Int) : (evN l).length ≤ l.length * 10 := by
  unfold evN
  induction l with
  | nil => simp
  | cons a r ih =>
    rw [List.flatMap_cons, List.length_append, List.length_cons]
    have := Lib.uvarint_length64 (uF_wrap a).2
    omega
theorem evS_le (l : List ByteArray) (h : ∀ s ∈ l, s.size ≤ 100) : (evS l).length ≤ l.length * 110 := by
  unfold evS
  induction l with
  | nil => simp
  | cons a r ih =>
    rw [List.flatMap_cons, List.length_append, List.length_cons, List.length_append]
    have h1 := h a List.mem_cons_self
    have := Lib.uvarint_length64 (x := a.size) (by omega)
    have := ih fun s hs => h s (List.mem_cons_of_mem _ hs)
    have e : a.data.toList.length = a.size := by simp
    omega

set_option maxHeartbeats 16000000 in
set_option maxRecDepth 100000 in
theorem event_any (o : Op15) (ho : OpOk o) (h1 : o.name.size ≤ 100) (h2 : o.other.size ≤ 100) (OL : List Value) (hOL : OL = opC o) (w : World) :
    Calls Try.prog 24 #[.agg OL.toArray] w fun e w' => ∃ v, e = .returned v ∧ Owns w' w.heap.size 5 v (evF o) ∧ Below w.heap.size w w' := by
  obtain ⟨i0, hi, hz0, hz1, hz2⟩ := info_parts byteInfo
  obtain ⟨hk0, hk1, hk2, hk3, hk4⟩ := opC_at hOL
  obtain ⟨W1, hW1⟩ : ∃ z, z = w.alloc (.cells OL.toArray 44) := ⟨_, rfl⟩
  have hb1 : Below w.heap.size w W1 := by rw [hW1]; exact (Below.refl _ _).alloc (Nat.le_refl _) _
  have hA1 : Arr W1 w.heap.size 44 OL := by rw [hW1]; exact Arr.new w _ _
  have hs1 : W1.heap.size = w.heap.size + 1 := by rw [hW1]; simp
  obtain ⟨g, hg⟩ : ∃ z, z = w.heap.size := ⟨_, rfl⟩
  obtain ⟨B, hB⟩ : ∃ z, z = W1.heap.size := ⟨_, rfl⟩
  rw [← hg] at hA1
  have hgB : g < B := by omega
  have hwB : w.heap.size ≤ B := by omega
  obtain ⟨kd, hkd⟩ : ∃ z, z = o.kind := ⟨_, rfl⟩
  obtain ⟨n, hn⟩ : ∃ z, z = o.num := ⟨_, rfl⟩
  obtain ⟨q, hq⟩ : ∃ z, z = o.quota := ⟨_, rfl⟩
  obtain ⟨nm, hnm⟩ : ∃ z, z = o.name := ⟨_, rfl⟩
  obtain ⟨ot, hot⟩ : ∃ z, z = o.other := ⟨_, rfl⟩
  rw [← hkd] at hk0
  rw [← hnm] at hk1 h1
  rw [← hot] at hk2 h2
  rw [← hn] at hk3
  rw [← hq] at hk4
  have hc0 : W1.cell? ⟨g, 0, none⟩ = some (.int .i64 kd) := by rw [hA1.cell]; exact hk0
  have hc1 : W1.cell? ⟨g, 1, none⟩ = some (.string nm) := by rw [hA1.cell]; exact hk1
  have hc2 : W1.cell? ⟨g, 2, none⟩ = some (.string ot) := by rw [hA1.cell]; exact hk2
  have hc3 : W1.cell? ⟨g, 3, none⟩ = some (.int .i64 n) := by rw [hA1.cell]; exact hk3
  have hc4 : W1.cell? ⟨g, 4, none⟩ = some (.int .i64 q) := by rw [hA1.cell]; exact hk4
  have Hev := Lib.hid (show evF o = evN [kd, n, q] ++ evS [nm, ot] ++ (if kd = 3 then o.blk else []) by rw [hkd, hn, hq, hnm, hot]; rfl)
  have Hk0 := Lib.hid hk0
  have HOL := Lib.hid hOL
  have HW1 := Lib.hid hW1
  have Hg := Lib.hid hg
  have HB := Lib.hid hB
  have Hb1 := Lib.hid hb1
  have HA1 := Lib.hid hA1
  have H48 := Lib.hid ho.b48
  have h48 := ho.b48
  clear hOL hW1 hk0 hk1 hk2 hk3 hk4 hkd hn hq hnm hot hg hB hb1 hA1 hs1 ho
  go_enter Try.func24, Try.ntmps24
  go_upto_region 1 with fail
  rw [← HW1.out, ← Hg.out]
  clear HW1
  have hab := arr3_built
  have hL : B ≤ W1.heap.size := by rw [HB.out]; exact Nat.le_refl _
  have hO0 : Owns W1 B 5 (.slice none 0 0) (evN ([kd, n, q].take 0)) := Owns.nil _ _ _
  go_wp2_with fail
  go_loopw [3, 15] (fun v i wr => ∃ k : Nat, k ≤ 3 ∧ i = .int .i64 k ∧ Owns wr B 5 v (evN ([kd, n, q].take k)) ∧ Below B W1 wr) (fun _ i _ => 3 - (Go.RowKit.intOf i).toNat)
  case atStart => exact ⟨0, by omega, rfl, hO0, Below.refl _ _⟩
  case round =>
    clear hO0 hab hc0 hc3 hc4
    obtain ⟨k, hk, rfl, hO, hbr⟩ := hrel
    have hBr : B ≤ wr.heap.size := Nat.le_trans hL hbr.size
    by_cases hlt : k < 3
    · have hd1 : decide ((k : Int) < (3 : Int)) = true := by simp; omega
      have hix := arr3_idx kd n q wr k hlt
      obtain ⟨a, ha⟩ : ∃ a, a = [kd, n, q].getD k 0 := ⟨_, rfl⟩
      rw [← ha] at hix
      have hta : evN ([kd, n, q].take (k + 1)) = evN ([kd, n, q].take k) ++ Lib.uvarint (uF a) := by
        rw [List.take_succ_eq_append_getElem (by simpa using hlt)]
        unfold evN
        rw [List.flatMap_append]
        have e : [kd, n, q][k]'(by simpa using hlt) = a := by rw [ha]; simp [List.getD, hlt]
        rw [e]
        simp
      obtain ⟨x, hx⟩ : ∃ x, uF a = x := ⟨_, rfl⟩
      have hxw : IntKind.u64.wrap a = (x : Int) := by rw [← hx]; exact (uF_wrap a).1
      have hxl : x < 18446744073709551616 := by rw [← hx]; exact (uF_wrap a).2
      rw [hx] at hta
      have hle : (evN ([kd, n, q].take k)).length ≤ 30 := by
        have := evN_le ([kd, n, q].take k)
        have h3 : ([kd, n, q].take k).length ≤ 3 := by simp; omega
        omega
      have HO := Lib.hid hO
      have Hta := Lib.hid hta
      have Hbr := Lib.hid hbr
      obtain ⟨pre, hpre⟩ : ∃ z, z = evN ([kd, n, q].take k) := ⟨_, rfl⟩
      rw [← hpre] at HO Hta hle
      have Hn := Lib.hid (number_any B x hxl u3 pre wr HO.out hBr (by omega))
      clear hta hx ha hle hO hbr hpre
      go_wp2_with fail
      refine Calls.mono Hn.out ?_
      rintro e w3 ⟨v3, rfl, hO3, hg3⟩
      rw [← Hta.out] at hO3
      have hb3 : Below B W1 w3 := Hbr.out.trans (hg3.below hBr fun k hk => (HO.out.lt k hk).1)
      clear hg3 hix hxw Hn
      go_wp2_with fail
      go_roundw
      case rel => exact ⟨k + 1, by omega, by go_num, hO3, hb3⟩
      case measure => (simp [Go.RowKit.intOf]; try omega)
    · obtain rfl : k = 3 := by omega
      have hd1 : decide ((3 : Int) < (3 : Int)) = false := by simp
      have hAr := HA1.out.below hbr hgB
      have hc1r : wr.cell? ⟨g, 1, none⟩ = some (.string nm) := (World.cell?_of_block (hbr.block g hgB)).trans hc1
      have hc2r : wr.cell? ⟨g, 2, none⟩ = some (.string ot) := (World.cell?_of_block (hbr.block g hgB)).trans hc2
      have hO2 : Owns wr B 5 u3 (evN [kd, n, q] ++ evS ([nm, ot].take 0)) := by simpa [evS] using hO
      have HO2 := Lib.hid hO2
      have Hbr := Lib.hid hbr
      have hab := arr2_built
      clear hc1 hc2 hO hO2 hbr hAr
      go_wp2_with fail
      go_loopw [3, 28] (fun v i ws => ∃ k : Nat, k ≤ 2 ∧ i = .int .i64 k ∧ Owns ws B 5 v (evN [kd, n, q] ++ evS ([nm, ot].take k)) ∧ Below B W1 ws) (fun _ i _ => 2 - (Go.RowKit.intOf i).toNat)
      case atStart => exact ⟨0, by omega, rfl, HO2.out, Hbr.out⟩
      case round =>
        clear hab hc1r hc2r
        obtain ⟨k, hk, rfl, hO, hbr⟩ := hrel
        have hBr : B ≤ wr.heap.size := Nat.le_trans hL hbr.size
        have hN3 : (evN [kd, n, q]).length ≤ 30 := evN_le [kd, n, q]
        have hS2 : ∀ j, (evS ([nm, ot].take j)).length ≤ 220 := fun j => by
          have := evS_le ([nm, ot].take j) (fun s hs => by
            have := List.mem_of_mem_take hs
            simp only [List.mem_cons, List.mem_nil_iff, or_false] at this
            rcases this with rfl | rfl
            · exact h1
            · exact h2)
          have h3 : ([nm, ot].take j).length ≤ 2 := by simp; omega
          omega
        by_cases hlt : k < 2
        · have hd1 : decide ((k : Int) < (2 : Int)) = true := by simp; omega
          have hix := arr2_idx nm ot wr k hlt
          obtain ⟨a, ha⟩ : ∃ a, a = [nm, ot].getD k ⟨#[]⟩ := ⟨_, rfl⟩
          rw [← ha] at hix
          have ha100 : a.size ≤ 100 := by
            rw [ha]
            rcases Nat.lt_or_ge k 1 with h | h
            · obtain rfl : k = 0 := by omega
              exact h1
            · obtain rfl : k = 1 := by omega
              exact h2
          have hta : evN [kd, n, q] ++ evS ([nm, ot].take (k + 1)) = (evN [kd, n, q] ++ evS ([nm, ot].take k)) ++ (Lib.uvarint a.data.toList.length ++ a.data.toList) := by
            rw [List.take_succ_eq_append_getElem (by simpa using hlt)]
            unfold evS
            rw [List.flatMap_append]
            have e : [nm, ot][k]'(by simpa using hlt) = a := by rw [ha]; simp [List.getD, hlt]
            rw [e]
            simp
          obtain ⟨pre, hpre⟩ : ∃ z, z = evN [kd, n, q] ++ evS ([nm, ot].take k) := ⟨_, rfl⟩
          have hpl : pre.length ≤ 250 := by rw [hpre, List.length_append]; have := hS2 k; omega
          obtain ⟨bs, hbs⟩ : ∃ z, z = a.data.toList := ⟨_, rfl⟩
          obtain ⟨cp, hcp⟩ : ∃ z, z = grownCap wr a.size 0 5 := ⟨_, rfl⟩
          have hcge : a.size ≤ cp := by rw [hcp]; exact grownCap_ge wr a.size 0 5
          obtain ⟨wc, hwc⟩ : ∃ z, z = Lib.bytesWorld wr 5 a := ⟨_, rfl⟩
          have hal : bs.length = a.size := by rw [hbs]; rfl
          have hcv : (convert 9 22 (.string a)).run Try.prog wr = .ok (.slice (some ⟨wr.heap.size, 0, none⟩) bs.length cp) wc := by
            rw [hal, hcp, hwc]
            exact Lib.run_convert_string_bytes wr _ _ 5 a Try.underlying9 Try.underlying22 Try.underlying5
          have hbc : Below wr.heap.size wr wc := by
            rw [hwc]
            exact ⟨rfl, rfl, rfl, by rw [Lib.bytesWorld_size]; omega, fun i hi => Lib.bytesWorld_at_old wr _ a i hi⟩
          have hbb : Bs wc wc.heap.size (some ⟨wr.heap.size, 0, none⟩) bs := fun hp => ⟨wr.heap.size, 0, rfl, by rw [hwc, Lib.bytesWorld_size]; omega, fun j hj => by
            rw [hwc, Nat.zero_add, hbs]
            exact Lib.bytesWorld_cell wr _ a j (by rw [← hal]; exact hj)⟩
          rw [← hpre] at hO hta
          rw [← hbs] at hta
          have hOc : Owns wc B 5 u3 pre := hO.below hbc fun k hk => (hO.lt k hk).2
          have Hn := Lib.hid (bytes_anyO B u3 pre bs (some ⟨wr.heap.size, 0, none⟩) cp wc hOc (Nat.le_trans hBr hbc.size) hbb (fun b off e e2 => by injection e with e; injection e with e; have := (hO.lt b e2).2; omega) (by omega) (by omega))
          have HOc := Lib.hid hOc
          have Hta := Lib.hid hta
          have Hbc := Lib.hid (hbr.trans (hbc.mono hBr))
          clear hbc hbb hOc hta hpre hbs hcp hwc hO hbr hpl hal ha hcge ha100
          go_wp2_with fail
          refine Calls.mono Hn.out ?_
          rintro e w3 ⟨v3, rfl, hO3, hg3⟩
          rw [← Hta.out] at hO3
          have hb3 : Below B W1 w3 := Hbc.out.trans (hg3.below (Nat.le_trans hL Hbc.out.size) fun k hk => (HOc.out.lt k hk).1)
          clear hg3 hix hcv Hn
          go_wp2_with fail
          go_roundw
          case rel => exact ⟨_, _, _, _, _, _, _, _, _, _, ⟨k + 1, by omega, by go_num, hO3, hb3⟩, rfl⟩
          case measure => (simp [Go.RowKit.intOf]; try omega)
        · obtain rfl : k = 2 := by omega
          have hd1 : decide ((2 : Int) < (2 : Int)) = false := by simp
          have hc0r : wr.cell? ⟨g, 0, none⟩ = some (.int .i64 kd) := by rw [(HA1.out.below hbr hgB).cell]; exact Hk0.out
          have hO2 : Owns wr B 5 u3 (evN [kd, n, q] ++ evS [nm, ot]) := hO
          obtain ⟨pre, hpre⟩ : ∃ z, z = evN [kd, n, q] ++ evS [nm, ot] := ⟨_, rfl⟩
          have hpl : pre.length ≤ 250 := by rw [hpre, List.length_append]; have := hS2 2; have e : evS ([nm, ot].take 2) = evS [nm, ot] := rfl; rw [e] at this; omega
          rw [← hpre] at hO2
          rw [← hpre] at Hev
          have hAr := HA1.out.below hbr hgB
          have hbk : Bs wr wr.heap.size (some ⟨g, 5, none⟩) o.blk := fun _ => ⟨g, 5, rfl, hAr.lt, fun j hj => by
            rw [hAr.cell, HOL.out]
            show ([.int .i64 o.kind, .string o.name, .string o.other, .int .i64 o.num, .int .i64 o.quota] ++ Lib.byteCells o.blk)[5 + j]? = _
            rw [List.getElem?_append_right (by simp)]
            have := byteCells_get hj
            simpa using this⟩
          have hbw : Below w.heap.size w wr := Hb1.out.trans (hbr.mono hwB)
          have Hbw := Lib.hid hbw
          have HO3 := Lib.hid hO2
          have Hbk := Lib.hid hbk
          have Hpl := Lib.hid hpl
          clear hO hbr hO2 hpre hbw hbk hAr hpl hN3 hS2
          by_cases h3 : kd = 3
          · have hd3 : decide (kd = 3) = true := by simpa using h3
            rw [if_pos h3] at Hev
            go_wp2_with (refine wpList_append_bs rfl _ _ 22 rfl B 5 i0 (.int .u8 0) Try.underlying22 hi hz0 hz1 hz2 rfl u3 pre rfl HO3.out wr.heap.size (some ⟨g, 5, none⟩) 48 48 o.blk rfl H48.out Hbk.out (by have := Hpl.out; omega) hBr ?_; intro v6 w6 hO6 hg6)
            have hb6 : Below w.heap.size w w6 := Hbw.out.trans (hg6.below (by have := Hbw.out.size; exact this) fun k hk => by have := (HO3.out.lt k hk).1; omega)
            rw [← Hev.out] at hO6
            have HO6 := Lib.hid (owns_down hO6 hwB)
            clear hg6 hc0r hO6
            go_wp2_with fail
            go_ret
            exact ⟨_, rfl, HO6.out, hb6⟩
          · have hd3 : decide (kd = 3) = false := by simpa using h3
            rw [if_neg h3, List.append_nil] at Hev
            have HO6 := Lib.hid (owns_down HO3.out hwB)
            rw [← Hev.out] at HO6
            go_wp2_with fail
            go_ret
            exact ⟨_, rfl, HO6.out, Hbw.out⟩

end Go.Proofs.Ytcajhndhjlfmaaa

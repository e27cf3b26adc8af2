/-
  The walk of ShaTags.
-/
import Derived.Test.YtggefcelcjhgeaaShaAt
import Derived.Test.YtggefcelcjhgeaaRowsArg
import Derived.Test.YtggefcelcjhgeaaShaSpeaks
import Derived.Test.YtggefcelcjhgeaaTagsInv
namespace Go.Proofs.Ytggefcelcjhgeaa
open Go.RowKit
set_option linter.unusedVariables false
set_option linter.unusedSimpArgs false

theorem and_ffff (z : Int) : ∃ r : Nat, r < 65536 ∧ bits .and .i64 z 65535 = (r : Int) := by
  have h1 : (BitVec.ofInt 64 z &&& BitVec.ofInt 64 65535).toNat < 65536 := by
    rw [BitVec.toNat_and]
    exact Nat.lt_of_le_of_lt Nat.and_le_right (by decide)
  refine ⟨_, h1, ?_⟩
  show IntKind.i64.wrap ((BitVec.ofInt 64 z &&& BitVec.ofInt 64 65535).toNat : Int) = _
  rw [IntWalk.i64_in _ (by omega)]

/-- A row of two rows of bytes, new. -/
theorem rows_two {w : World} {B : Nat} {A A' : Option Addr} {l l' : List UInt8} {n n' c c' : Nat} (T : TypeId) (hn : l.length = n) (hn' : l'.length = n') (hc : n ≤ c) (hm : c ≤ maxLen) (hc' : n' ≤ c') (hm' : c' ≤ maxLen) (h : Bs w B A l) (h' : Bs w B A' l') (hB : B ≤ w.heap.size) :
    RowsAt (w.alloc (.cells #[.slice A n c, .slice A' n' c'] T)) (w.heap.size + 1) (some ⟨w.heap.size, 0, none⟩) [l, l'] := fun _ => by
  subst hn hn'
  have ha := Arr.new w T [.slice A l.length c, .slice A' l'.length c']
  have hb : Below w.heap.size w (w.alloc (.cells #[.slice A l.length c, .slice A' l'.length c'] T)) := (Below.refl _ w).alloc (Nat.le_refl _) _
  refine ⟨w.heap.size, 0, rfl, by omega, fun i hi => ?_⟩
  have hi2 : i = 0 ∨ i = 1 := by simp at hi; omega
  rcases hi2 with rfl | rfl
  · exact ⟨A, c, ha.cell 0, hc, hm, (h.below hb hB).more (by omega)⟩
  · exact ⟨A', c', ha.cell 1, hc', hm', (h'.below hb hB).more (by omega)⟩

set_option maxHeartbeats 8000000 in
set_option maxRecDepth 100000 in
theorem tags_walk (u : Nat) (hu : u < 256) (v : Nat) (hv : v < 256) (A : Option Addr) (c : Nat) (l : List UInt8) (hc : l.length ≤ c) (hm : c ≤ maxLen) (A' : Option Addr) (c' : Nat) (l' : List UInt8) (hc' : l'.length ≤ c') (hm' : c' ≤ maxLen) (z : Int) (hz1' : -9223372036854775808 ≤ z) (hz2' : z ≤ 9223372036854775807) (w : World) (hb : Bs w w.heap.size A l) (hb' : Bs w w.heap.size A' l') :
    Calls Try.prog 8 #[.int .u8 (u : Nat), .int .u8 (v : Nat), .slice A l.length c, .slice A' l'.length c', .int .i64 z] w fun e w' => e = .returned (.bool true) ∧ Below w.heap.size w w' := by
  obtain ⟨i0, hi, hz0, hz1, hz2⟩ := info_parts byteInfo
  obtain ⟨n, hn⟩ : ∃ n, l.length = n := ⟨_, rfl⟩
  obtain ⟨n', hn'⟩ : ∃ n, l'.length = n := ⟨_, rfl⟩
  rw [hn] at hc ⊢
  rw [hn'] at hc' ⊢
  have Hn := Lib.hid hn
  have Hn' := Lib.hid hn'
  clear hn hn'
  have hnm : n ≤ 9223372036854775807 := by unfold maxLen at hm; omega
  have hnm' : n' ≤ 9223372036854775807 := by unfold maxLen at hm'; omega
  obtain ⟨r, hr, hand⟩ := and_ffff z
  go_enter Try.func8, Try.ntmps8
  go_wp2_with fail
  refine Calls.mono (shaSpeaks_true _) ?_
  rintro e w1 ⟨rfl, hb1⟩
  have hs1 := hb1.size
  by_cases h1 : 300 < n
  · have hd0 : decide (300 < (n : Int)) = true := by simp; omega
    go_wp2
    go_ret
    exact ⟨rfl, hb1⟩
  have hd0 : decide (300 < (n : Int)) = false := by simp; omega
  by_cases h2 : 300 < n'
  · have hd1 : decide (300 < (n' : Int)) = true := by simp; omega
    go_wp2
    go_ret
    exact ⟨rfl, hb1⟩
  have hd1 : decide (300 < (n' : Int)) = false := by simp; omega
  have hbw : Bs w1 w.heap.size A l := hb.below hb1 (Nat.le_refl _)
  have hbw' : Bs w1 w.heap.size A' l' := hb'.below hb1 (Nat.le_refl _)
  have hown0 : Owns (w1.alloc (.cells #[] 5)) w1.heap.size 5 (.slice (some ⟨w1.heap.size, 0, none⟩) 0 0) [] :=
    Owns.of_row (l := []) (cur := []) (Nat.le_refl _) (Nat.le_refl _) (by unfold maxLen; omega) (heap_alloc_new w1 _) rfl rfl
  have hba : Below w1.heap.size w1 (w1.alloc (.cells #[] 5)) := (Below.refl _ w1).alloc (Nat.le_refl _) _
  have hbs0 : Bs (w1.alloc (.cells #[] 5)) w.heap.size A l := hbw.below hba hs1
  have hbs0' : Bs (w1.alloc (.cells #[] 5)) w.heap.size A' l' := hbw'.below hba hs1
  go_wp2_with (first
    | (at_builtin; (refine wpList_append_bs rfl _ _ 25 rfl w1.heap.size 5 i0 (.int .u8 0) Try.underlying25 hi hz0 hz1 hz2 rfl (.slice (some ⟨w1.heap.size, 0, none⟩) 0 0) [] rfl hown0 w.heap.size A n c l rfl Hn.out hbs0 (by simp; omega) (by simp) ?_; intro v2 w2 hown2 hgr2; rw [List.nil_append] at hown2; have hb2 := hba.trans (hgr2.below (by simp) (fun j hj => by simp [Value.ownBlock] at hj; omega)); have hz2s := hb2.size; have hbs2' := hbw'.below hb2 hs1; have hlt2 := hown2.lt))
    | (at_builtin; (refine wpList_append_bs rfl _ _ 25 rfl w1.heap.size 5 i0 (.int .u8 0) Try.underlying25 hi hz0 hz1 hz2 rfl v2 l rfl hown2 w.heap.size A' n' c' l' rfl Hn'.out hbs2' (by rw [Hn.out]; omega) hz2s ?_; intro v3 w3 hown3 hgr3; have hb3 := hb2.trans (hgr3.below hz2s (fun j hj => (hlt2 j hj).1)); obtain ⟨L, hL⟩ : ∃ L, l ++ l' = L := ⟨_, rfl⟩; rw [hL] at hown3; obtain ⟨A3, c3, rfl, h31, h32, hbs3⟩ := hown3.slice; obtain ⟨t, ht⟩ : ∃ t, L.length = t := ⟨_, rfl⟩; rw [ht] at h31 ⊢; have ht600 : t ≤ 600 := by { rw [← ht, ← hL, List.length_append, Hn.out, Hn'.out]; omega }; obtain ⟨k, hk⟩ : ∃ k, r % (t + 1) = k := ⟨_, rfl⟩; have hkt : k ≤ t := by { have := Nat.mod_lt r (show 0 < t + 1 by omega); omega }; have hkI : (r : Int) % ((t : Int) + 1) = (k : Int) := by { rw [← hk]; exact (Int.natCast_emod r (t + 1)).symm }; have HL := Lib.hid hL; have Ht := Lib.hid ht; clear hL ht hk hown0 hown2 hown3 hgr2 hgr3 hbs0 hbs0' hbs2' hlt2)))
  rw [hkI]
  clear hkI
  have hz3 := hb3.size
  obtain ⟨us, hus⟩ : ∃ us : UInt8, us.toNat = u := ⟨u.toUInt8, by simp; omega⟩
  obtain ⟨vs, hvs⟩ : ∃ vs : UInt8, vs.toNat = v := ⟨v.toUInt8, by simp; omega⟩
  have hlL : (L.take k).length = k := by rw [List.length_take, Ht.out]; omega
  have hlD : (L.drop k).length = t - k := by rw [List.length_drop, Ht.out]
  have htb1 : (tagF us [l, l']).length ≤ 1000000 := by
    unfold tagF
    have e1 := Lib.uvarint_length64 (x := l.length) (by rw [Hn.out]; omega)
    have e2 := Lib.uvarint_length64 (x := l'.length) (by rw [Hn'.out]; omega)
    have e3 := Hn.out
    have e4 := Hn'.out
    simp only [List.length_cons, List.flatMap_cons, List.flatMap_nil, List.length_append, List.length_nil]
    omega
  have htb2 : (tagF vs [L.take k, L.drop k]).length ≤ 1000000 := by
    unfold tagF
    have e1 := Lib.uvarint_length64 (x := (L.take k).length) (by omega)
    have e2 := Lib.uvarint_length64 (x := (L.drop k).length) (by omega)
    simp only [List.length_cons, List.flatMap_cons, List.flatMap_nil, List.length_append, List.length_nil]
    omega
  obtain ⟨XL, hXL⟩ : ∃ V, V = Lib.byteCells (shaF (tagF us [l, l'])) := ⟨_, rfl⟩
  obtain ⟨YL, hYL⟩ : ∃ V, V = Lib.byteCells (shaF (tagF vs [L.take k, L.drop k])) := ⟨_, rfl⟩
  have hxl : XL.length = 32 := by rw [hXL, Lib.byteCells_length, shaF_length]
  have hyl : YL.length = 32 := by rw [hYL, Lib.byteCells_length, shaF_length]
  have hx1 : ∀ v ∈ XL, v.oneCell' = true := by rw [hXL]; exact byteCells_one _
  have hy1 : ∀ v ∈ YL, v.oneCell' = true := by rw [hYL]; exact byteCells_one _
  have hi32 : (Try.prog.info? 39).map (·.size) = some XL.length := by rw [hxl]; exact digInfo
  have hi32y : (Try.prog.info? 39).map (·.size) = some YL.length := by rw [hyl]; exact digInfo
  have HXL := Lib.hid hXL
  have HYL := Lib.hid hYL
  have Hus := Lib.hid hus
  have Hvs := Lib.hid hvs
  have hbA : Bs w3 w3.heap.size A l := (hbw.below hb3 hs1).more (by omega)
  have hbA' : Bs w3 w3.heap.size A' l' := (hbw'.below hb3 hs1).more (by omega)
  have hbU : Bs w3 w3.heap.size A3 (L.take k) := hbs3.upto k
  have hbF : Bs w3 w3.heap.size (cutA A3 c3 k) (L.drop k) := hbs3.cutA (by rw [Ht.out]; exact hkt) (by rw [Ht.out]; exact h31)
  have hup : ∀ w', (Instr.sliceAt 25 (.slice A3 t c3) none (some (.int .i64 (k : Nat))) none).run Try.prog w' = .ok (.slice A3 k c3) w' := fun w' => run_upto 25 Try.underlying25 (by kernel_rfl) A3 t c3 k .i64 _ rfl (by omega) w'
  have hfr : ∀ w', (Instr.sliceAt 25 (.slice A3 t c3) (some (.int .i64 (k : Nat))) none none).run Try.prog w' = .ok (.slice (cutA A3 c3 k) (t - k) (c3 - k)) w' := fun w' => run_from 25 Try.underlying25 (by kernel_rfl) A3 t c3 k .i64 _ rfl hkt w'
  have hc3m : c3 - k ≤ maxLen := by omega
  clear hXL hYL hus hvs hb2 hba hbw hbw' hbs3 hb hb' hd0 hd1
  obtain ⟨val, hval⟩ : ∃ val : Nat → Value, val = fun j => ([.int .u8 (u : Nat), .slice A n c, .slice A' n' c', undef, .agg XL.toArray, .int .u8 (v : Nat), .slice A3 t c3, .int .i64 (k : Nat), .slice A3 k c3, .slice A3 t c3, .int .i64 (k : Nat), .slice (cutA A3 c3 k) (t - k) (c3 - k), undef, .agg YL.toArray] : List Value).getD j undef := ⟨_, rfl⟩
  have q0 : val 0 = .int .u8 (u : Nat) := by rw [hval]; rfl
  have q1 : val 1 = .slice A n c := by rw [hval]; rfl
  have q2 : val 2 = .slice A' n' c' := by rw [hval]; rfl
  have q4 : val 4 = .agg XL.toArray := by rw [hval]; rfl
  have q5 : val 5 = .int .u8 (v : Nat) := by rw [hval]; rfl
  have q6 : val 6 = .slice A3 t c3 := by rw [hval]; rfl
  have q7 : val 7 = .int .i64 (k : Nat) := by rw [hval]; rfl
  have q8 : val 8 = .slice A3 k c3 := by rw [hval]; rfl
  have q9 : val 9 = .slice A3 t c3 := by rw [hval]; rfl
  have q10 : val 10 = .int .i64 (k : Nat) := by rw [hval]; rfl
  have q11 : val 11 = .slice (cutA A3 c3 k) (t - k) (c3 - k) := by rw [hval]; rfl
  have q13 : val 13 = .agg YL.toArray := by rw [hval]; rfl
  clear hval
  refine wp_region_inv (fun D a w' => ∃ s : Nat → Value, a = ⟨#[.int .u8 (u : Nat), .int .u8 (v : Nat), .slice A n c, .slice A' n' c', .int .i64 z, undef, undef, undef, undef, undef, .bool false, .slice A3 t c3, .int .i64 (k : Nat), s 14, s 15, .bool true, .bool false, .slice A n c, .int .i64 (n : Nat), .bool false, .bool false, .slice A' n' c', .int .i64 (n' : Nat), .bool false, .bool false, .slice (some ⟨w1.heap.size, 0, none⟩) 0 0, .slice A n c, v2, .slice A' n' c', .slice A3 t c3, .int .i64 z, .int .i64 (r : Nat), .slice A3 t c3, .int .i64 (t : Nat), .int .i64 ((t : Int) + 1), .int .i64 (k : Nat), s 0, s 1, s 2, s 3, s 4, s 5, s 6, s 7, s 8, s 9, s 10, s 11, s 12, s 13, undef, undef, undef, undef, undef, undef, undef, undef, undef, undef, undef, undef, undef, undef, undef, undef, undef, undef, undef, undef, undef, undef, undef, undef, undef, undef, undef, undef, undef, undef, undef, undef, undef, undef, undef, undef], []⟩ ∧ I7 val [l, l'] [L.take k, L.drop k] XL YL 39 w3 D s w') (by kernel_rfl) (by kernel_rfl) ⟨fun _ => undef, rfl, I7.begin ⟨rfl, rfl, rfl, Nat.le_refl _, fun _ _ => rfl⟩⟩ ?_ ?_ (fun D D' a w ⟨s, e, h⟩ hd => ⟨s, e, h.ext hd⟩)
  · rintro D a w' i o ⟨s, rfl, h⟩ ho hD hdep K hK
    have HK := Lib.hid hK
    clear hK
    have hi18 : i < 18 := (Array.getElem?_eq_some_iff.1 ho).1
    have hwz := h.bel.size
    obtain rfl | rfl | rfl | rfl | rfl | rfl | rfl | rfl | rfl | rfl | rfl | rfl | rfl | rfl | rfl | rfl | rfl | rfl : i = 0 ∨ i = 1 ∨ i = 2 ∨ i = 3 ∨ i = 4 ∨ i = 5 ∨ i = 6 ∨ i = 7 ∨ i = 8 ∨ i = 9 ∨ i = 10 ∨ i = 11 ∨ i = 12 ∨ i = 13 ∨ i = 14 ∨ i = 15 ∨ i = 16 ∨ i = 17 := by omega
    · injection ho with ho
      subst ho
      go_simp
      exact HK.out _ _ ⟨upd s 0 (val 0), (by rw [q0]; rfl), h.put 0 (by omega) (by omega) (by omega) (Below.refl _ _)⟩
    · injection ho with ho
      subst ho
      go_simp
      exact HK.out _ _ ⟨upd s 1 (val 1), (by rw [q1]; rfl), h.put 1 (by omega) (by omega) (by omega) (Below.refl _ _)⟩
    · injection ho with ho
      subst ho
      go_simp
      exact HK.out _ _ ⟨upd s 2 (val 2), (by rw [q2]; rfl), h.put 2 (by omega) (by omega) (by omega) (Below.refl _ _)⟩
    · injection ho with ho
      subst ho
      have d1 : D 1 := hdep ⟨1, .data⟩ (by simp) (by kernel_rfl)
      have d2 : D 2 := hdep ⟨2, .data⟩ (by simp) (by kernel_rfl)
      have e1 := (h.val 1 (by omega) (by omega) (by omega) d1).trans q1
      have e2 := (h.val 2 (by omega) (by omega) (by omega) d2).trans q2
      go_simp
      exact HK.out _ _ ⟨upd s 3 (.slice (some ⟨w'.heap.size, 0, none⟩) 2 2), (by simp [upd, e1, e2]), h.rows 3 (.inl rfl) hD ((Below.refl _ w').alloc (Nat.le_refl _) _) _ (fun _ => by simpa using rows_two 25 Hn.out Hn'.out hc hm hc' hm' (hbA.below h.bel (Nat.le_refl _)) (hbA'.below h.bel (Nat.le_refl _)) hwz) (fun e => by omega)⟩
    · injection ho with ho
      subst ho
      have d0 : D 0 := hdep ⟨0, .data⟩ (by simp) (by kernel_rfl)
      have d3 : D 3 := hdep ⟨3, .data⟩ (by simp) (by kernel_rfl)
      have e0 := (h.val 0 (by omega) (by omega) (by omega) d0).trans q0
      obtain ⟨g, e3, hrw⟩ := h.row3 d3 hD
      go_simp
      refine Calls.mono (tag_at us u [l, l'] XL (some ⟨g, 0, none⟩) 2 2 w' Hus.out HXL.out rfl (by omega) hrw htb1) ?_
      rintro e w5 ⟨rfl, hb5⟩
      exact HK.out _ _ ⟨upd s 4 (val 4), (by simp [upd, q4, e0, e3]), h.put 4 (by omega) (by omega) (by omega) hb5⟩
    · injection ho with ho
      subst ho
      go_simp
      exact HK.out _ _ ⟨upd s 5 (val 5), (by rw [q5]; rfl), h.put 5 (by omega) (by omega) (by omega) (Below.refl _ _)⟩
    · injection ho with ho
      subst ho
      go_simp
      exact HK.out _ _ ⟨upd s 6 (val 6), (by rw [q6]; rfl), h.put 6 (by omega) (by omega) (by omega) (Below.refl _ _)⟩
    · injection ho with ho
      subst ho
      go_simp
      exact HK.out _ _ ⟨upd s 7 (val 7), (by rw [q7]; rfl), h.put 7 (by omega) (by omega) (by omega) (Below.refl _ _)⟩
    · injection ho with ho
      subst ho
      have d6 : D 6 := hdep ⟨6, .data⟩ (by simp) (by kernel_rfl)
      have d7 : D 7 := hdep ⟨7, .data⟩ (by simp) (by kernel_rfl)
      have e6 := (h.val 6 (by omega) (by omega) (by omega) d6).trans q6
      have e7 := (h.val 7 (by omega) (by omega) (by omega) d7).trans q7
      go_simp
      exact HK.out _ _ ⟨upd s 8 (val 8), (by simp [upd, q8, e6, e7]), h.put 8 (by omega) (by omega) (by omega) (Below.refl _ _)⟩
    · injection ho with ho
      subst ho
      go_simp
      exact HK.out _ _ ⟨upd s 9 (val 9), (by rw [q9]; rfl), h.put 9 (by omega) (by omega) (by omega) (Below.refl _ _)⟩
    · injection ho with ho
      subst ho
      go_simp
      exact HK.out _ _ ⟨upd s 10 (val 10), (by rw [q10]; rfl), h.put 10 (by omega) (by omega) (by omega) (Below.refl _ _)⟩
    · injection ho with ho
      subst ho
      have d9 : D 9 := hdep ⟨9, .data⟩ (by simp) (by kernel_rfl)
      have d10 : D 10 := hdep ⟨10, .data⟩ (by simp) (by kernel_rfl)
      have e9 := (h.val 9 (by omega) (by omega) (by omega) d9).trans q9
      have e10 := (h.val 10 (by omega) (by omega) (by omega) d10).trans q10
      go_simp
      exact HK.out _ _ ⟨upd s 11 (val 11), (by simp [upd, q11, e9, e10]), h.put 11 (by omega) (by omega) (by omega) (Below.refl _ _)⟩
    · injection ho with ho
      subst ho
      have d8 : D 8 := hdep ⟨8, .data⟩ (by simp) (by kernel_rfl)
      have d11 : D 11 := hdep ⟨11, .data⟩ (by simp) (by kernel_rfl)
      have e8 := (h.val 8 (by omega) (by omega) (by omega) d8).trans q8
      have e11 := (h.val 11 (by omega) (by omega) (by omega) d11).trans q11
      go_simp
      exact HK.out _ _ ⟨upd s 12 (.slice (some ⟨w'.heap.size, 0, none⟩) 2 2), (by simp [upd, e8, e11]), h.rows 12 (.inr rfl) hD ((Below.refl _ w').alloc (Nat.le_refl _) _) _ (fun e => by omega) (fun _ => by simpa using rows_two 25 hlL hlD (by omega) h32 (by omega) hc3m (hbU.below h.bel (Nat.le_refl _)) (hbF.below h.bel (Nat.le_refl _)) hwz)⟩
    · injection ho with ho
      subst ho
      have d5 : D 5 := hdep ⟨5, .data⟩ (by simp) (by kernel_rfl)
      have d12 : D 12 := hdep ⟨12, .data⟩ (by simp) (by kernel_rfl)
      have e5 := (h.val 5 (by omega) (by omega) (by omega) d5).trans q5
      obtain ⟨g, e12, hrw⟩ := h.row12 d12 hD
      go_simp
      refine Calls.mono (tag_at vs v [L.take k, L.drop k] YL (some ⟨g, 0, none⟩) 2 2 w' Hvs.out HYL.out rfl (by omega) hrw htb2) ?_
      rintro e w5 ⟨rfl, hb5⟩
      exact HK.out _ _ ⟨upd s 13 (val 13), (by simp [upd, q13, e5, e12]), h.put 13 (by omega) (by omega) (by omega) hb5⟩
    · injection ho with ho
      subst ho
      go_simp
      change K _ (w'.alloc (.cells (Lib.byteCells zeros).toArray 39))
      exact HK.out _ _ ⟨upd s 14 (.pointer (some ⟨w'.heap.size, 0, none⟩)), rfl, h.new 14 (.inl rfl) hD (Lib.byteCells zeros) zl⟩
    · injection ho with ho
      subst ho
      go_simp
      change K _ (w'.alloc (.cells (Lib.byteCells zeros).toArray 39))
      exact HK.out _ _ ⟨upd s 15 (.pointer (some ⟨w'.heap.size, 0, none⟩)), rfl, h.new 15 (.inr rfl) hD (Lib.byteCells zeros) zl⟩
    · injection ho with ho
      subst ho
      have d4 : D 4 := hdep ⟨4, .data⟩ (by simp) (by kernel_rfl)
      have d13 : D 13 := hdep ⟨13, .chain⟩ (by simp) (by kernel_rfl)
      have d14 : D 14 := hdep ⟨14, .data⟩ (by simp) (by kernel_rfl)
      have d15 : D 15 := hdep ⟨15, .phase⟩ (by simp) (by kernel_rfl)
      have e4 := (h.val 4 (by omega) (by omega) (by omega) d4).trans q4
      obtain ⟨g, cs0, eg, hg, hl0, ha0, _⟩ := h.new14 d14
      obtain ⟨hI, _, _⟩ := h.store 16 (.inl rfl) d4 d13 d14 d15 XL hxl (fun e => by first | rfl | omega) (fun e => by first | rfl | omega) g eg
      rw [if_pos (by rfl)]
      refine wp_store_mid 39 _ _ rfl g 0 XL.toArray (by exact eg) (by exact e4) (by rw [List.size_toArray, hxl]; exact ha0.there hl0) (by rw [List.size_toArray]; exact hi32) (all_oneCell_toArray hx1) ?_
      exact HK.out _ _ ⟨s, rfl, hI⟩
    · injection ho with ho
      subst ho
      have d4 : D 4 := hdep ⟨4, .phase⟩ (by simp) (by kernel_rfl)
      have d13 : D 13 := hdep ⟨13, .data⟩ (by simp) (by kernel_rfl)
      have d14 : D 14 := hdep ⟨14, .phase⟩ (by simp) (by kernel_rfl)
      have d15 : D 15 := hdep ⟨15, .data⟩ (by simp) (by kernel_rfl)
      have e13 := (h.val 13 (by omega) (by omega) (by omega) d13).trans q13
      obtain ⟨g, cs0, eg, hg, hl0, ha0, _⟩ := h.new15 d15
      obtain ⟨hI, _, _⟩ := h.store 17 (.inr rfl) d4 d13 d14 d15 YL hyl (fun e => by first | rfl | omega) (fun e => by first | rfl | omega) g eg
      rw [if_pos (by rfl)]
      refine wp_store_mid 39 _ _ rfl g 0 YL.toArray (by exact eg) (by exact e13) (by rw [List.size_toArray, hyl]; exact ha0.there hl0) (by rw [List.size_toArray]; exact hi32y) (all_oneCell_toArray hy1) ?_
      exact HK.out _ _ ⟨s, rfl, hI⟩
  · rintro D a w7 ⟨s, rfl, h⟩ hall
    have e0 := (h.val 0 (by omega) (by omega) (by omega) (hall 0 (by simp; done))).trans q0
    have e1 := (h.val 1 (by omega) (by omega) (by omega) (hall 1 (by simp; done))).trans q1
    have e2 := (h.val 2 (by omega) (by omega) (by omega) (hall 2 (by simp; done))).trans q2
    have e4 := (h.val 4 (by omega) (by omega) (by omega) (hall 4 (by simp; done))).trans q4
    have e5 := (h.val 5 (by omega) (by omega) (by omega) (hall 5 (by simp; done))).trans q5
    have e6 := (h.val 6 (by omega) (by omega) (by omega) (hall 6 (by simp; done))).trans q6
    have e7 := (h.val 7 (by omega) (by omega) (by omega) (hall 7 (by simp; done))).trans q7
    have e8 := (h.val 8 (by omega) (by omega) (by omega) (hall 8 (by simp; done))).trans q8
    have e9 := (h.val 9 (by omega) (by omega) (by omega) (hall 9 (by simp; done))).trans q9
    have e10 := (h.val 10 (by omega) (by omega) (by omega) (hall 10 (by simp; done))).trans q10
    have e11 := (h.val 11 (by omega) (by omega) (by omega) (hall 11 (by simp; done))).trans q11
    have e13 := (h.val 13 (by omega) (by omega) (by omega) (hall 13 (by simp; done))).trans q13
    obtain ⟨g13, cs1, e14, hg13, _, hX7, hx⟩ := h.new14 (hall 14 (by simp; done))
    obtain ⟨g14, cs2, e15, hg14, _, hY7, hy⟩ := h.new15 (hall 15 (by simp; done))
    obtain rfl := hx (hall 16 (by simp; done))
    obtain rfl := hy (hall 17 (by simp; done))
    have hb7 := h.bel
    obtain ⟨x3, e3⟩ : ∃ x, s 3 = x := ⟨_, rfl⟩
    obtain ⟨x12, e12⟩ : ∃ x, s 12 = x := ⟨_, rfl⟩
    simp only [e0, e1, e2, e4, e5, e6, e7, e8, e9, e10, e11, e13, e3, e12, e14, e15]
    clear h hall hx hy e0 e1 e2 e4 e5 e6 e7 e8 e9 e10 e11 e13 e3 e12 e14 e15 q0 q1 q2 q4 q5 q6 q7 q8 q9 q10 q11 q13
    go_wp2_with fail
    have hz7 := hb7.size
    have hB7 : Below w.heap.size w w7 := (hb1.trans (hb3.mono hs1)).trans (hb7.mono (by omega))
    have hb7' : Below w3.heap.size w3 w7.drew := ⟨hb7.os, hb7.tape, hb7.output, hb7.size, hb7.block⟩
    have hr8 := rows_two (w := w7.drew) 25 Hn.out Hn'.out hc hm hc' hm' (hbA.below hb7' (Nat.le_refl _)) (hbA'.below hb7' (Nat.le_refl _)) hz7
    have hba8 : Below w7.drew.heap.size w7.drew (w7.drew.alloc (.cells #[.slice A n c, .slice A' n' c'] 25)) := (Below.refl _ _).alloc (Nat.le_refl _) _
    have hX8 := (hX7.drewN 1).up hba8
    have hY8 := (hY7.drewN 1).up hba8
    have hu := Try.underlying39
    have hgt2 := gt32
    have heqXX := fun w => eqv_at hu (shaF (tagF us [l, l'])) (shaF (tagF us [l, l'])) (shaF_length _) (shaF_length _) _ _ HXL.out HXL.out w
    have heqYY := fun w => eqv_at hu (shaF (tagF vs [L.take k, L.drop k])) (shaF (tagF vs [L.take k, L.drop k])) (shaF_length _) (shaF_length _) _ _ HYL.out HYL.out w
    rw [decide_eq_true rfl] at heqXX heqYY
    refine wp_region_held_drew (S := fun w' => w'.rangeAt g13 0 cs1 ∧ w'.rangeAt g14 0 cs2) (by kernel_rfl) ⟨hX7.range, hY7.range⟩ (fun hHeld => ?_)
    refine anyH_take (i := 0) (some 50) rfl rfl (by kernel_rfl) (by kernel_rfl) (by kernel_rfl) (fun _ _ _ h => h) (yieldsIf_load_mid (by rfl) 39 (.tmp 13) rfl g13 0 rfl cs1 _ (fun _ h => h.1) hu rfl hi32) (by assumption) ?_
    simp only [Act.put, List.setIfInBounds_toArray, List.set_cons_zero, List.set_cons_succ]
    refine anyH_take (i := 1) (v := .int .u8 (u : Nat)) (some 51) rfl rfl (by kernel_rfl) (by kernel_rfl) (by kernel_rfl) (fun _ _ _ h => h) (Or.inl ⟨by rfl, fun _ _ => by rfl⟩) (by assumption) ?_
    simp only [Act.put, List.setIfInBounds_toArray, List.set_cons_zero, List.set_cons_succ]
    refine anyH_take (i := 2) (v := .slice A n c) (some 52) rfl rfl (by kernel_rfl) (by kernel_rfl) (by kernel_rfl) (fun _ _ _ h => h) (Or.inl ⟨by rfl, fun _ _ => by rfl⟩) (by assumption) ?_
    simp only [Act.put, List.setIfInBounds_toArray, List.set_cons_zero, List.set_cons_succ]
    refine anyH_take (i := 3) (v := .slice A' n' c') (some 53) rfl rfl (by kernel_rfl) (by kernel_rfl) (by kernel_rfl) (fun _ _ _ h => h) (Or.inl ⟨by rfl, fun _ _ => by rfl⟩) (by assumption) ?_
    simp only [Act.put, List.setIfInBounds_toArray, List.set_cons_zero, List.set_cons_succ]
    refine wpAnyH_ready (rs := [4]) (by kernel_rfl) (by simp) ?_
    refine AllReadyH.cons rfl (fun K hK => ?_) AllReadyH.nil
    go_simp
    refine hK.out _ _ ⟨hX8.range, hY8.range⟩ (fun hHeld => ?_)
    clear hK K
    try simp only [Act.put, List.setIfInBounds_toArray, List.set_cons_zero, List.set_cons_succ]
    refine wpAnyH_ready (rs := [5]) (by kernel_rfl) (by simp) ?_
    refine AllReadyH.cons rfl (fun K hK => ?_) AllReadyH.nil
    go_simp
    go_at_call 30
    refine Calls.mono (rtag_at us u [l, l'] cs1 (some ⟨w7.heap.size, 0, none⟩) 2 2 _ Hus.out HXL.out rfl (by omega) (hr8.more (Nat.le_of_eq (by simp))) htb1) ?_
    rintro e w9 ⟨rfl, hb9⟩
    have hX9 := hX8.up hb9
    have hY9 := hY8.up hb9
    go_wp2_with fail
    refine hK.out _ _ ⟨hX9.range, hY9.range⟩ (fun hHeld => ?_)
    clear hK K
    try simp only [Act.put, List.setIfInBounds_toArray, List.set_cons_zero, List.set_cons_succ]
    refine anyH_take (i := 6) (v := .bool true) (some 56) rfl rfl (by kernel_rfl) (by kernel_rfl) (by kernel_rfl) (fun _ _ _ h => h) (Or.inl ⟨by rfl, fun _ _ => by go_simp⟩) (by assumption) ?_
    simp only [Act.put, List.setIfInBounds_toArray, List.set_cons_zero, List.set_cons_succ]
    refine anyH_take (i := 7) (v := .bool true) (some 57) rfl rfl (by kernel_rfl) (by kernel_rfl) (by kernel_rfl) (fun _ _ _ h => h) (Or.inl ⟨by rfl, fun _ _ => by rfl⟩) (by assumption) ?_
    simp only [Act.put, List.setIfInBounds_toArray, List.set_cons_zero, List.set_cons_succ]
    refine anyH_take (i := 8) (some 58) rfl rfl (by kernel_rfl) (by kernel_rfl) (by kernel_rfl) (fun _ _ _ h => h) (yieldsIf_load_mid (by rfl) 39 (.tmp 14) rfl g14 0 rfl cs2 _ (fun _ h => h.2) hu rfl hi32y) (by assumption) ?_
    simp only [Act.put, List.setIfInBounds_toArray, List.set_cons_zero, List.set_cons_succ]
    refine anyH_take (i := 9) (v := .int .u8 (v : Nat)) (some 59) rfl rfl (by kernel_rfl) (by kernel_rfl) (by kernel_rfl) (fun _ _ _ h => h) (Or.inl ⟨by rfl, fun _ _ => by rfl⟩) (by assumption) ?_
    simp only [Act.put, List.setIfInBounds_toArray, List.set_cons_zero, List.set_cons_succ]
    refine anyH_take (i := 10) (v := .slice A3 t c3) (some 60) rfl rfl (by kernel_rfl) (by kernel_rfl) (by kernel_rfl) (fun _ _ _ h => h) (Or.inl ⟨by rfl, fun _ _ => by rfl⟩) (by assumption) ?_
    simp only [Act.put, List.setIfInBounds_toArray, List.set_cons_zero, List.set_cons_succ]
    refine anyH_take (i := 11) (v := .int .i64 (k : Nat)) (some 61) rfl rfl (by kernel_rfl) (by kernel_rfl) (by kernel_rfl) (fun _ _ _ h => h) (Or.inl ⟨by rfl, fun _ _ => by rfl⟩) (by assumption) ?_
    simp only [Act.put, List.setIfInBounds_toArray, List.set_cons_zero, List.set_cons_succ]
    refine anyH_take (i := 12) (v := .slice A3 k c3) (some 62) rfl rfl (by kernel_rfl) (by kernel_rfl) (by kernel_rfl) (fun _ _ _ h => h) (Or.inl ⟨by rfl, fun _ _ => by go_simp⟩) (by assumption) ?_
    simp only [Act.put, List.setIfInBounds_toArray, List.set_cons_zero, List.set_cons_succ]
    refine anyH_take (i := 13) (v := .slice A3 t c3) (some 63) rfl rfl (by kernel_rfl) (by kernel_rfl) (by kernel_rfl) (fun _ _ _ h => h) (Or.inl ⟨by rfl, fun _ _ => by rfl⟩) (by assumption) ?_
    simp only [Act.put, List.setIfInBounds_toArray, List.set_cons_zero, List.set_cons_succ]
    refine anyH_take (i := 14) (v := .int .i64 (k : Nat)) (some 64) rfl rfl (by kernel_rfl) (by kernel_rfl) (by kernel_rfl) (fun _ _ _ h => h) (Or.inl ⟨by rfl, fun _ _ => by rfl⟩) (by assumption) ?_
    simp only [Act.put, List.setIfInBounds_toArray, List.set_cons_zero, List.set_cons_succ]
    refine anyH_take (i := 15) (v := .slice (cutA A3 c3 k) (t - k) (c3 - k)) (some 65) rfl rfl (by kernel_rfl) (by kernel_rfl) (by kernel_rfl) (fun _ _ _ h => h) (Or.inl ⟨by rfl, fun _ _ => by go_simp⟩) (by assumption) ?_
    simp only [Act.put, List.setIfInBounds_toArray, List.set_cons_zero, List.set_cons_succ]
    have hz9 := hb9.size
    have hza := hba8.size
    have hb9' : Below w3.heap.size w3 w9 := (hb7'.trans (hba8.mono hz7)).trans (hb9.mono (Nat.le_trans hz7 hza))
    have hr9 := rows_two (w := w9) 25 hlL hlD (by omega) h32 (by omega) hc3m (hbU.below hb9' (Nat.le_refl _)) (hbF.below hb9' (Nat.le_refl _)) hb9'.size
    have hbb : Below w9.heap.size w9 (w9.alloc (.cells #[.slice A3 k c3, .slice (cutA A3 c3 k) (t - k) (c3 - k)] 25)) := (Below.refl _ _).alloc (Nat.le_refl _) _
    have hX10 := hX9.up hbb
    have hY10 := hY9.up hbb
    refine wpAnyH_ready (rs := [16]) (by kernel_rfl) (by simp) ?_
    refine AllReadyH.cons rfl (fun K hK => ?_) AllReadyH.nil
    go_simp
    refine hK.out _ _ ⟨hX10.range, hY10.range⟩ (fun hHeld => ?_)
    clear hK K
    try simp only [Act.put, List.setIfInBounds_toArray, List.set_cons_zero, List.set_cons_succ]
    refine wpAnyH_ready (rs := [17]) (by kernel_rfl) (by simp) ?_
    refine AllReadyH.cons rfl (fun K hK => ?_) AllReadyH.nil
    go_simp
    go_at_call 30
    refine Calls.mono (rtag_at vs v [L.take k, L.drop k] cs2 (some ⟨w9.heap.size, 0, none⟩) 2 2 _ Hvs.out HYL.out rfl (by omega) (hr9.more (Nat.le_of_eq (by simp))) htb2) ?_
    rintro e w11 ⟨rfl, hb11⟩
    have hX11 := hX10.up hb11
    have hY11 := hY10.up hb11
    go_wp2_with fail
    refine hK.out _ _ ⟨hX11.range, hY11.range⟩ (fun hHeld => ?_)
    clear hK K
    try simp only [Act.put, List.setIfInBounds_toArray, List.set_cons_zero, List.set_cons_succ]
    refine anyH_take (i := 18) (v := .bool true) (some 68) rfl rfl (by kernel_rfl) (by kernel_rfl) (by kernel_rfl) (fun _ _ _ h => h) (Or.inl ⟨by rfl, fun _ _ => by go_simp⟩) (by assumption) ?_
    simp only [Act.put, List.setIfInBounds_toArray, List.set_cons_zero, List.set_cons_succ]
    refine anyH_take (i := 19) (v := .bool true) (some 69) rfl rfl (by kernel_rfl) (by kernel_rfl) (by kernel_rfl) (fun _ _ _ h => h) (Or.inl ⟨by rfl, fun _ _ => by rfl⟩) (by assumption) ?_
    simp only [Act.put, List.setIfInBounds_toArray, List.set_cons_zero, List.set_cons_succ]
    refine anyH_take (i := 20) (v := .bool true) (some 70) rfl rfl (by kernel_rfl) (by kernel_rfl) (by kernel_rfl) (fun _ _ _ h => h) (Or.inl ⟨by rfl, fun _ _ => by rfl⟩) (by assumption) ?_
    simp only [Act.put, List.setIfInBounds_toArray, List.set_cons_zero, List.set_cons_succ]
    refine anyH_take (i := 21) (v := .int .u8 (u : Nat)) (some 71) rfl rfl (by kernel_rfl) (by kernel_rfl) (by kernel_rfl) (fun _ _ _ h => h) (Or.inl ⟨by rfl, fun _ _ => by rfl⟩) (by assumption) ?_
    simp only [Act.put, List.setIfInBounds_toArray, List.set_cons_zero, List.set_cons_succ]
    refine anyH_take (i := 22) (v := .int .u8 (v : Nat)) (some 72) rfl rfl (by kernel_rfl) (by kernel_rfl) (by kernel_rfl) (fun _ _ _ h => h) (Or.inl ⟨by rfl, fun _ _ => by rfl⟩) (by assumption) ?_
    simp only [Act.put, List.setIfInBounds_toArray, List.set_cons_zero, List.set_cons_succ]
    have hc1 : Below w.heap.size w w7.drew := ⟨hB7.os, hB7.tape, hB7.output, hB7.size, hB7.block⟩
    have hc2 := hc1.trans (hba8.mono hc1.size)
    have hc3 := hc2.trans (hb9.mono hc2.size)
    have hc4 := hc3.trans (hbb.mono hc3.size)
    have hfin := hc4.trans (hb11.mono hc4.size)
    clear hc1 hc2 hc3 hc4
    clear hr8 hr9 hba8 hbb hX7 hY7 hX8 hY8 hX9 hY9 hX10 hY10 hb7 hb7' hb9 hb9' hb11
    by_cases huv : u = v
    · have hne : ((u : Int) != (v : Int)) = false := by rw [huv]; simp
      have Huv := Lib.hid huv
      clear huv
      refine anyH_take (i := 23) (v := .bool false) (some 73) rfl rfl (by kernel_rfl) (by kernel_rfl) (by kernel_rfl) (fun _ _ _ h => h) (Or.inl ⟨by rfl, fun _ _ => by go_simp⟩) (by assumption) ?_
      simp only [Act.put, List.setIfInBounds_toArray, List.set_cons_zero, List.set_cons_succ]
      refine anyH_take (i := 24) (v := .bool false) (some 74) rfl rfl (by kernel_rfl) (by kernel_rfl) (by kernel_rfl) (fun _ _ _ h => h) (Or.inl ⟨by rfl, fun _ _ => by rfl⟩) (by assumption) ?_
      simp only [Act.put, List.setIfInBounds_toArray, List.set_cons_zero, List.set_cons_succ]
      refine anyH_take (i := 25) (v := .int .i64 (k : Nat)) (some 75) rfl rfl (by kernel_rfl) (by kernel_rfl) (by kernel_rfl) (fun _ _ _ h => h) (Or.inl ⟨by rfl, fun _ _ => by rfl⟩) (by assumption) ?_
      simp only [Act.put, List.setIfInBounds_toArray, List.set_cons_zero, List.set_cons_succ]
      refine anyH_take (i := 26) (v := .slice A n c) (some 76) rfl rfl (by kernel_rfl) (by kernel_rfl) (by kernel_rfl) (fun _ _ _ h => h) (Or.inl ⟨by rfl, fun _ _ => by rfl⟩) (by assumption) ?_
      simp only [Act.put, List.setIfInBounds_toArray, List.set_cons_zero, List.set_cons_succ]
      refine anyH_take (i := 27) (v := .int .i64 (n : Nat)) (some 77) rfl rfl (by kernel_rfl) (by kernel_rfl) (by kernel_rfl) (fun _ _ _ h => h) (Or.inl ⟨by rfl, fun _ _ => by go_simp⟩) (by assumption) ?_
      simp only [Act.put, List.setIfInBounds_toArray, List.set_cons_zero, List.set_cons_succ]
      by_cases hkn : k = n
      · have hke : ((k : Int) != (n : Int)) = false := by rw [hkn]; simp
        have hsame : shaF (tagF us [l, l']) = shaF (tagF vs [L.take k, L.drop k]) := by
          have e1 : us = vs := UInt8.toNat_inj.1 (by rw [Hus.out, Hvs.out, Huv.out])
          have e2 : L.take k = l := by rw [← HL.out, hkn, ← Hn.out]; simp
          have e3 : L.drop k = l' := by rw [← HL.out, hkn, ← Hn.out]; simp
          rw [e1, e2, e3]
        have heqXY := fun w => eqv_at hu _ _ (shaF_length (tagF us [l, l'])) (shaF_length (tagF vs [L.take k, L.drop k])) _ _ HXL.out HYL.out w
        rw [decide_eq_true hsame] at heqXY
        clear hkn hsame
        refine anyH_take (i := 28) (v := .bool false) (some 78) rfl rfl (by kernel_rfl) (by kernel_rfl) (by kernel_rfl) (fun _ _ _ h => h) (Or.inl ⟨by rfl, fun _ _ => by go_simp⟩) (by assumption) ?_
        simp only [Act.put, List.setIfInBounds_toArray, List.set_cons_zero, List.set_cons_succ]
        refine anyH_take (i := 29) (v := .bool false) (some 79) rfl rfl (by kernel_rfl) (by kernel_rfl) (by kernel_rfl) (fun _ _ _ h => h) (Or.inl ⟨by rfl, fun _ _ => by rfl⟩) (by assumption) ?_
        simp only [Act.put, List.setIfInBounds_toArray, List.set_cons_zero, List.set_cons_succ]
        refine anyH_take (i := 30) (v := .bool false) (some 80) rfl rfl (by kernel_rfl) (by kernel_rfl) (by kernel_rfl) (fun _ _ _ h => h) (Or.inl ⟨by rfl, fun _ _ => by rfl⟩) (by assumption) ?_
        simp only [Act.put, List.setIfInBounds_toArray, List.set_cons_zero, List.set_cons_succ]
        refine anyH_take (i := 31) (some 81) rfl rfl (by kernel_rfl) (by kernel_rfl) (by kernel_rfl) (fun _ _ _ h => h) (yieldsIf_load_mid (by rfl) 39 (.tmp 13) rfl g13 0 rfl cs1 _ (fun _ h => h.1) hu rfl hi32) (by assumption) ?_
        simp only [Act.put, List.setIfInBounds_toArray, List.set_cons_zero, List.set_cons_succ]
        refine anyH_take (i := 32) (some 82) rfl rfl (by kernel_rfl) (by kernel_rfl) (by kernel_rfl) (fun _ _ _ h => h) (yieldsIf_load_mid (by rfl) 39 (.tmp 14) rfl g14 0 rfl cs2 _ (fun _ h => h.2) hu rfl hi32y) (by assumption) ?_
        simp only [Act.put, List.setIfInBounds_toArray, List.set_cons_zero, List.set_cons_succ]
        refine anyH_take (i := 33) (v := .bool true) (some 83) rfl rfl (by kernel_rfl) (by kernel_rfl) (by kernel_rfl) (fun _ _ _ h => h) (Or.inl ⟨by rfl, fun _ _ => by go_simp⟩) (by assumption) ?_
        simp only [Act.put, List.setIfInBounds_toArray, List.set_cons_zero, List.set_cons_succ]
        refine anyH_take (i := 34) (v := .bool true) (some 84) rfl rfl (by kernel_rfl) (by kernel_rfl) (by kernel_rfl) (fun _ _ _ h => h) (Or.inl ⟨by rfl, fun _ _ => by rfl⟩) (by assumption) ?_
        simp only [Act.put, List.setIfInBounds_toArray, List.set_cons_zero, List.set_cons_succ]
        refine anyH_take (i := 35) (v := .bool true) (some 85) rfl rfl (by kernel_rfl) (by kernel_rfl) (by kernel_rfl) (fun _ _ _ h => h) (Or.inl ⟨by rfl, fun _ _ => by rfl⟩) (by assumption) ?_
        simp only [Act.put, List.setIfInBounds_toArray, List.set_cons_zero, List.set_cons_succ]
        refine anyH_take (i := 36) (v := .bool true) (some 10) rfl rfl (by kernel_rfl) (by kernel_rfl) (by kernel_rfl) (fun _ _ _ h => h) (Or.inl ⟨by rfl, fun _ _ => by rfl⟩) (by assumption) ?_
        simp only [Act.put, List.setIfInBounds_toArray, List.set_cons_zero, List.set_cons_succ]
        refine wpAnyH_done (by kernel_rfl) ?_ _
        go_wp2_with fail
        exact bodyPost_ret (v := .bool true) (by simp [results, Try.f8]) rfl ⟨rfl, hfin⟩
      · have hke : ((k : Int) != (n : Int)) = true := by rw [bne_iff_ne]; omega
        clear hkn
        refine anyH_take (i := 28) (v := .bool true) (some 78) rfl rfl (by kernel_rfl) (by kernel_rfl) (by kernel_rfl) (fun _ _ _ h => h) (Or.inl ⟨by rfl, fun _ _ => by go_simp⟩) (by assumption) ?_
        simp only [Act.put, List.setIfInBounds_toArray, List.set_cons_zero, List.set_cons_succ]
        refine anyH_take (i := 29) (v := .bool true) (some 79) rfl rfl (by kernel_rfl) (by kernel_rfl) (by kernel_rfl) (fun _ _ _ h => h) (Or.inl ⟨by rfl, fun _ _ => by rfl⟩) (by assumption) ?_
        simp only [Act.put, List.setIfInBounds_toArray, List.set_cons_zero, List.set_cons_succ]
        refine anyH_take (i := 30) (v := .bool true) (some 80) rfl rfl (by kernel_rfl) (by kernel_rfl) (by kernel_rfl) (fun _ _ _ h => h) (Or.inl ⟨by rfl, fun _ _ => by rfl⟩) (by assumption) ?_
        simp only [Act.put, List.setIfInBounds_toArray, List.set_cons_zero, List.set_cons_succ]
        refine anyH_take (i := 31) (v := undef) (some 81) rfl rfl (by kernel_rfl) (by kernel_rfl) (by kernel_rfl) (fun _ _ _ h => h) (Or.inr ⟨by rfl, rfl⟩) (by assumption) ?_
        simp only [Act.put, List.setIfInBounds_toArray, List.set_cons_zero, List.set_cons_succ]
        refine anyH_take (i := 32) (v := undef) (some 82) rfl rfl (by kernel_rfl) (by kernel_rfl) (by kernel_rfl) (fun _ _ _ h => h) (Or.inr ⟨by rfl, rfl⟩) (by assumption) ?_
        simp only [Act.put, List.setIfInBounds_toArray, List.set_cons_zero, List.set_cons_succ]
        refine anyH_take (i := 33) (v := undef) (some 83) rfl rfl (by kernel_rfl) (by kernel_rfl) (by kernel_rfl) (fun _ _ _ h => h) (Or.inr ⟨by rfl, rfl⟩) (by assumption) ?_
        simp only [Act.put, List.setIfInBounds_toArray, List.set_cons_zero, List.set_cons_succ]
        refine anyH_take (i := 34) (v := .bool true) (some 84) rfl rfl (by kernel_rfl) (by kernel_rfl) (by kernel_rfl) (fun _ _ _ h => h) (Or.inl ⟨by rfl, fun _ _ => by rfl⟩) (by assumption) ?_
        simp only [Act.put, List.setIfInBounds_toArray, List.set_cons_zero, List.set_cons_succ]
        refine anyH_take (i := 35) (v := .bool true) (some 85) rfl rfl (by kernel_rfl) (by kernel_rfl) (by kernel_rfl) (fun _ _ _ h => h) (Or.inl ⟨by rfl, fun _ _ => by rfl⟩) (by assumption) ?_
        simp only [Act.put, List.setIfInBounds_toArray, List.set_cons_zero, List.set_cons_succ]
        refine anyH_take (i := 36) (v := .bool true) (some 10) rfl rfl (by kernel_rfl) (by kernel_rfl) (by kernel_rfl) (fun _ _ _ h => h) (Or.inl ⟨by rfl, fun _ _ => by rfl⟩) (by assumption) ?_
        simp only [Act.put, List.setIfInBounds_toArray, List.set_cons_zero, List.set_cons_succ]
        refine wpAnyH_done (by kernel_rfl) ?_ _
        go_wp2_with fail
        exact bodyPost_ret (v := .bool true) (by simp [results, Try.f8]) rfl ⟨rfl, hfin⟩
    · have hne : ((u : Int) != (v : Int)) = true := by rw [bne_iff_ne]; omega
      clear huv
      refine anyH_take (i := 23) (v := .bool true) (some 73) rfl rfl (by kernel_rfl) (by kernel_rfl) (by kernel_rfl) (fun _ _ _ h => h) (Or.inl ⟨by rfl, fun _ _ => by go_simp⟩) (by assumption) ?_
      simp only [Act.put, List.setIfInBounds_toArray, List.set_cons_zero, List.set_cons_succ]
      refine anyH_take (i := 24) (v := .bool true) (some 74) rfl rfl (by kernel_rfl) (by kernel_rfl) (by kernel_rfl) (fun _ _ _ h => h) (Or.inl ⟨by rfl, fun _ _ => by rfl⟩) (by assumption) ?_
      simp only [Act.put, List.setIfInBounds_toArray, List.set_cons_zero, List.set_cons_succ]
      refine anyH_take (i := 25) (v := undef) (some 75) rfl rfl (by kernel_rfl) (by kernel_rfl) (by kernel_rfl) (fun _ _ _ h => h) (Or.inr ⟨by rfl, rfl⟩) (by assumption) ?_
      simp only [Act.put, List.setIfInBounds_toArray, List.set_cons_zero, List.set_cons_succ]
      refine anyH_take (i := 26) (v := undef) (some 76) rfl rfl (by kernel_rfl) (by kernel_rfl) (by kernel_rfl) (fun _ _ _ h => h) (Or.inr ⟨by rfl, rfl⟩) (by assumption) ?_
      simp only [Act.put, List.setIfInBounds_toArray, List.set_cons_zero, List.set_cons_succ]
      refine anyH_take (i := 27) (v := undef) (some 77) rfl rfl (by kernel_rfl) (by kernel_rfl) (by kernel_rfl) (fun _ _ _ h => h) (Or.inr ⟨by rfl, rfl⟩) (by assumption) ?_
      simp only [Act.put, List.setIfInBounds_toArray, List.set_cons_zero, List.set_cons_succ]
      refine anyH_take (i := 28) (v := undef) (some 78) rfl rfl (by kernel_rfl) (by kernel_rfl) (by kernel_rfl) (fun _ _ _ h => h) (Or.inr ⟨by rfl, rfl⟩) (by assumption) ?_
      simp only [Act.put, List.setIfInBounds_toArray, List.set_cons_zero, List.set_cons_succ]
      refine anyH_take (i := 29) (v := .bool true) (some 79) rfl rfl (by kernel_rfl) (by kernel_rfl) (by kernel_rfl) (fun _ _ _ h => h) (Or.inl ⟨by rfl, fun _ _ => by rfl⟩) (by assumption) ?_
      simp only [Act.put, List.setIfInBounds_toArray, List.set_cons_zero, List.set_cons_succ]
      refine anyH_take (i := 30) (v := .bool true) (some 80) rfl rfl (by kernel_rfl) (by kernel_rfl) (by kernel_rfl) (fun _ _ _ h => h) (Or.inl ⟨by rfl, fun _ _ => by rfl⟩) (by assumption) ?_
      simp only [Act.put, List.setIfInBounds_toArray, List.set_cons_zero, List.set_cons_succ]
      refine anyH_take (i := 31) (v := undef) (some 81) rfl rfl (by kernel_rfl) (by kernel_rfl) (by kernel_rfl) (fun _ _ _ h => h) (Or.inr ⟨by rfl, rfl⟩) (by assumption) ?_
      simp only [Act.put, List.setIfInBounds_toArray, List.set_cons_zero, List.set_cons_succ]
      refine anyH_take (i := 32) (v := undef) (some 82) rfl rfl (by kernel_rfl) (by kernel_rfl) (by kernel_rfl) (fun _ _ _ h => h) (Or.inr ⟨by rfl, rfl⟩) (by assumption) ?_
      simp only [Act.put, List.setIfInBounds_toArray, List.set_cons_zero, List.set_cons_succ]
      refine anyH_take (i := 33) (v := undef) (some 83) rfl rfl (by kernel_rfl) (by kernel_rfl) (by kernel_rfl) (fun _ _ _ h => h) (Or.inr ⟨by rfl, rfl⟩) (by assumption) ?_
      simp only [Act.put, List.setIfInBounds_toArray, List.set_cons_zero, List.set_cons_succ]
      refine anyH_take (i := 34) (v := .bool true) (some 84) rfl rfl (by kernel_rfl) (by kernel_rfl) (by kernel_rfl) (fun _ _ _ h => h) (Or.inl ⟨by rfl, fun _ _ => by rfl⟩) (by assumption) ?_
      simp only [Act.put, List.setIfInBounds_toArray, List.set_cons_zero, List.set_cons_succ]
      refine anyH_take (i := 35) (v := .bool true) (some 85) rfl rfl (by kernel_rfl) (by kernel_rfl) (by kernel_rfl) (fun _ _ _ h => h) (Or.inl ⟨by rfl, fun _ _ => by rfl⟩) (by assumption) ?_
      simp only [Act.put, List.setIfInBounds_toArray, List.set_cons_zero, List.set_cons_succ]
      refine anyH_take (i := 36) (v := .bool true) (some 10) rfl rfl (by kernel_rfl) (by kernel_rfl) (by kernel_rfl) (fun _ _ _ h => h) (Or.inl ⟨by rfl, fun _ _ => by rfl⟩) (by assumption) ?_
      simp only [Act.put, List.setIfInBounds_toArray, List.set_cons_zero, List.set_cons_succ]
      refine wpAnyH_done (by kernel_rfl) ?_ _
      go_wp2_with fail
      exact bodyPost_ret (v := .bool true) (by simp [results, Try.f8]) rfl ⟨rfl, hfin⟩

end Go.Proofs.Ytggefcelcjhgeaa

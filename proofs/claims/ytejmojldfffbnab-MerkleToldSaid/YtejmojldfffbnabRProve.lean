/-
  The document's Prove.
-/
import Derived.Test.YtejmojldfffbnabRRoot
import Derived.Test.YtejmojldfffbnabDigRow
namespace Go.Proofs.Ytejmojldfffbnab
open Go.RowKit
set_option linter.unusedVariables false
set_option linter.unusedSimpArgs false

def RProvePost (ds : List (List UInt8)) (w : World) (e : Ending) (w' : World) : Prop := ∃ v, e = .returned v ∧ DRow w' w.heap.size v ds ∧ Below w.heap.size w w'

def RProveC (n : Nat) : Prop := ∀ (rs : List (List UInt8)) (A : Option Addr) (c a : Nat) (w : World), rs.length = n → a < n → n ≤ c → c ≤ 9223372036854775807 → (∀ r ∈ rs, r.length ≤ 300) → RowsAt w w.heap.size A rs →
    Calls Try.prog 18 #[.slice A n c, .int .i64 (a : Nat)] w (RProvePost (proveF rs a) w)

set_option maxHeartbeats 4000000 in
set_option maxRecDepth 100000 in
theorem rprove_one : RProveC 1 := by
  intro rs A c a w hn ha hc hcm63 hr hrs
  have hp := Lib.hid (proveF_one (rs := rs) (a := a) (by omega))
  have hE := Lib.hid (DRow.empty w w.heap.size (Nat.le_refl _))
  have hb : Below w.heap.size w (w.alloc (.cells #[] 26)) := (Below.refl _ w).alloc (Nat.le_refl _) _
  clear hn
  go_enter Try.func18, Try.ntmps18
  go_wp2_with fail
  go_ret
  exact ⟨_, rfl, by rw [hp.out]; exact hE.out, hb⟩

set_option maxHeartbeats 8000000 in
set_option maxRecDepth 100000 in
theorem rprove_two (n : Nat) (h2 : 2 ≤ n) (hn6 : n ≤ 1000000) (ih : ∀ m, m < n → 1 ≤ m → RProveC m) : RProveC n := by
  intro rs A c a w hn ha hc hcm63 hr hrs
  have hsp := splitF_facts h2
  have hfirst := fun w => rsplit_any n h2 (by omega) w
  have plo := fun h => proveF_lo (rs := rs) (a := a) (by omega) h
  have phi := fun h => proveF_hi (rs := rs) (a := a) (by omega) h
  rw [hn] at plo phi
  obtain ⟨K, hK⟩ : ∃ K, splitF n = K := ⟨_, rfl⟩
  rw [hK] at hsp hfirst plo phi
  obtain ⟨hK0, hKn, _⟩ := hsp
  obtain ⟨blk, off, rfl, hblk, hrow⟩ := hrs (by omega)
  clear hrow
  obtain ⟨LL, hLL⟩ : ∃ V, V = Lib.byteCells (rootF (rs.take K)) := ⟨_, rfl⟩
  have HLLl := Lib.hid (show LL.length = 32 by rw [hLL, Lib.byteCells_length]; exact rootF_length _)
  have HLLi := Lib.hid (show (Try.prog.info? 26).map (·.size) = some LL.toArray.size by rw [List.size_toArray, HLLl.out]; exact digInfo)
  have HLL1 := Lib.hid (show LL.toArray.all (·.oneCell') = true by rw [hLL]; exact dig_one _)
  have HLLs := Lib.hid (show (Lib.byteCells zeros).toArray.size = LL.toArray.size by rw [List.size_toArray, List.size_toArray, HLLl.out]; rfl)
  have HLL := Lib.hid hLL
  clear hLL
  obtain ⟨RR, hRR⟩ : ∃ V, V = Lib.byteCells (rootF (rs.drop K)) := ⟨_, rfl⟩
  have HRRl := Lib.hid (show RR.length = 32 by rw [hRR, Lib.byteCells_length]; exact rootF_length _)
  have HRRi := Lib.hid (show (Try.prog.info? 26).map (·.size) = some RR.toArray.size by rw [List.size_toArray, HRRl.out]; exact digInfo)
  have HRR1 := Lib.hid (show RR.toArray.all (·.oneCell') = true by rw [hRR]; exact dig_one _)
  have HRRs := Lib.hid (show (Lib.byteCells zeros).toArray.size = RR.toArray.size by rw [List.size_toArray, List.size_toArray, HRRl.out]; rfl)
  have HRR := Lib.hid hRR
  clear hRR
  have Hlk := Lib.hid (show (rs.take K).length = K by rw [List.length_take]; omega)
  have Hld := Lib.hid (show (rs.drop K).length = n - K by rw [List.length_drop, hn])
  have Hrk := Lib.hid (show ∀ r ∈ rs.take K, r.length ≤ 300 from fun r h => hr r (List.mem_of_mem_take h))
  have Hrd := Lib.hid (show ∀ r ∈ rs.drop K, r.length ≤ 300 from fun r h => hr r (List.mem_of_mem_drop h))
  have hKrs : K < rs.length := by omega
  have hKc : K ≤ c := by omega
  have hNc : n - K ≤ c - K := by omega
  have hnec : ¬ c = K := by omega
  have hKn1 : K ≤ n := by omega
  have Hplo := Lib.hid plo
  have Hphi := Lib.hid phi
  have HF := Lib.hid hfirst
  have Hn := Lib.hid hn
  have hd1 : ((n : Int) == 1) = false := by rw [beq_eq_false_iff_ne]; omega
  clear plo phi hfirst hn hr hK
  go_enter Try.func18, Try.ntmps18
  go_wp2_with fail
  refine Calls.mono (HF.out w) ?_
  rintro e w1 ⟨rfl, rfl⟩
  have hB0 : Below w1.heap.size w1 w1.drew := below_drew _ _
  by_cases haK : a < K
  · have Hp := Lib.hid (Hplo.out haK)
    have Hpl := Lib.hid (proveF_length K (rs.take K) a Hlk.out)
    have hpb := plenF_lt K a hK0
    have ihX := ih K hKn hK0
    have haX := haK
    go_wp2_with fail
    refine wp_region_held_drew (S := fun _ => True) (by kernel_rfl) trivial (fun hHeld => ?_)
    refine anyH_take (i := 0) (v := .slice (some ⟨blk, off, none⟩) n c) (some 16) rfl rfl (by kernel_rfl) (by kernel_rfl) (by kernel_rfl) (fun _ _ _ h => h) (Or.inl ⟨by rfl, fun _ hw => by rfl⟩) (by assumption) ?_
    simp only [Act.put, List.setIfInBounds_toArray, List.set_cons_zero, List.set_cons_succ]
    refine anyH_take (i := 1) (v := .int .i64 (K : Nat)) (some 17) rfl rfl (by kernel_rfl) (by kernel_rfl) (by kernel_rfl) (fun _ _ _ h => h) (Or.inl ⟨by rfl, fun _ hw => by rfl⟩) (by assumption) ?_
    simp only [Act.put, List.setIfInBounds_toArray, List.set_cons_zero, List.set_cons_succ]
    refine anyH_take (i := 2) (v := .slice (some ⟨blk, off, none⟩) K c) (some 18) rfl rfl (by kernel_rfl) (by kernel_rfl) (by kernel_rfl) (fun _ _ _ h => h) (Or.inl ⟨by rfl, fun _ hw => by go_simp⟩) (by assumption) ?_
    simp only [Act.put, List.setIfInBounds_toArray, List.set_cons_zero, List.set_cons_succ]
    refine anyH_take (i := 3) (v := .int .i64 (a : Nat)) (some 19) rfl rfl (by kernel_rfl) (by kernel_rfl) (by kernel_rfl) (fun _ _ _ h => h) (Or.inl ⟨by rfl, fun _ hw => by rfl⟩) (by assumption) ?_
    simp only [Act.put, List.setIfInBounds_toArray, List.set_cons_zero, List.set_cons_succ]
    refine anyH_take (i := 5) (v := .slice (some ⟨blk, off, none⟩) n c) (some 21) rfl rfl (by kernel_rfl) (by kernel_rfl) (by kernel_rfl) (fun _ _ _ h => h) (Or.inl ⟨by rfl, fun _ hw => by rfl⟩) (by assumption) ?_
    simp only [Act.put, List.setIfInBounds_toArray, List.set_cons_zero, List.set_cons_succ]
    refine anyH_take (i := 6) (v := .int .i64 (K : Nat)) (some 22) rfl rfl (by kernel_rfl) (by kernel_rfl) (by kernel_rfl) (fun _ _ _ h => h) (Or.inl ⟨by rfl, fun _ hw => by rfl⟩) (by assumption) ?_
    simp only [Act.put, List.setIfInBounds_toArray, List.set_cons_zero, List.set_cons_succ]
    refine anyH_take (i := 7) (v := .slice (some ⟨blk, off + K, none⟩) (n - K) (c - K)) (some 23) rfl rfl (by kernel_rfl) (by kernel_rfl) (by kernel_rfl) (fun _ _ _ h => h) (Or.inl ⟨by rfl, fun _ hw => by go_simp⟩) (by assumption) ?_
    simp only [Act.put, List.setIfInBounds_toArray, List.set_cons_zero, List.set_cons_succ]
    refine wpAnyH_ready (rs := [4]) (by kernel_rfl) (by simp) ?_
    refine AllReadyH.cons rfl (fun KC hKC => ?_) AllReadyH.nil
    go_simp
    go_at_call 18
    refine Calls.mono (ihX (rs.take K) _ c a _ Hlk.out haX hKc hcm63 Hrk.out (((hrs.below hB0 (Nat.le_refl _)).take K).more hB0.size)) ?_
    rintro e w21 ⟨v21, rfl, hd021, hb21⟩
    have hB21 := hB0.trans (hb21.mono hB0.size)
    have hd21 := hd021.base (B' := w1.heap.size) hB0.size
    go_wp2_with fail
    refine hKC.out _ _ trivial (fun hHeld21 => ?_)
    clear hKC KC
    try simp only [Act.put, List.setIfInBounds_toArray, List.set_cons_zero, List.set_cons_succ]
    refine wpAnyH_ready (rs := [8]) (by kernel_rfl) (by simp) ?_
    refine AllReadyH.cons rfl (fun KC hKC => ?_) AllReadyH.nil
    go_simp
    go_at_call 15
    refine Calls.mono (rroot_at (rs.drop K) RR _ (n - K) (c - K) _ Hld.out HRR.out (by omega) hNc (by omega) Hrd.out (((hrs.below hB21 (Nat.le_refl _)).drop hKrs).more hB21.size)) ?_
    rintro e w22 ⟨rfl, hb22⟩
    have hB22 := hB21.trans (hb22.mono hB21.size)
    have hd22 := hd21.up hb22
    go_wp2_with fail
    refine hKC.out _ _ trivial (fun hHeld22 => ?_)
    clear hKC KC
    try simp only [Act.put, List.setIfInBounds_toArray, List.set_cons_zero, List.set_cons_succ]
    refine wpAnyH_ready (rs := [9]) (by kernel_rfl) (by simp) ?_
    refine AllReadyH.cons rfl (fun KC hKC => ?_) AllReadyH.nil
    rw [if_pos (by rfl)]
    refine wp_build_dig (some 25) rfl _ rfl RR HRRl.out rfl ?_
    simp only [Act.put, List.setIfInBounds_toArray, List.set_cons_zero, List.set_cons_succ]
    refine hKC.out _ _ trivial (fun hHeld23 => ?_)
    clear hKC KC
    try simp only [Act.put, List.setIfInBounds_toArray, List.set_cons_zero, List.set_cons_succ]
    obtain ⟨g23, hg23⟩ : ∃ x, x = w22.heap.size := ⟨_, rfl⟩
    have N23 := Arr.new w22 26 RR
    have hb23 : Below w22.heap.size w22 (w22.alloc (.cells RR.toArray 26)) := (Below.refl _ _).alloc (Nat.le_refl _) _
    obtain ⟨w23, hw23⟩ : ∃ x, x = w22.alloc (.cells RR.toArray 26) := ⟨_, rfl⟩
    rw [← hw23] at hb23 N23 ⊢
    rw [← hg23] at N23 ⊢
    have hd23 := hd22.up hb23
    have hB23 := hB22.trans (hb23.mono hB22.size)
    rw [HRR.out] at N23
    clear hw23 hg23
    refine wpAnyH_ready (rs := [10]) (by kernel_rfl) (by simp) ?_
    refine AllReadyH.cons rfl (fun KC hKC => ?_) AllReadyH.nil
    refine step_append_dig rfl (some 26) rfl _ _ rfl hd23 hB23.size rfl g23 1 rfl _ (rootF_length _) N23 (by rw [Hpl.out]; omega) (fun v24 w24 h24 hg24 => ?_)
    have hB24 := hB23.trans ((Below.refl _ _).grown hg24 hB23.size (fun k hk => (hd23.lt k hk).1))
    simp only [Act.put, List.setIfInBounds_toArray, List.set_cons_zero, List.set_cons_succ]
    refine hKC.out _ _ trivial (fun hHeld24 => ?_)
    clear hKC KC
    try simp only [Act.put, List.setIfInBounds_toArray, List.set_cons_zero, List.set_cons_succ]
    refine anyH_take (i := 11) (v := v24) (some 4) rfl rfl (by kernel_rfl) (by kernel_rfl) (by kernel_rfl) (fun _ _ _ h => h) (Or.inl ⟨by rfl, fun _ hw => by rfl⟩) (by assumption) ?_
    simp only [Act.put, List.setIfInBounds_toArray, List.set_cons_zero, List.set_cons_succ]
    refine wpAnyH_done (by kernel_rfl) ?_ _
    clear hHeld
    go_wp2_with fail
    go_ret
    exact ⟨v24, rfl, by rw [Hp.out]; exact h24, hB24⟩
  · have Hp := Lib.hid (Hphi.out (by omega))
    obtain ⟨nK, hnK⟩ : ∃ x, n - K = x := ⟨_, rfl⟩
    obtain ⟨aK, haKe⟩ : ∃ x, a - K = x := ⟨_, rfl⟩
    have Hpl := Lib.hid (proveF_length nK (rs.drop K) aK (by rw [Hld.out, hnK]))
    have hpb := plenF_lt nK aK (by omega)
    have ihX := ih nK (by omega) (by omega)
    have haX : aK < nK := by omega
    have hnKc : nK ≤ c - K := by omega
    have hnKn : nK ≤ n := by omega
    have hs3 : IntKind.i64.wrap ((a : Int) - (K : Int)) = (aK : Int) := by rw [IntWalk.i64_in _ (by omega)]; omega
    have HnKe := Lib.hid hnK.symm
    have Hld2 := Lib.hid (show (rs.drop K).length = nK by rw [Hld.out, hnK])
    rw [haKe] at Hp
    clear hnK haKe
    go_wp2_with fail
    refine wp_region_held_drew (S := fun _ => True) (by kernel_rfl) trivial (fun hHeld => ?_)
    refine anyH_take (i := 0) (v := .slice (some ⟨blk, off, none⟩) n c) (some 27) rfl rfl (by kernel_rfl) (by kernel_rfl) (by kernel_rfl) (fun _ _ _ h => h) (Or.inl ⟨by rfl, fun _ hw => by rfl⟩) (by assumption) ?_
    simp only [Act.put, List.setIfInBounds_toArray, List.set_cons_zero, List.set_cons_succ]
    refine anyH_take (i := 1) (v := .int .i64 (K : Nat)) (some 28) rfl rfl (by kernel_rfl) (by kernel_rfl) (by kernel_rfl) (fun _ _ _ h => h) (Or.inl ⟨by rfl, fun _ hw => by rfl⟩) (by assumption) ?_
    simp only [Act.put, List.setIfInBounds_toArray, List.set_cons_zero, List.set_cons_succ]
    refine anyH_take (i := 2) (v := .slice (some ⟨blk, off + K, none⟩) (n - K) (c - K)) (some 29) rfl rfl (by kernel_rfl) (by kernel_rfl) (by kernel_rfl) (fun _ _ _ h => h) (Or.inl ⟨by rfl, fun _ hw => by go_simp⟩) (by assumption) ?_
    simp only [Act.put, List.setIfInBounds_toArray, List.set_cons_zero, List.set_cons_succ]
    refine anyH_take (i := 3) (v := .int .i64 (a : Nat)) (some 30) rfl rfl (by kernel_rfl) (by kernel_rfl) (by kernel_rfl) (fun _ _ _ h => h) (Or.inl ⟨by rfl, fun _ hw => by rfl⟩) (by assumption) ?_
    simp only [Act.put, List.setIfInBounds_toArray, List.set_cons_zero, List.set_cons_succ]
    refine anyH_take (i := 4) (v := .int .i64 (K : Nat)) (some 31) rfl rfl (by kernel_rfl) (by kernel_rfl) (by kernel_rfl) (fun _ _ _ h => h) (Or.inl ⟨by rfl, fun _ hw => by rfl⟩) (by assumption) ?_
    simp only [Act.put, List.setIfInBounds_toArray, List.set_cons_zero, List.set_cons_succ]
    refine anyH_take (i := 5) (v := .int .i64 (aK : Nat)) (some 32) rfl rfl (by kernel_rfl) (by kernel_rfl) (by kernel_rfl) (fun _ _ _ h => h) (Or.inl ⟨by rfl, fun _ hw => by go_simp⟩) (by assumption) ?_
    simp only [Act.put, List.setIfInBounds_toArray, List.set_cons_zero, List.set_cons_succ]
    refine anyH_take (i := 7) (v := .slice (some ⟨blk, off, none⟩) n c) (some 34) rfl rfl (by kernel_rfl) (by kernel_rfl) (by kernel_rfl) (fun _ _ _ h => h) (Or.inl ⟨by rfl, fun _ hw => by rfl⟩) (by assumption) ?_
    simp only [Act.put, List.setIfInBounds_toArray, List.set_cons_zero, List.set_cons_succ]
    refine anyH_take (i := 8) (v := .int .i64 (K : Nat)) (some 35) rfl rfl (by kernel_rfl) (by kernel_rfl) (by kernel_rfl) (fun _ _ _ h => h) (Or.inl ⟨by rfl, fun _ hw => by rfl⟩) (by assumption) ?_
    simp only [Act.put, List.setIfInBounds_toArray, List.set_cons_zero, List.set_cons_succ]
    refine anyH_take (i := 9) (v := .slice (some ⟨blk, off, none⟩) K c) (some 36) rfl rfl (by kernel_rfl) (by kernel_rfl) (by kernel_rfl) (fun _ _ _ h => h) (Or.inl ⟨by rfl, fun _ hw => by go_simp⟩) (by assumption) ?_
    simp only [Act.put, List.setIfInBounds_toArray, List.set_cons_zero, List.set_cons_succ]
    refine wpAnyH_ready (rs := [6]) (by kernel_rfl) (by simp) ?_
    refine AllReadyH.cons rfl (fun KC hKC => ?_) AllReadyH.nil
    go_simp
    go_at_call 18
    refine Calls.mono (HnKe.out ▸ ihX (rs.drop K) _ (c - K) aK _ Hld2.out haX (by omega) (by omega) Hrd.out (((hrs.below hB0 (Nat.le_refl _)).drop hKrs).more hB0.size)) ?_
    rintro e w21 ⟨v21, rfl, hd021, hb21⟩
    have hB21 := hB0.trans (hb21.mono hB0.size)
    have hd21 := hd021.base (B' := w1.heap.size) hB0.size
    go_wp2_with fail
    refine hKC.out _ _ trivial (fun hHeld21 => ?_)
    clear hKC KC
    try simp only [Act.put, List.setIfInBounds_toArray, List.set_cons_zero, List.set_cons_succ]
    refine wpAnyH_ready (rs := [10]) (by kernel_rfl) (by simp) ?_
    refine AllReadyH.cons rfl (fun KC hKC => ?_) AllReadyH.nil
    go_simp
    go_at_call 15
    refine Calls.mono (rroot_at (rs.take K) LL _ K c _ Hlk.out HLL.out (by omega) hKc hcm63 Hrk.out (((hrs.below hB21 (Nat.le_refl _)).take K).more hB21.size)) ?_
    rintro e w22 ⟨rfl, hb22⟩
    have hB22 := hB21.trans (hb22.mono hB21.size)
    have hd22 := hd21.up hb22
    go_wp2_with fail
    refine hKC.out _ _ trivial (fun hHeld22 => ?_)
    clear hKC KC
    try simp only [Act.put, List.setIfInBounds_toArray, List.set_cons_zero, List.set_cons_succ]
    refine wpAnyH_ready (rs := [11]) (by kernel_rfl) (by simp) ?_
    refine AllReadyH.cons rfl (fun KC hKC => ?_) AllReadyH.nil
    rw [if_pos (by rfl)]
    refine wp_build_dig (some 38) rfl _ rfl LL HLLl.out rfl ?_
    simp only [Act.put, List.setIfInBounds_toArray, List.set_cons_zero, List.set_cons_succ]
    refine hKC.out _ _ trivial (fun hHeld23 => ?_)
    clear hKC KC
    try simp only [Act.put, List.setIfInBounds_toArray, List.set_cons_zero, List.set_cons_succ]
    obtain ⟨g23, hg23⟩ : ∃ x, x = w22.heap.size := ⟨_, rfl⟩
    have N23 := Arr.new w22 26 LL
    have hb23 : Below w22.heap.size w22 (w22.alloc (.cells LL.toArray 26)) := (Below.refl _ _).alloc (Nat.le_refl _) _
    obtain ⟨w23, hw23⟩ : ∃ x, x = w22.alloc (.cells LL.toArray 26) := ⟨_, rfl⟩
    rw [← hw23] at hb23 N23 ⊢
    rw [← hg23] at N23 ⊢
    have hd23 := hd22.up hb23
    have hB23 := hB22.trans (hb23.mono hB22.size)
    rw [HLL.out] at N23
    clear hw23 hg23
    refine wpAnyH_ready (rs := [12]) (by kernel_rfl) (by simp) ?_
    refine AllReadyH.cons rfl (fun KC hKC => ?_) AllReadyH.nil
    refine step_append_dig rfl (some 39) rfl _ _ rfl hd23 hB23.size rfl g23 1 rfl _ (rootF_length _) N23 (by rw [Hpl.out]; omega) (fun v24 w24 h24 hg24 => ?_)
    have hB24 := hB23.trans ((Below.refl _ _).grown hg24 hB23.size (fun k hk => (hd23.lt k hk).1))
    simp only [Act.put, List.setIfInBounds_toArray, List.set_cons_zero, List.set_cons_succ]
    refine hKC.out _ _ trivial (fun hHeld24 => ?_)
    clear hKC KC
    try simp only [Act.put, List.setIfInBounds_toArray, List.set_cons_zero, List.set_cons_succ]
    refine anyH_take (i := 13) (v := v24) (some 4) rfl rfl (by kernel_rfl) (by kernel_rfl) (by kernel_rfl) (fun _ _ _ h => h) (Or.inl ⟨by rfl, fun _ hw => by rfl⟩) (by assumption) ?_
    simp only [Act.put, List.setIfInBounds_toArray, List.set_cons_zero, List.set_cons_succ]
    refine wpAnyH_done (by kernel_rfl) ?_ _
    clear hHeld
    go_wp2_with fail
    go_ret
    exact ⟨v24, rfl, by rw [Hp.out]; exact h24, hB24⟩

theorem rprove_all : ∀ (n : Nat), n ≤ 1000000 → 1 ≤ n → RProveC n := by
  intro n
  induction n using Nat.strongRecOn with
  | ind n ih =>
    intro hn h1
    by_cases h2 : n = 1
    · subst h2; exact rprove_one
    · exact rprove_two n (by omega) hn fun m hm h => ih m hm (by omega) h

end Go.Proofs.Ytejmojldfffbnab

/-
  The document's Without, Create, Copy.
-/
import Derived.Test.YtcajhndhjlfmaaaGreatVolAdd
namespace Go.Proofs.YtcajhndhjlfmaaaGreat
open Go.RowKit
set_option linter.unusedVariables false
set_option linter.unusedSimpArgs false

theorem findI_has {L : List Vol} {nm : ByteArray} : findI L nm = -1 ↔ hasV L nm = false := by
  unfold findI hasV
  cases h : L.findIdx? (fun v => decide (v.name = nm)) with
  | none =>
    simp only [true_iff]
    rw [List.findIdx?_eq_none_iff] at h
    rw [List.any_eq_false]
    intro v hv e
    have := h v hv
    simp only [decide_eq_false_iff_not] at this
    exact this (ba_ext (by simpa [vkey] using e))
  | some i =>
    constructor
    · intro e
      exfalso
      have e : ((i : Nat) : Int) = -1 := e
      omega
    · intro e
      rw [List.findIdx?_eq_some_iff_getElem] at h
      obtain ⟨hi, h1, _⟩ := h
      have := List.any_eq_false.1 e _ (List.getElem_mem hi)
      simp only [decide_eq_true_eq] at this h1
      exact absurd (by rw [vkey, h1]) this
theorem findI_at {L : List Vol} {nm : ByteArray} {v : Vol} (h : findV L nm = some v) : ∃ i : Nat, findI L nm = (i : Nat) ∧ L[i]? = some v := by
  have hh : hasV L nm = true := by rw [hasV_find, h]; rfl
  unfold findI
  cases hi : L.findIdx? (fun v => decide (v.name = nm)) with
  | none =>
    have := findI_has (L := L) (nm := nm)
    unfold findI at this
    rw [hi] at this
    have := this.1 rfl
    rw [hh] at this
    cases this
  | some i =>
    refine ⟨i, rfl, ?_⟩
    rw [List.findIdx?_eq_some_iff_getElem] at hi
    obtain ⟨h1, h2, h3⟩ := hi
    rw [List.getElem?_eq_getElem h1]
    unfold findV at h
    rw [List.find?_eq_some_iff_getElem] at h
    obtain ⟨_, j, hj, e, h4⟩ := h
    have hij : i = j := by
      rcases Nat.lt_trichotomy i j with h5 | h5 | h5
      · have := h4 i h5
        simp only [decide_eq_true_eq] at h2
        simp [vkey, h2] at this
      · exact h5
      · have := h3 j h5
        have hq : vkey L[j] = nm.data.toList := by
          have hq := ‹_›
          rw [e]
          have := ‹decide (vkey v = nm.data.toList) = true›
          simpa using this
        simp only [decide_eq_true_eq] at this
        exact absurd (ba_ext hq) this
    subst hij
    rw [e]

theorem VSl.find {w : World} {G : Nat → Prop} {A : Option Addr} {n c : Nat} {L : List Vol} (h : VSl w G A n c L) (nm : ByteArray) (hs : nm.size ≤ maxLen) :
    Calls Tryz.prog 25 #[.slice A n c, .string nm] w fun e w' => e = .returned (.int .i64 (findI L nm)) ∧ w = w' := by
  obtain ⟨xs, rfl, hn, hc, hm, hV, _⟩ := h
  exact find12_any A n c xs nm hs w G hV hn hc hm
theorem VSl.grow {w w' : World} {G : Nat → Prop} {A : Option Addr} {n c : Nat} {L : List Vol} (h : VSl w G A n c L) (hb : Below w.heap.size w w') : VSl w' (fun b => G b ∨ w.heap.size ≤ b) A n c L :=
  (h.below hb).more fun b _ h => .inl h
theorem vl_built2 (nm : ByteArray) (q : Int) : Tryz.prog.built 71 [(0, .string nm), (1, .int .i64 q)] = some #[.string nm, .int .i64 q, .bool false, .slice none 0 0] := by kernel_rfl
theorem VxOk.fresh {w : World} {G : Nat → Prop} {nm : ByteArray} {q : Nat} {fr : Bool} (h1 : nm.size ≤ maxLen) (h2 : q ≤ 1048576) : VxOk w G ⟨⟨nm, q, fr, []⟩, none, 0⟩ :=
  ⟨Nat.le_refl _, Nat.zero_le _, fun h => by simp at h, h1, h2, by simp⟩

set_option maxHeartbeats 4000000 in
set_option maxRecDepth 100000 in
theorem rcreate_any (A : Option Addr) (n c : Nat) (L : List Vol) (nm : ByteArray) (hsz : nm.size ≤ maxLen) (q : Int) (w : World) (G : Nat → Prop) (h : VSl w G A n c L) (hG : ∀ b, G b → b < w.heap.size) (hl : L.length ≤ 100000) (L' : List Vol) (k : Int) (hk : createL L nm q = (L', k)) :
    Calls Tryz.prog 22 #[.slice A n c, .string nm, .int .i64 q] w fun e w' => ∃ A' n' c', e = .returned (.tuple #[.slice A' n' c', .int .i64 k]) ∧ VSl w' (fun b => G b ∨ w.heap.size ≤ b) A' n' c' L' ∧ Below w.heap.size w w' := by
  unfold createL at hk
  have Hs : Hid (∀ w', Below w.heap.size w w' → VSl w' (fun b => G b ∨ w.heap.size ≤ b) A n c L) := fun w' hb => h.grow hb
  cases hn : namedB nm.data.toList with
  | false =>
    rw [hn, Bool.false_and, if_pos rfl] at hk
    injection hk with h1 h2
    subst h1 h2
    clear h hG
    go_enter Tryz.func22, Tryz.ntmps22
    go_wp2_with fail
    refine Calls.mono (rnamed_any nm hsz w false hn) ?_
    rintro e w' ⟨rfl, rfl⟩
    clear hn
    go_wp2
    go_ret2
    exact ⟨_, _, _, rfl, Hs.out _ (Below.refl _ _), Below.refl _ _⟩
  | true =>
    cases hq : quotaB q with
    | false =>
      rw [hn, hq, Bool.true_and, if_pos rfl] at hk
      injection hk with h1 h2
      subst h1 h2
      clear h hG
      go_enter Tryz.func22, Tryz.ntmps22
      go_wp2_with fail
      refine Calls.mono (rnamed_any nm hsz w true hn) ?_
      rintro e w' ⟨rfl, rfl⟩
      clear hn
      go_wp2_with fail
      refine Calls.mono (rquota_any q w false hq) ?_
      rintro e w' ⟨rfl, rfl⟩
      clear hq
      go_wp2
      go_ret2
      exact ⟨_, _, _, rfl, Hs.out _ (Below.refl _ _), Below.refl _ _⟩
    | true =>
      rw [hn, hq, Bool.true_and, if_neg (by simp)] at hk
      have Hf := Lib.hid (h.find nm hsz)
      cases hh : hasV L nm with
      | true =>
        rw [hh, if_pos rfl] at hk
        injection hk with h1 h2
        subst h1 h2
        obtain ⟨i, hi⟩ : ∃ i : Nat, findI L nm = (i : Nat) := by
          cases hf : findV L nm with
          | none => rw [hasV_find, hf] at hh; cases hh
          | some v => obtain ⟨i, hi, _⟩ := findI_at hf; exact ⟨i, hi⟩
        rw [hi] at Hf
        clear h hG hi hh
        go_enter Tryz.func22, Tryz.ntmps22
        go_wp2_with fail
        refine Calls.mono (rnamed_any nm hsz w true hn) ?_
        rintro e w' ⟨rfl, rfl⟩
        clear hn
        go_wp2_with fail
        refine Calls.mono (rquota_any q w true hq) ?_
        rintro e w' ⟨rfl, rfl⟩
        clear hq
        go_wp2_with fail
        refine Calls.mono Hf.out ?_
        rintro e w' ⟨rfl, rfl⟩
        clear Hf
        go_wp2
        go_ret2
        exact ⟨_, _, _, rfl, Hs.out _ (Below.refl _ _), Below.refl _ _⟩
      | false =>
        rw [hh, if_neg (by simp)] at hk
        injection hk with h1 h2
        subst h1 h2
        have hno : ∀ v ∈ L, vkey v ≠ nm.data.toList := fun v hv e => hasV_no hh v hv (ba_ext e)
        obtain ⟨qn, rfl⟩ := Int.eq_ofNat_of_zero_le (quotaB_yes hq).1
        have hq20 := (quotaB_yes hq).2
        rw [findI_has.2 hh] at Hf
        obtain ⟨VL, hVL⟩ : ∃ VL, VL = volC ⟨⟨nm, qn, false, []⟩, none, 0⟩ := ⟨_, rfl⟩
        have HB := Lib.hid (show Tryz.prog.built 71 [(0, .string nm), (1, .int .i64 (qn : Nat))] = some VL.toArray by rw [hVL]; exact vl_built2 nm qn)
        have Hadd := Lib.hid (add12_any A n c L ⟨⟨nm, qn, false, []⟩, none, 0⟩ VL hVL w G h hG (VxOk.fresh hsz (by omega)) hl hno)
        clear h hG hh hno hVL
        go_enter Tryz.func22, Tryz.ntmps22
        go_wp2_with fail
        refine Calls.mono (rnamed_any nm hsz w true hn) ?_
        rintro e w' ⟨rfl, rfl⟩
        clear hn
        go_wp2_with fail
        refine Calls.mono (rquota_any qn w true hq) ?_
        rintro e w' ⟨rfl, rfl⟩
        clear hq
        go_wp2_with fail
        refine Calls.mono Hf.out ?_
        rintro e w' ⟨rfl, rfl⟩
        clear Hf
        go_wp2_with (refine wpList_builtV rfl _ _ rfl _ rfl VL.toArray HB.out ?_)
        refine Calls.mono Hadd.out ?_
        rintro e w' ⟨A', n', c', rfl, hvs, hb⟩
        have Hvs := Lib.hid hvs
        clear hvs Hadd
        go_wp2_with fail
        go_ret2
        exact ⟨_, _, _, rfl, Hvs.out, hb⟩

theorem VSl.at_ {w : World} {G : Nat → Prop} {A : Option Addr} {n c : Nat} {L : List Vol} (h : VSl w G A n c L) {i : Nat} {v : Vol} (hi : L[i]? = some v) : ∃ b off, A = some ⟨b, off, none⟩ ∧ i < n ∧ ∃ Ac cc, w.cell? ⟨b, off + i * 4, none⟩ = some (.string v.name) ∧ w.cell? ⟨b, off + i * 4 + 1, none⟩ = some (.int .i64 (v.quota : Nat)) ∧ w.cell? ⟨b, off + i * 4 + 2, none⟩ = some (.bool v.frozen) ∧ w.cell? ⟨b, off + i * 4 + 3, none⟩ = some (.slice Ac v.cells.length cc) ∧ VxOk w G ⟨v, Ac, cc⟩ ∧ w.rangeAt b (off + i * 4) (volC ⟨v, Ac, cc⟩) := by
  obtain ⟨xs, rfl, hn, hc, hm, hV, _⟩ := h
  rw [List.getElem?_map, Option.map_eq_some_iff] at hi
  obtain ⟨x, hx, rfl⟩ := hi
  obtain ⟨b, off, e, hlt, hg, h0, h1, h2, h3⟩ := hV.at_ hx
  obtain ⟨b', off', e', _, _, hr⟩ := hV.1 (by have := (List.getElem?_eq_some_iff.1 hx).1; omega)
  rw [e] at e'
  injection e' with e'
  injection e' with e1 e2
  subst e1 e2
  exact ⟨b, off, e, by have := (List.getElem?_eq_some_iff.1 hx).1; omega, x.adr, x.cap, h0, h1, h2, h3, hV.2 x (List.mem_of_getElem? hx), hr i x hx⟩

-- COPY
theorem findI_pos {L : List Vol} {nm : ByteArray} (h : hasV L nm = true) : ∃ i : Nat, findI L nm = (i : Nat) := by
  cases hf : findV L nm with
  | none => rw [hasV_find, hf] at h; cases h
  | some v => obtain ⟨i, hi, _⟩ := findI_at hf; exact ⟨i, hi⟩

set_option maxHeartbeats 8000000 in
set_option maxRecDepth 100000 in
theorem rcopy_any (A : Option Addr) (n c : Nat) (L : List Vol) (nm other : ByteArray) (hsz : nm.size ≤ maxLen) (hsz2 : other.size ≤ maxLen) (q : Int) (fr : Bool) (w : World) (G : Nat → Prop) (h : VSl w G A n c L) (hG : ∀ b, G b → b < w.heap.size) (hl : L.length ≤ 100000) (L' : List Vol) (k : Int) (hk : copyL L nm other q fr = (L', k)) :
    Calls Tryz.prog 23 #[.slice A n c, .string nm, .string other, .int .i64 q, .bool fr] w fun e w' => ∃ A' n' c', e = .returned (.tuple #[.slice A' n' c', .int .i64 k]) ∧ VSl w' (fun b => G b ∨ w.heap.size ≤ b) A' n' c' L' ∧ Below w.heap.size w w' := by
  unfold copyL at hk
  have Hs : Hid (∀ w', Below w.heap.size w w' → VSl w' (fun b => G b ∨ w.heap.size ≤ b) A n c L) := fun w' hb => h.grow hb
  cases hn : namedB other.data.toList with
  | false =>
    rw [hn, Bool.false_and, if_pos rfl] at hk
    injection hk with h1 h2
    subst h1 h2
    clear h hG
    go_enter Tryz.func23, Tryz.ntmps23
    go_wp2_with fail
    refine Calls.mono (rnamed_any other hsz2 w false hn) ?_
    rintro e w' ⟨rfl, rfl⟩
    clear hn
    go_wp2
    go_ret2
    exact ⟨_, _, _, rfl, Hs.out _ (Below.refl _ _), Below.refl _ _⟩
  | true =>
    cases hq : quotaB q with
    | false =>
      rw [hn, hq, Bool.true_and, if_pos rfl] at hk
      injection hk with h1 h2
      subst h1 h2
      clear h hG
      go_enter Tryz.func23, Tryz.ntmps23
      go_wp2_with fail
      refine Calls.mono (rnamed_any other hsz2 w true hn) ?_
      rintro e w' ⟨rfl, rfl⟩
      clear hn
      go_wp2_with fail
      refine Calls.mono (rquota_any q w false hq) ?_
      rintro e w' ⟨rfl, rfl⟩
      clear hq
      go_wp2
      go_ret2
      exact ⟨_, _, _, rfl, Hs.out _ (Below.refl _ _), Below.refl _ _⟩
    | true =>
      rw [hn, hq, Bool.true_and, if_neg (by simp)] at hk
      have Hf := Lib.hid (h.find nm hsz)
      have Hf2 := Lib.hid (h.find other hsz2)
      cases hfv : findV L nm with
      | none =>
        rw [hfv] at hk
        dsimp only at hk
        injection hk with h1 h2
        subst h1 h2
        have hm1 : findI L nm = -1 := findI_has.2 (by rw [hasV_find, hfv]; rfl)
        rw [hm1] at Hf
        clear h hG hfv hm1
        go_enter Tryz.func23, Tryz.ntmps23
        go_wp2_with fail
        refine Calls.mono (rnamed_any other hsz2 w true hn) ?_
        rintro e w' ⟨rfl, rfl⟩
        clear hn
        go_wp2_with fail
        refine Calls.mono (rquota_any q w true hq) ?_
        rintro e w' ⟨rfl, rfl⟩
        clear hq
        go_wp2_with fail
        refine Calls.mono Hf.out ?_
        rintro e w' ⟨rfl, rfl⟩
        clear Hf
        go_wp2
        go_ret2
        exact ⟨_, _, _, rfl, Hs.out _ (Below.refl _ _), Below.refl _ _⟩
      | some v =>
        rw [hfv] at hk
        dsimp only at hk
        obtain ⟨i, hi, hLi⟩ := findI_at hfv
        rw [hi] at Hf
        cases ho : hasV L other with
        | true =>
          rw [ho, if_pos rfl] at hk
          injection hk with h1 h2
          subst h1 h2
          obtain ⟨i2, hi2⟩ := findI_pos ho
          rw [hi2] at Hf2
          clear h hG hfv hi hLi hi2 ho
          go_enter Tryz.func23, Tryz.ntmps23
          go_wp2_with fail
          refine Calls.mono (rnamed_any other hsz2 w true hn) ?_
          rintro e w' ⟨rfl, rfl⟩
          clear hn
          go_wp2_with fail
          refine Calls.mono (rquota_any q w true hq) ?_
          rintro e w' ⟨rfl, rfl⟩
          clear hq
          go_wp2_with fail
          refine Calls.mono Hf.out ?_
          rintro e w' ⟨rfl, rfl⟩
          clear Hf
          go_wp2_with fail
          refine Calls.mono Hf2.out ?_
          rintro e w' ⟨rfl, rfl⟩
          clear Hf2
          go_wp2
          go_ret2
          exact ⟨_, _, _, rfl, Hs.out _ (Below.refl _ _), Below.refl _ _⟩
        | false =>
          rw [ho, if_neg (by simp)] at hk
          rw [findI_has.2 ho] at Hf2
          obtain ⟨b, off, rfl, hin, Ac, cc, a0, a1, a2, a3, hvx, _⟩ := h.at_ hLi
          obtain ⟨lx, hlx⟩ : ∃ z, v.cells.length = z := ⟨_, rfl⟩
          rw [hlx] at a3 hk
          obtain ⟨qn, rfl⟩ := Int.eq_ofNat_of_zero_le (quotaB_yes hq).1
          have hq20 := (quotaB_yes hq).2
          have hcn : n ≤ c ∧ c ≤ 9223372036854775807 ∧ n ≤ 100000 := by
            obtain ⟨xs, hx, hn', hc, hm, _⟩ := h
            unfold maxLen at hm
            rw [← hx, List.length_map, hn'] at hl
            exact ⟨hc, by omega, hl⟩
          have hlc : lx ≤ cc ∧ cc ≤ 9223372036854775807 := by
            have e1 : v.cells.length ≤ cc := hvx.le
            have e2 : cc ≤ maxLen := hvx.lim
            rw [hlx] at e1
            unfold maxLen at e2
            omega
          by_cases hlt : (qn : Int) < (lx : Int)
          · rw [if_pos hlt] at hk
            injection hk with h1 h2
            subst h1 h2
            have hd : decide (qn < lx) = true := by simp; omega
            have hd2 : decide ((lx : Int) > (qn : Int)) = true := by simp; omega
            clear h hG hfv hi hLi ho hvx a0 a1 a2 hlx
            go_enter Tryz.func23, Tryz.ntmps23
            go_wp2_with fail
            refine Calls.mono (rnamed_any other hsz2 w true hn) ?_
            rintro e w' ⟨rfl, rfl⟩
            clear hn
            go_wp2_with fail
            refine Calls.mono (rquota_any qn w true hq) ?_
            rintro e w' ⟨rfl, rfl⟩
            clear hq
            go_wp2_with fail
            refine Calls.mono Hf.out ?_
            rintro e w' ⟨rfl, rfl⟩
            clear Hf
            go_wp2_with fail
            refine Calls.mono Hf2.out ?_
            rintro e w' ⟨rfl, rfl⟩
            clear Hf2
            go_wp2
            go_ret2
            exact ⟨_, _, _, rfl, Hs.out _ (Below.refl _ _), Below.refl _ _⟩
          · rw [if_neg hlt] at hk
            injection hk with h1 h2
            subst h1 h2
            have hd : decide (qn < lx) = false := by simp; omega
            have hd2 : decide ((lx : Int) > (qn : Int)) = false := by simp; omega
            have hno : ∀ u ∈ L, vkey u ≠ other.data.toList := fun u hu e => hasV_no ho u hu (ba_ext e)
            have Hno := Lib.hid hno
            have HG := Lib.hid hG
            have Hvx := Lib.hid hvx
            have Hlx := Lib.hid hlx
            have Hl := Lib.hid hl
            have hlx20 : lx ≤ 1048576 := by have := hvx.len; rw [show ({ v := v, adr := Ac, cap := cc } : Vx).v.cells.length = lx from hlx] at this; exact this
            obtain ⟨w1, hw1⟩ : ∃ z, z = w.alloc (.cells #[] 73) := ⟨_, rfl⟩
            have hb1 : Below w.heap.size w w1 := by rw [hw1]; exact (Below.refl _ _).alloc (Nat.le_refl _) _
            have hR1 : CRow w1 w.heap.size (.slice (some ⟨w.heap.size, 0, none⟩) 0 0) [] := by rw [hw1]; exact CRow.empty w w.heap.size (Nat.le_refl _)
            have hc1 : CsAt w1 G Ac v.cells := (hvx.keep hb1.size (fun b _ hlt => hb1.block b hlt) fun _ _ h => h).cs
            have b3 : (w.alloc (.cells #[] 73)).cell? ⟨b, off + i * 4 + 3, none⟩ = some (.slice Ac lx cc) := by
              rw [← a3, ← hw1]
              exact World.cell?_of_block (hb1.block b (World.block_lt_of_cell? w ⟨b, off + i * 4 + 3, none⟩ a3))
            have Hw1 := Lib.hid hw1
            have hb1s := hb1.size
            clear h hG hfv hi hLi ho hvx a0 a1 a2 hlx hno hl hw1
            go_enter Tryz.func23, Tryz.ntmps23
            go_wp2_with fail
            refine Calls.mono (rnamed_any other hsz2 w true hn) ?_
            rintro e w' ⟨rfl, rfl⟩
            clear hn
            go_wp2_with fail
            refine Calls.mono (rquota_any qn w true hq) ?_
            rintro e w' ⟨rfl, rfl⟩
            clear hq
            go_wp2_with fail
            refine Calls.mono Hf.out ?_
            rintro e w' ⟨rfl, rfl⟩
            clear Hf
            go_wp2_with fail
            refine Calls.mono Hf2.out ?_
            rintro e w' ⟨rfl, rfl⟩
            clear Hf2
            go_upto_region 10 with fail
            clear a3
            go_wp2_with (first
              | (at_builtin; (try change wpList _ _ _ _ _ (w.alloc (.cells #[] 73))); (try rw [← Hw1.out]); refine wpList_append_cls rfl _ _ rfl hR1 hb1s rfl _ _ _ rfl v.cells Hlx.out hc1 (by simp only [List.length_nil]; omega) ?_; intro v2 w2 hR2 hg2; rw [List.nil_append] at hR2; obtain ⟨A2, c2, rfl, h2c, h2m, h2at⟩ := hR2.slice; rw [Hlx.out] at h2c ⊢))
            have hb2 : Below w.heap.size w w2 := hb1.grown hg2 hb1s fun g hg => (hR1.lt g hg).1
            obtain ⟨yx, hyx⟩ : ∃ z : Vx, z = ⟨⟨other, qn, fr, v.cells⟩, A2, c2⟩ := ⟨_, rfl⟩
            have hVL : [Value.string other, .int .i64 (qn : Nat), .bool fr, .slice A2 lx c2] = volC yx := by rw [hyx]; unfold volC; rw [Hlx.out]
            have hyok : VxOk w2 (fun b => G b ∨ (w.heap.size ≤ b ∧ b < w2.heap.size)) yx := by
              rw [hyx]
              exact ⟨by show v.cells.length ≤ c2; rw [Hlx.out]; exact h2c, h2m, h2at.keep (Nat.le_refl _) (fun _ _ _ => rfl) fun b hlt hb => .inr ⟨hb, hlt⟩, hsz2, by show qn ≤ 1048576; omega, by show v.cells.length ≤ 1048576; rw [Hlx.out]; exact hlx20⟩
            have hvs2 : VSl w2 (fun b => G b ∨ (w.heap.size ≤ b ∧ b < w2.heap.size)) (some ⟨b, off, none⟩) n c L := (Hs.out w2 hb2).more fun b hlt hb => hb.imp id fun h => ⟨h, hlt⟩
            have hno2 : ∀ u ∈ L, vkey u ≠ vkey yx.v := by rw [hyx]; exact Hno.out
            have hadd := add12_any (some ⟨b, off, none⟩) n c L yx _ hVL w2 _ hvs2 (fun b hb => hb.elim (fun h => Nat.lt_of_lt_of_le (HG.out b h) hb2.size) fun h => h.2) hyok Hl.out hno2
            have Hyv : Hid (yx.v = ⟨other, qn, fr, v.cells⟩) := by rw [hyx]; rfl
            have Hadd := Lib.hid hadd
            have hb2s := hb2.size
            clear hadd hno2 hvs2 hyok hVL hyx hR2 hg2 h2at hR1 hb1 hc1
            refine Calls.mono Hadd.out ?_
            rintro e w3 ⟨A', n', c', rfl, hvs, hb3⟩
            have Hvs := Lib.hid (hvs.more (G' := fun b => G b ∨ w.heap.size ≤ b) fun b hlt hb => by
              rcases hb with (hb | hb) | hb
              · exact .inl hb
              · exact .inr hb.1
              · exact .inr (by omega))
            have hb4 : Below w.heap.size w w3 := hb2.trans (hb3.mono hb2s)
            clear hvs Hadd hb3
            go_wp2_with fail
            go_ret2
            refine ⟨_, _, _, rfl, ?_, hb4⟩
            have := Hvs.out
            rw [Hyv.out] at this
            exact this

end Go.Proofs.YtcajhndhjlfmaaaGreat

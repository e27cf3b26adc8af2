/-
  Keys of a trie: all keys, rising.
-/
import Derived.Test.YtjbiegbdnppncaaGreatK17
import Derived.Test.YtjbiegbdnppncaaGreatLDigRow
namespace Go.Proofs.YtjbiegbdnppncaaGreat
open Go.RowKit
set_option linter.unusedVariables false
set_option linter.unusedSimpArgs false

set_option maxHeartbeats 8000000 in
set_option maxRecDepth 100000 in
/-- keys of a leaf. -/
theorem keys_leaf (key : List UInt8) (KL : List Value) (hKL : KL = Lib.byteCells key) (hk : key.length = 32) (b : Nat) (f t : Int) (vv : Value) (d m s : Int) (dig : List UInt8) (NL : List Value) (hNL : NL = nodeC key f t vv (.pointer none) d m s dig) (B : Nat) (v : Value) (ds : List (List UInt8)) (w : World) (hN : Arr w b 88 NL) (hD : DRow w B v ds) (hB : B ≤ w.heap.size) (hl : ds.length ≤ 100000) :
    Calls Tryz.prog 42 #[.pointer (some ⟨b, 0, none⟩), v] w fun e w' => ∃ v', e = .returned v' ∧ DRow w' B v' (ds ++ [key]) ∧ Below B w w' := by
  have hc35 := (node_at hNL hk hN).2.2.2.1
  have hrng := node_key hNL hKL hN
  have Hki := Lib.hid (show (Tryz.prog.info? 24).map (·.size) = some KL.length by rw [hKL, Lib.byteCells_length, hk]; kernel_rfl)
  have hKl : KL.length = 32 := by rw [hKL, Lib.byteCells_length, hk]
  have hA : Arr (w.alloc (.cells KL.toArray 24)) w.heap.size 24 KL := Arr.new w _ _
  rw [hKL] at hA
  have hb1 : Below w.heap.size w (w.alloc (.cells KL.toArray 24)) := (Below.refl _ w).alloc (Nat.le_refl _) _
  obtain ⟨W1, hW1⟩ : ∃ x, x = w.alloc (.cells KL.toArray 24) := ⟨_, rfl⟩
  rw [← hKL, ← hW1] at hA
  rw [← hW1] at hb1
  have hD1 := hD.up hb1
  have hBW : B ≤ W1.heap.size := Nat.le_trans hB hb1.size
  have hA2 : Arr W1 w.heap.size 24 (Lib.byteCells key) := by rw [← hKL]; exact hA
  have hlo := hD1.lt
  have HW1 := Lib.hid hW1
  clear hNL hKL hN hW1 hD hA
  go_enter Tryz.func42, Tryz.ntmps42
  go_wp2_with (first
    | (refine wpList_load_mid rfl _ _ rfl b 0 rfl KL _ hrng Tryz.underlying24 rfl Hki.out ?_)
    | (refine wpList_build_dig rfl _ rfl KL hKl rfl ?_; rw [← HW1.out])
    | (at_builtin; refine wpList_append_dig rfl _ _ rfl hD1 hBW rfl w.heap.size 1 rfl key hk hA2 (by omega) ?_))
  intro v' w' hD' hg
  have hbn : Below B W1 w' := (Below.refl B W1).grown hg hBW (fun k hk => (hlo k hk).1)
  clear hA2 hD1
  go_wp2_with fail
  go_ret
  exact ⟨v', rfl, hD', (hb1.mono hB).trans hbn⟩

theorem parts_succ (l : List It) (s i : Nat) : (List.range (i + 1)).flatMap (subF l s) = (List.range i).flatMap (subF l s) ++ subF l s i := by
  rw [List.range_succ, List.flatMap_append]; simp
theorem parts_len {l : List It} (s : Nat) : ∀ i, ((List.range i).flatMap (subF l s)).length ≤ l.length := by
  intro i
  have h : ∀ i, ((List.range i).flatMap (subF l s)).length = (l.filter fun x => decide (nibF x.1 s < i)).length := by
    intro i
    induction i with
    | zero => rw [List.filter_eq_nil_iff.2 (by simp)]; rfl
    | succ i ih =>
      rw [parts_succ, List.length_append, ih]
      unfold subF
      clear ih
      induction l with
      | nil => rfl
      | cons x l ih =>
        simp only [List.filter_cons]
        by_cases h1 : nibF x.1 s < i
        · have h2 : ¬ nibF x.1 s = i := by omega
          have h3 : nibF x.1 s < i + 1 := by omega
          simp only [h1, h3, decide_true, if_true, List.length_cons, beq_iff_eq, h2, if_false]
          omega
        · by_cases h2 : nibF x.1 s = i
          · have h3 : nibF x.1 s < i + 1 := by omega
            simp only [h1, h2, decide_false, beq_self_eq_true, if_true, List.length_cons, show i < i + 1 by omega, show ¬ i < i by omega, decide_true, Bool.false_eq_true, if_false]
            omega
          · have h3 : ¬ nibF x.1 s < i + 1 := by omega
            simp only [h1, h2, h3, decide_false, beq_iff_eq, Bool.false_eq_true, if_false]
            omega
  rw [h]
  exact List.length_filter_le _ _

set_option maxHeartbeats 8000000 in
set_option maxRecDepth 100000 in
/-- keys of a node of a wood. -/
theorem keys_wood (M : Wood) (w0 : World) (hS0 : Stand M w0) : ∀ (fuel : Nat) (b : Nat) (n : Nd), M b = some n → 65 - n.f ≤ fuel → ∀ (w : World), Below w0.heap.size w0 w → ∀ (v : Value) (ds : List (List UInt8)), DRow w w0.heap.size v ds → ds.length + n.l.length ≤ 100000 →
    Calls Tryz.prog 42 #[.pointer (some ⟨b, 0, none⟩), v] w fun e w' => ∃ v', e = .returned v' ∧ DRow w' w0.heap.size v' (ds ++ n.l.map (·.1)) ∧ Below w0.heap.size w w' := by
  intro fuel
  induction fuel with
  | zero => intro b n hb hf; have := (hS0 b n hb).f64; omega
  | succ fuel ih =>
    intro b n hb hf w hbl v ds hD hlen
    have hn := (hS0.up hbl) b n hb
    have hBw := hbl.size
    obtain ⟨d, s, dig, hdl, hd, hc⟩ := hn.cells
    rcases hc with ⟨hN, hl⟩ | ⟨hN, hr⟩
    · obtain ⟨val, e, _⟩ := hl.one
      rw [e] at hlen ⊢
      exact keys_leaf n.key _ rfl hn.k32 b _ _ _ _ _ _ _ _ rfl w0.heap.size v ds w hN hD hBw (by simp at hlen; omega)
    · have h2 := hr.two
      have hgood := hn.rise.good hn.l32
      have hs63 := hgood.split h2 hn.f64 hn.agree
      have hsge := sharedF_ge n.l n.f
      have hall := parts_all hn.rise hn.l32 hs63 (shared_agree hn.agree)
      have hpl := parts_len (l := n.l) (sharedF n.l n.f)
      obtain ⟨sh, hsh⟩ : ∃ x, sharedF n.l n.f = x := ⟨_, rfl⟩
      have hoff := hr.off
      have hon := hr.on
      rw [hsh] at hN hs63 hsge hall hoff hon hpl
      have hrow := hr.row
      have hk16 := hr.k16
      have hat := fun (w' : World) (h : Below w0.heap.size w0 w') => show w'.cell? ⟨b, 35, none⟩ = some (.pointer (some ⟨n.arr, 0, none⟩)) from by
        have hn' := (hS0.up h) b n hb
        obtain ⟨d', s', dig', _, _, hc'⟩ := hn'.cells
        rcases hc' with ⟨_, hl'⟩ | ⟨hN', _⟩
        · obtain ⟨val, e, _⟩ := hl'.one
          rw [e] at h2
          simp at h2
        · exact (node_at rfl hn'.k32 hN').2.2.2.1
      have hkid := fun (w' : World) (h : Below w0.heap.size w0 w') (i : Nat) (hi : i < 16) => show w'.cell? ⟨n.arr, i, none⟩ = some (.pointer (n.kids.getD i none)) from by
        have hn' := (hS0.up h) b n hb
        obtain ⟨d', s', dig', _, _, hc'⟩ := hn'.cells
        rcases hc' with ⟨_, hl'⟩ | ⟨hN', hr'⟩
        · obtain ⟨val, e, _⟩ := hl'.one
          rw [e] at h2
          simp at h2
        · rw [hr'.row.cell]
          simp [List.getD, show i < n.kids.length by omega]
      have hc35 := hat w hbl
      have Hat := Lib.hid hat
      have Hkid := Lib.hid hkid
      have Hoff := Lib.hid hoff
      have Hon := Lib.hid hon
      have Hih := Lib.hid ih
      have Hall := Lib.hid hall
      have Hpl := Lib.hid hpl
      have hnf : n.f ≤ sh := hsge
      have h00 : DRow w w0.heap.size v (ds ++ ((List.range 0).flatMap (subF n.l sh)).map (·.1)) := by simpa using hD
      clear hat hkid hoff hon ih hall hpl hN hr hrow hgood hsge hdl hd hn hD hsh
      go_enter Tryz.func42, Tryz.ntmps42
      go_wp2_with fail
      go_loopw [1, 23] (fun ov x wr => ∃ i : Nat, i ≤ 16 ∧ x = .int .i64 i ∧ DRow wr w0.heap.size ov (ds ++ ((List.range i).flatMap (subF n.l sh)).map (·.1)) ∧ Below w0.heap.size w wr) (fun _ x _ => 16 - (intOf x).toNat)
      case atStart => exact ⟨0, by omega, rfl, h00, Below.refl _ _⟩
      case round =>
        clear h00 hc35
        obtain ⟨i, hi16, rfl, hDr, hbr⟩ := hrel
        have hb0 := hbl.trans hbr
        by_cases hlt : i < 16
        · have hd2 : decide ((i : Int) < (16 : Int)) = true := by simp; omega
          have hiI : (i : Int) < (16 : Int) := by omega
          have hcp := Hkid.out wr hb0 i hlt
          obtain ⟨pp, hpp⟩ : ∃ pp, n.kids.getD i none = pp := ⟨_, rfl⟩
          rw [hpp] at hcp
          have Hpp := Lib.hid hpp
          clear hpp
          cases pp with
          | none =>
            have he : subF n.l sh i = [] := by
              by_cases e : subF n.l sh i = []
              · exact e
              · obtain ⟨b', n', k1, _⟩ := Hon.out i hlt e
                have h := Hpp.out
                simp [List.getD, k1] at h
            have hnx := hDr
            rw [show ds ++ ((List.range i).flatMap (subF n.l sh)).map (·.1) = ds ++ ((List.range (i + 1)).flatMap (subF n.l sh)).map (·.1) by rw [parts_succ, he, List.append_nil]] at hnx
            clear he
            go_wp2_with fail
            case roundEnd => exact ⟨⟨i + 1, by omega, by simp, hnx, hbr⟩, by simp [intOf]; omega⟩
          | some ad =>
            have hne : subF n.l sh i ≠ [] := fun e => by
              have h := Hpp.out
              simp [List.getD, Hoff.out i hlt e] at h
            obtain ⟨b', n', k1, k2, k3, k4⟩ := Hon.out i hlt hne
            have hadr : ad = ⟨b', 0, none⟩ := by
              have h := Hpp.out
              simp [List.getD, k1] at h
              exact h.symm
            subst hadr
            have hlen' : (ds ++ ((List.range i).flatMap (subF n.l sh)).map (·.1)).length + n'.l.length ≤ 100000 := by
              have h := Hpl.out (i + 1)
              rw [parts_succ, List.length_append] at h
              rw [k3, List.length_append, List.length_map]
              omega
            have hcall := Hih.out b' n' k2 (by omega) wr hb0 _ _ hDr hlen'
            have hnx : ∀ (wx : World) (vx : Value), DRow wx w0.heap.size vx ((ds ++ ((List.range i).flatMap (subF n.l sh)).map (·.1)) ++ n'.l.map (·.1)) → DRow wx w0.heap.size vx (ds ++ ((List.range (i + 1)).flatMap (subF n.l sh)).map (·.1)) := fun wx vx h => by
              rw [parts_succ, List.map_append, ← List.append_assoc, ← k3]; exact h
            have Hnx := Lib.hid hnx
            clear hne k1 k2 k3 k4 hlen' hnx
            go_wp2_with fail
            refine Calls.mono hcall ?_
            rintro e wx ⟨v', rfl, hD', hb'⟩
            have hD2 := Hnx.out wx v' hD'
            have hbx := hbr.trans hb'
            clear hcall hD' hb' hcp hDr
            dsimp only
            go_wp2_with fail
            case roundEnd => exact ⟨⟨i + 1, by omega, by simp, hD2, hbx⟩, by simp [intOf]; omega⟩
        · obtain rfl : i = 16 := by omega
          have hd2 : decide (((16 : Nat) : Int) < (16 : Int)) = false := by simp
          rw [Hall.out] at hDr
          go_wp2_with fail
          go_ret
          exact ⟨_, rfl, hDr, hbr⟩

set_option maxHeartbeats 4000000 in
set_option maxRecDepth 100000 in
theorem tkeys_run (a : Nat) (p0 : Option Addr) (M : Wood) (l : List It) (hat : RootAt M p0 l) (hl : l.length ≤ 100000) (w : World) (hS : Stand M w) (hroot : Arr w a 63 [.pointer p0]) :
    Calls Tryz.prog 20 #[.pointer (some ⟨a, 0, none⟩)] w fun e w' => ∃ v, e = .returned v ∧ DRow w' w.heap.size v (l.map (·.1)) ∧ Below w.heap.size w w' := by
  have hc := hroot.cell 0
  rcases hat with ⟨rfl, rfl⟩ | ⟨b, nd, rfl, hb, rfl, hf⟩
  · go_enter Tryz.func20, Tryz.ntmps20
    go_wp2_with fail
    go_ret
    exact ⟨_, rfl, DRow.nil w _, Below.refl _ _⟩
  · have hcall := keys_wood M w hS 65 b nd hb (by omega) w (Below.refl _ _) (.slice none 0 0) [] (DRow.nil w _) (by simpa using hl)
    go_enter Tryz.func20, Tryz.ntmps20
    go_wp2_with fail
    refine Calls.mono hcall ?_
    rintro e w' ⟨v, rfl, hD, hbl⟩
    dsimp only
    go_wp2_with fail
    go_ret
    exact ⟨v, rfl, by simpa using hD, hbl⟩

theorem forest_keys (B : Nat) (a : Nat) (l : List It) (ts : List (Nat × List It)) (hl : l.length ≤ 100000) (w : World) (h : Forest B ((a, l) :: ts) w) :
    Calls Tryz.prog 20 #[.pointer (some ⟨a, 0, none⟩)] w fun e w' => ∃ v, e = .returned v ∧ Forest B ((a, l) :: ts) w' ∧ DRow w' w.heap.size v (l.map (·.1)) ∧ Below w.heap.size w w' := by
  have h' := h
  obtain ⟨M, h1, h2, h3, h4⟩ := h
  obtain ⟨hBa, p, hA, hR⟩ := h4 (a, l) List.mem_cons_self
  refine (tkeys_run a p M l hR hl w h1 hA).mono ?_
  rintro e w' ⟨v, rfl, hD, hb⟩
  exact ⟨v, rfl, h'.up hb, hD, hb⟩

end Go.Proofs.YtjbiegbdnppncaaGreat

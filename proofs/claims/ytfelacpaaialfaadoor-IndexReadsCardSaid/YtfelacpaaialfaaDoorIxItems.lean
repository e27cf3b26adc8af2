/-
  All items of an index.
-/
import Derived.Test.YtfelacpaaialfaaDoorIxSort
import Derived.Test.YtfelacpaaialfaaDoorIxNew
import Derived.Maps.RangeWalk
namespace Go.Proofs.YtfelacpaaialfaaDoor
open Go.RowKit
set_option linter.unusedVariables false
set_option linter.unusedSimpArgs false

theorem ixD_sizeI (L : List Ix) : Maps.size (ixD L) = L.length := by
  unfold ixD
  rw [Maps.size_eq, List.length_map]
theorem ix_found {L : List Ix} {kl : Lit} {d : DataW Unit} (hat : ∀ zd, (ixD L).atKey kl zd = d) : ∃ x ∈ L, kl = .string x.d ∧ d = stDx (x.b, x.s, x.u) := by
  unfold ixD DataW.atKey at hat
  dsimp only at hat
  cases hf : (L.map litX).find? (fun p => p.1.sameKey kl) with
  | none =>
    rw [hf] at hat
    have h1 := hat .nil
    have h2 := hat (.map [])
    dsimp only at h1 h2
    rw [← h1] at h2
    cases h2
  | some p =>
    rw [hf] at hat
    have h1 := hat .nil
    dsimp only at h1
    obtain ⟨x, hx, rfl⟩ := List.mem_map.1 (List.mem_of_find?_eq_some hf)
    have hs := List.find?_some hf
    exact ⟨x, hx, (WideAt.sameKey_eq hs).symm, h1.symm⟩
/-- The next entry. -/
theorem wpList_next_ix {ops : Array Oper} {rest : List Oper} {o : Oper} {a : Act} {w : World} {Q : Exit → Act → World → Prop} (hg : o.guard = none) (it : Operand) (hop : o.op = Op.next it false) (b r n : Nat) (L : List Ix) (hL : ∀ x ∈ L, x.d.length = 32) (left : Lit → Bool) (cnt : Nat)
    (hit : a.eval it = .pointer (some ⟨r, 0, none⟩)) (h : w.ranges Tryd.prog 39 stR b r n (ixD L) left cnt)
    (hDone : cnt = 0 → (∀ kl, left kl = false) → wpList Tryd.prog ops Q rest (a.put o.dst (.tuple #[.bool false])) w)
    (hMore : ∀ (x : Ix) (w' : World) (cnt' : Nat), x ∈ L → left (.string x.d) = true → w'.ranges Tryd.prog 39 stR b r n (ixD L) (fun z => left z && !z.sameKey (.string x.d)) cnt' → cnt' < cnt → w.grownBy w' (some r) → w'.heap.size = w.heap.size →
      (Instr.entry (.pointer (some ⟨r, 0, none⟩))).run Tryd.prog w' = .ok (.tuple #[digV x.d, stV (x.b, x.s, x.u)]) w' → wpList Tryd.prog ops Q rest (a.put o.dst (.tuple #[.bool true, digV x.d, stV (x.b, x.s, x.u)])) w') :
    wpList Tryd.prog ops Q (o :: rest) a w := by
  refine wpList_plain hg fun K' hK' => ?_
  unfold Oper.wp
  rcases h.next dgKeyed o.type with ⟨h0, hl, hrun⟩ | ⟨key, v, kl, y, w', cnt', hkey, hlk, hv, hat, hrun, hrg, hlt, hgr, hsz, hen⟩
  · simp [execOp, hop, hit, hrun, Result.andThen]
    exact hK' _ _ (hDone h0 hl)
  · obtain ⟨y1, y2⟩ := y
    dsimp only at hat
    obtain ⟨x, hx, rfl, rfl⟩ := ix_found hat
    obtain rfl := dgKeyed.inj hkey (keyOf_dg (hL x hx))
    obtain rfl := stR_inv hv
    simp [execOp, hop, hit, hrun, Result.andThen]
    exact hK' _ _ (hMore x w' cnt' hx hlk hrg hlt hgr hsz hen)
theorem row_off_iter {w : World} {B b r n m cnt : Nat} {v : Value} {xs : List Value} {e k : TypeId} {sz : Nat} {R : Value → Option (DataW Unit × List MemPlace)} {D : DataW Unit} {left : Lit → Bool} (h : w.ownsRow B e sz v m xs) (hr : w.ranges Tryd.prog k R b r n D left cnt) : ∀ g, v.ownBlock = some g → g ≠ r ∧ g ≠ b := by
  intro g hg
  obtain ⟨es, clock, since, seen, c0, hb, _, _, _, hr, _⟩ := hr
  rcases h.2 with ⟨rfl, _⟩ | ⟨g1, cap, cur, rfl, _, hg1, _⟩
  · cases hg
  · injection hg with hg
    subst hg
    constructor
    · intro e; have e : g1 = r := e; rw [e] at hg1; rw [hr] at hg1; cases hg1
    · intro e; have e : g1 = b := e; rw [e] at hg1; rw [hb] at hg1; cases hg1
theorem dg_apart {L : List Ix} (hL : L.Pairwise (fun a b => ltD a.d b.d = true)) {x y : Ix} (hx : x ∈ L) (hy : y ∈ L) (h : x.d = y.d) : x = y := by
  rcases List.mem_iff_getElem.1 hx with ⟨i, hi, rfl⟩
  rcases List.mem_iff_getElem.1 hy with ⟨j, hj, rfl⟩
  rcases Nat.lt_trichotomy i j with e | e | e
  · have := List.pairwise_iff_getElem.1 hL i j hi hj e
    rw [h, ltD_irrefl] at this; cases this
  · subst e; rfl
  · have := List.pairwise_iff_getElem.1 hL j i hj hi e
    rw [h, ltD_irrefl] at this; cases this
theorem rise_nodup {L : List Ix} (hL : L.Pairwise (fun a b => ltD a.d b.d = true)) : L.Nodup := hL.imp fun h e => by rw [e, ltD_irrefl] at h; cases h
theorem str_same (a b : List UInt8) : (Lit.string a).sameKey (.string b) = decide (a = b) := by
  simp only [Lit.sameKey]
  by_cases h : a = b
  · simp [h]
  · simp [h]
theorem ranges_belowI {k : TypeId} {R : Value → Option (DataW Unit × List MemPlace)} {w w' : World} {b r n : Nat} {D : DataW Unit} {left : Lit → Bool} {cnt : Nat} (h : w.ranges Tryd.prog k R b r n D left cnt) (hb : Below w.heap.size w w') : w'.ranges Tryd.prog k R b r n D left cnt :=
  h.kept (row := none) ⟨hb.os, hb.tape, hb.output, hb.size, fun i hi _ => hb.block i hi⟩ (by simp) (by simp)

theorem Below.setRI {a b : World} (h : Below a.heap.size a b) {g : Nat} (hg : a.heap.size ≤ g) (c : Array Value) : Below a.heap.size a (b.setRow g c) :=
  ((Only.of_below h).setRow (.inr hg) c).below (R := fun _ => False) (Nat.le_refl _) (fun _ h => h.elim)
theorem wpList_atT {P : Program} {ops : Array Oper} {rest : List Oper} {o : Oper} {a : Act} {w : World} {Q : Exit → Act → World → Prop} (n : Nat) (hd : o.dst = some n) (h : wpList P ops Q (o :: rest) a w) : wpList P ops Q (o :: rest) a w := h

set_option maxHeartbeats 8000000 in
set_option maxRecDepth 100000 in
theorem items_any (s mb : Nat) (L : List Ix) (w : World) (h : IxQ w s mb L) (hOk : OkI L) (hn : L.length ≤ 100000) :
    Calls Tryd.prog 8 #[.pointer (some ⟨s, 0, none⟩)] w fun e w' => ∃ v, e = .returned v ∧ IRw w' w.heap.size v L ∧ Below w.heap.size w w' := by
  obtain ⟨i0, hi, hz0, hz1, hz2⟩ := info_partsV itAll
  have hlen := World.ownsMap.len h.hm Tryd.underlying53 3
  rw [ixD_sizeI] at hlen
  obtain ⟨n, hnn⟩ : ∃ n, L.length = n := ⟨_, rfl⟩
  rw [hnn] at hlen hn
  have hc0 := h.hs.cell 0
  simp only [List.getElem?_cons_zero] at hc0
  obtain ⟨w1, hmk, hrow1, hg1⟩ := run_make_own (P := Tryd.prog) w w.heap.size 28 61 i0 _ 35 Tryd.underlying28 hi hz0 hz1 .i64 .i64 n (by rw [hz2]; omega) (by unfold maxLen; omega) (Nat.le_refl _)
  have hb1 : Below w.heap.size w w1 := (Below.refl _ w).grown hg1 (Nat.le_refl _) (by intro k hk; cases hk)
  have hQ1 := h.up hb1
  have hI1 : IRw w1 w.heap.size (.slice (some ⟨w.heap.size, 0, none⟩) 0 n) [] := ⟨by simp, hrow1⟩
  have hd0 := hQ1.hs.cell 0
  simp only [List.getElem?_cons_zero] at hd0
  have hown := hQ1.hm
  rw [hnn] at hown
  have Hnn := Lib.hid hnn
  have HOk := Lib.hid hOk
  have HI1 := Lib.hid hI1
  have hlts := h.lt
  have hb1s := hb1.size
  have Hb1 := Lib.hid hb1
  clear h hQ1 hnn hi hz0 hz1 hz2 hrow1 hg1 hI1 hb1 hOk
  go_enter Tryd.func8, Tryd.ntmps8
  go_upto_region 2 with fail
  clear hmk hlen hc0
  go_wp2_with (at_range; refine wpList_range_own _ rfl _ 53 rfl 39 50 dgKeyed Tryd.underlying53 stR mb n (ixD L) rfl hown ?_; intro w2 hrg2 hg2 hsz2)
  have hb12 : Below w1.heap.size w1 w2 := ⟨hg2.os, hg2.tape, hg2.output, hg2.size, fun i hi => hg2.block i hi (by simp)⟩
  have hb2 : Below w.heap.size w w2 := Hb1.out.trans (hb12.mono hb1s)
  have hI2 := HI1.out.up hb12
  obtain ⟨r, hr⟩ : ∃ r, r = w1.heap.size := ⟨_, rfl⟩
  rw [← hr] at hrg2 ⊢
  have hwr : w.heap.size ≤ r := by omega
  clear hown hd0 hg2 hb12 hr hsz2 hb1s
  try go_frame
  go_loopw [3, 4, 5] (fun t _ _ wr => ∃ left cnt xs, wr.ranges Tryd.prog 39 stR mb r n (ixD L) left cnt ∧ IRw wr w.heap.size t xs ∧ Hid xs.Nodup ∧ Hid (∀ x, x ∈ xs ↔ x ∈ L ∧ left (.string x.d) = false) ∧ Hid (xs.length + cnt ≤ n) ∧ Below w.heap.size w wr) (fun _ _ _ wr => wr.rangeLeft mb r)
  case atStart =>
    refine ⟨_, _, [], hrg2, hI2, Lib.hid List.nodup_nil, Lib.hid fun x => ?_, Lib.hid ?_, hb2⟩
    · constructor
      · intro h; cases h
      · rintro ⟨hx, hl⟩
        have hh : Maps.has (ixD L) (.string x.d) = true := by
          unfold ixD
          rw [Maps.has_eq, List.any_map, List.any_eq_true]
          exact ⟨x, hx, by simp [litX, Lit.sameKey]⟩
        rw [hh] at hl
        cases hl
    · rw [ixD_sizeI, Hnn.out]; simp
  case round =>
    clear hrg2 hI2 hb2
    obtain ⟨left, cnt, xs, hrg, hI, Hnd, Hxs, Hle, hbr⟩ := hrel
    go_wp2_with (at_next; refine wpList_next_ix rfl _ rfl mb r n L (fun x hx => (HOk.out.1 x hx).1.1) left cnt rfl hrg ?_ ?_)
    · intro hcnt hno
      have hperm : xs.Perm L := (List.perm_ext_iff_of_nodup Hnd.out (rise_nodup HOk.out.2)).2 fun x => (Hxs.out x).trans ⟨fun h => h.1, fun h => ⟨h, hno _⟩⟩
      have hxn : xs.length ≤ 1000000 := by rw [hperm.length_eq, Hnn.out]; omega
      have Hsort := Lib.hid (isort_any w.heap.size xs L _ wr hperm HOk.out.2 hI hxn)
      have hIo := hI.lt
      clear hrg hno hcnt hI hperm hxn Hle
      go_wp2_with fail
      refine Calls.mono Hsort.out ?_
      rintro e w9 ⟨rfl, hI9, hg9⟩
      have hb9 : Below w.heap.size w w9 := hbr.grown hg9 hbr.size fun k hk => (hIo k hk).1
      clear hg9 Hsort hbr hIo
      go_wp2_with fail
      go_ret
      exact ⟨_, rfl, hI9, hb9⟩
    · intro x w3 cnt3 hx hlx hrg3 hlt3 hg3 hs3 hen
      have hoff := row_off_iter hI.2 hrg
      have hI3 : IRw w3 w.heap.size _ xs := hI.keep (fun g hg => hg3.block g (hI.lt g hg).2 (fun e => (hoff g hg).1 (by injection e))) hg3.tape
      have hb3 : Below w.heap.size w w3 := hbr.trans (show Below w.heap.size _ w3 from ⟨hg3.os, hg3.tape, hg3.output, hg3.size, fun i hi => hg3.block i (by have := hbr.size; omega) (fun e => by injection e with e; omega)⟩)
      have hx32 := (HOk.out.1 x hx).1.1
      obtain ⟨leftN, hleft⟩ : ∃ z, z = (fun z => left z && !z.sameKey (.string x.d)) := ⟨_, rfl⟩
      rw [← hleft] at hrg3
      have hlold := hrg.left_eq
      obtain ⟨xb, hxb⟩ : ∃ z, x.b = z := ⟨_, rfl⟩
      obtain ⟨xs', hxs'⟩ : ∃ z, x.s = z := ⟨_, rfl⟩
      obtain ⟨xu, hxu⟩ : ∃ z, x.u = z := ⟨_, rfl⟩
      obtain ⟨DL, hDL⟩ : ∃ z, z = Lib.byteCells x.d := ⟨_, rfl⟩
      obtain ⟨VL, hVL⟩ : ∃ z, z = stC x.b x.s x.u := ⟨_, rfl⟩
      have e1 : digV x.d = .agg DL.toArray := by rw [hDL]; rfl
      have e2 : stV (x.b, x.s, x.u) = .agg VL.toArray := by rw [hVL]; rfl
      rw [e1, e2] at hen ⊢
      obtain ⟨PL, hPL⟩ : ∃ z, z = plC ((x.b : Int) - 1) (x.s : Nat) := ⟨_, rfl⟩
      obtain ⟨TL, hTL⟩ : ∃ z, z = itC x := ⟨_, rfl⟩
      have hDl : DL.length = 32 := by rw [hDL, Lib.byteCells_length]; exact hx32
      have HBt := Lib.hid (show Tryd.prog.built 61 [(0, .agg DL.toArray), (1, .agg PL.toArray), (2, .int .i64 (xu : Nat))] = some TL.toArray by
        rw [it_built DL PL hDl (by rw [hPL]; rfl) (xu : Nat), hDL, hPL, hTL, ← hxu]
        rfl)
      have HTL := Lib.hid hTL
      have HTl := Lib.hid (show TL.length = 35 by rw [hTL]; exact itC_length hx32)
      have HDi := Lib.hid (show (Tryd.prog.info? 39).map (·.size) = some DL.toArray.size ∧ (Lib.byteCells zeros).toArray.size = DL.toArray.size by rw [List.size_toArray, List.size_toArray, Lib.byteCells_length, hDl]; exact ⟨digInfo, rfl⟩)
      have HD1 := Lib.hid (show DL.toArray.all (·.oneCell') = true by rw [hDL]; exact dig_one _)
      have HVi := Lib.hid (show (Tryd.prog.info? 50).map (·.size) = some VL.toArray.size ∧ (#[.int .i64 0, .int .i64 0, .int .i64 0] : Array Value).size = VL.toArray.size by rw [hVL]; exact ⟨stInfo, rfl⟩)
      have HV1 := Lib.hid (show VL.toArray.all (·.oneCell') = true by rw [hVL]; simp [stC, Value.oneCell'])
      have HPi := Lib.hid (show (Tryd.prog.info? 48).map (·.size) = some PL.length by rw [hPL]; exact plInfo)
      have HVp := Lib.hid (fun (w : World) (g : Nat) (h : Arr w g 50 VL) => show w.rangeAt g 0 PL ∧ w.cell? ⟨g, 2, none⟩ = some (.int .i64 (xu : Nat)) by
        refine ⟨fun j v hj => ?_, ?_⟩
        · have hr := h.range j v (by
            rw [hPL] at hj
            rw [hVL]
            match j, hj with
            | 0, hj => exact hj
            | 1, hj => exact hj
            | j + 2, hj => simp [plC] at hj)
          exact hr
        · rw [h.cell, hVL, ← hxu]; rfl)
      have Hx := Lib.hid hx
      have Hlx := Lib.hid hlx
      have Hleft := Lib.hid hleft
      have Hcnt := Lib.hid hlt3
      have Hx32 := Lib.hid hx32
      clear hx hlx hleft hlt3 hg3 hs3 hrg hbr hI hoff hx32 hDL hVL hPL hTL hDl hxb hxs' hxu e1 e2
      obtain ⟨gd, hgd⟩ : ∃ z, z = w3.heap.size := ⟨_, rfl⟩
      obtain ⟨w7, hw7⟩ : ∃ z, z = (w3.alloc (.cells (Lib.byteCells zeros).toArray 39)).alloc (.cells #[.int .i64 0, .int .i64 0, .int .i64 0] 50) := ⟨_, rfl⟩
      have hd7 : Arr w7 gd 39 (Lib.byteCells zeros) := by rw [hw7, hgd]; exact (Arr.new w3 _ _).alloc _
      have hv7 : Arr w7 (gd + 1) 50 [.int .i64 0, .int .i64 0, .int .i64 0] := by
        have := Arr.new (w3.alloc (.cells (Lib.byteCells zeros).toArray 39)) 50 [.int .i64 0, .int .i64 0, .int .i64 0]
        rw [hw7, hgd]
        simpa using this
      have hb67 : Below w3.heap.size w3 w7 := by rw [hw7]; exact ((Below.refl _ _).alloc (Nat.le_refl _) _).alloc (by simp) _
      obtain ⟨w8, hw8⟩ : ∃ z, z = w7.setRow gd DL.toArray := ⟨_, rfl⟩
      have hd8 : Arr w8 gd 39 DL := by rw [hw8]; exact hd7.setRow DL
      have hv8 : Arr w8 (gd + 1) 50 [.int .i64 0, .int .i64 0, .int .i64 0] := by rw [hw8]; exact hv7.rowOther (by omega) _
      have hb68 : Below w3.heap.size w3 w8 := by rw [hw8]; exact Below.setRI hb67 (by omega) _
      obtain ⟨w9, hw9⟩ : ∃ z, z = w8.setRow (gd + 1) VL.toArray := ⟨_, rfl⟩
      have hd9 : Arr w9 gd 39 DL := by rw [hw9]; exact hd8.rowOther (by omega) _
      have hv9 : Arr w9 (gd + 1) 50 VL := by rw [hw9]; exact hv8.setRow VL
      have hb69 : Below w3.heap.size w3 w9 := by rw [hw9]; exact Below.setRI hb68 (by omega) _
      have Hw7 := Lib.hid hw7
      have Hw8 := Lib.hid hw8
      have Hw9 := Lib.hid hw9
      have Hgd := Lib.hid hgd
      clear hw7 hw8 hw9 hb67 hb68 hgd
      go_upto_region 5 with (first
        | (change wpList _ _ _ _ _ ((w3.alloc (.cells (Lib.byteCells zeros).toArray 39)).alloc (.cells #[.int .i64 0, .int .i64 0, .int .i64 0] 50)); rw [← Hw7.out, ← Hgd.out]; refine wpList_store_row rfl _ _ _ rfl gd DL.toArray rfl rfl 39 (Lib.byteCells zeros).toArray hd7 HDi.out.1 HDi.out.2 HD1.out ?_; rw [← Hw8.out])
        | (refine wpList_store_row rfl _ _ _ rfl (gd + 1) VL.toArray rfl rfl 50 _ hv8 HVi.out.1 HVi.out.2 HV1.out ?_; rw [← Hw9.out]))
      have hI9 := hI3.up hb69
      have hrg9 := ranges_belowI hrg3 hb69
      have hb9 : Below w.heap.size w w9 := hb3.trans (hb69.mono hb3.size)
      obtain ⟨hpl, hul⟩ := HVp.out w9 (gd + 1) hv9
      have hb9s := hb9.size
      have hba : Below w9.heap.size w9 (w9.alloc (.cells TL.toArray 61)) := (Below.refl _ _).alloc (Nat.le_refl _) _
      have hIa := hI9.up hba
      have hrga := ranges_belowI hrg9 hba
      have hbra : Below w.heap.size w (w9.alloc (.cells TL.toArray 61)) := hb9.trans (hba.mono hb9s)
      have hsza : w.heap.size ≤ (w9.alloc (.cells TL.toArray 61)).heap.size := hbra.size
      have Ha := Lib.hid (Arr.new w9 61 TL)
      have hxl : xs.length ≤ 2000000 := by have := Hle.out; omega
      have hoffa := row_off_iter hIa.2 hrga
      have hlta := hIa.lt
      clear hen hI3 hrg3 hb3 hb69 hd7 hv7 hd8 hv8 hI9 hrg9 hb9 hba hb9s
      go_wp2_with (first
        | ((with_reducible refine wpList_atT 23 (by rfl) ?_); refine wpList_load_row rfl _ _ rfl gd rfl 39 DL.toArray (0, 0) _ hd9 Tryd.underlying39 rfl HDi.out.1 ?_)
        | ((with_reducible refine wpList_atT 25 (by rfl) ?_); refine wpList_load_mid rfl _ _ rfl (gd + 1) 0 rfl PL _ hpl Tryd.underlying48 rfl HPi.out ?_)
        | (refine wpList_builtV rfl _ _ rfl _ rfl TL.toArray HBt.out ?_)
        | (refine wpList_build_it rfl _ rfl TL HTl.out rfl ?_)
        | (refine wpList_append_it rfl _ _ rfl hIa hsza rfl _ _ rfl x Hx32.out TL HTL.out Ha.out hxl ?_))
      intro v' w' hI' hg'
      have hrg' := hrga.kept hg' (fun e => by have := hoffa mb e.symm; exact this.2 rfl) (fun e => by have := hoffa r e.symm; exact this.1 rfl)
      have hb' : Below w.heap.size w w' := hbra.grown hg' hsza fun k hk => (hlta k hk).1
      have hnd' : (xs ++ [x]).Nodup := by
        rw [List.nodup_append]
        refine ⟨Hnd.out, by simp, fun a ha c hc e => ?_⟩
        rw [List.mem_singleton] at hc
        subst hc e
        have := ((Hxs.out _).1 ha).2
        rw [Hlx.out] at this
        cases this
      have hxs' : ∀ y, y ∈ xs ++ [x] ↔ y ∈ L ∧ leftN (.string y.d) = false := fun y => by
        rw [List.mem_append, List.mem_singleton, Hxs.out y, Hleft.out]
        constructor
        · rintro (⟨h1, h2⟩ | rfl)
          · exact ⟨h1, by simp only [h2, Bool.false_and]⟩
          · exact ⟨Hx.out, by simp only [str_same, decide_true, Bool.not_true, Bool.and_false]⟩
        · rintro ⟨h1, h2⟩
          by_cases e : y.d = x.d
          · exact .inr (dg_apart HOk.out.2 h1 Hx.out e)
          · exact .inl ⟨h1, by simpa [str_same, e] using h2⟩
      have hle' : (xs ++ [x]).length + cnt3 ≤ n := by
        have h1 := Hle.out
        have h2 := Hcnt.out
        rw [List.length_append, List.length_singleton]
        omega
      clear hg' hrga hbra hIa hsza hoffa hlta hd9 hv9 hpl hul
      go_wp2_with fail
      go_roundw
      case rel => exact ⟨leftN, cnt3, xs ++ [x], hrg', hI', Lib.hid hnd', Lib.hid hxs', Lib.hid hle', hb'⟩
      case measure => rw [hrg'.left_eq, hlold]; exact Hcnt.out

end Go.Proofs.YtfelacpaaialfaaDoor

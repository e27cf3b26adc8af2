/-
  Answers; read.
-/
import Derived.Test.YtcajhndhjlfmaaaModTrim
import Derived.Great.BuildSlice
namespace Go.Proofs.Ytcajhndhjlfmaaa
open Go.RowKit
set_option linter.unusedVariables false
set_option linter.unusedSimpArgs false

theorem fill_midV (place : Nat → Option (Nat × Nat)) (cells : Array Value) (i off : Nat) (l : List Value) (hp : place i = some (off, l.length)) (h : off + l.length ≤ cells.size) :
    Instr.fill place cells [(i, .agg l.toArray)] = some (cells.toList.take off ++ (l ++ cells.toList.drop (off + l.length))).toArray := by
  simp only [Instr.fill, hp, Value.cells, List.size_toArray]
  rw [if_neg (by simp; omega)]
  congr 1
  obtain ⟨g1, g2⟩ := Great.foldl_set off l 0 cells
  have e : (l.toArray.zipIdx.foldl (fun cs (x : Value × Nat) => cs.setIfInBounds (off + x.2) x.1) cells) = ((l.zipIdx 0).foldl (fun cs (x : Value × Nat) => cs.setIfInBounds (off + x.2) x.1) cells) := by
    rw [← Array.foldl_toList, Array.toList_zipIdx]
  show (l.toArray.zipIdx.foldl (fun cs (x : Value × Nat) => cs.setIfInBounds (off + x.2) x.1) cells) = _
  rw [e]
  apply Array.ext_getElem?
  intro k
  rw [g2 k]
  have hto : (cells.toList.take off).length = off := by simp; omega
  simp only [List.getElem?_toArray, Nat.add_zero]
  by_cases hk : off ≤ k
  · rw [List.getElem?_append_right (by omega), hto]
    by_cases hk2 : k < off + l.length
    · rw [if_pos ⟨hk, hk2, by omega⟩, List.getElem?_append_left (by omega)]
    · rw [if_neg (by omega), List.getElem?_append_right (by omega), List.getElem?_drop]
      rw [show off + l.length + (k - off - l.length) = k by omega]
      simp
  · rw [if_neg (by omega), List.getElem?_append_left (by omega)]
    simp [show k < off from by omega]

theorem fill_consV (place : Nat → Option (Nat × Nat)) (cells : Array Value) (x : Nat × Value) (rest : List (Nat × Value)) (c : Array Value) (h : Instr.fill place cells [x] = some c) : Instr.fill place cells (x :: rest) = Instr.fill place c rest := by
  obtain ⟨i, v⟩ := x
  unfold Instr.fill at h ⊢
  cases hp : place i with
  | none => simp [hp] at h
  | some p =>
    obtain ⟨off, n⟩ := p
    simp only [hp] at h ⊢
    split at h
    · cases h
    · rename_i hc
      rw [if_neg hc]
      simp only [Instr.fill] at h
      injection h with h
      rw [h]
      conv => lhs; unfold Instr.fill

theorem info_partsV {α γ : Type} {P : Program} {t : TypeId} {z : α} {s b : γ} {f : TypeInfo → Option α} {g k : TypeInfo → γ} (h : (P.info? t).map (fun i => (f i, g i, k i)) = some (some z, s, b)) : ∃ i, P.info? t = some i ∧ f i = some z ∧ g i = s ∧ k i = b := by
  cases hi : P.info? t with
  | none => rw [hi] at h; cases h
  | some i =>
    rw [hi] at h
    simp only [Option.map_some, Option.some.injEq, Prod.mk.injEq] at h
    exact ⟨i, rfl, h.1, h.2.1, h.2.2⟩

theorem wpList_builtV {P : Program} {ops : Array Oper} {rest : List Oper} {o : Oper} {a : Act} {w : World} {Q : Exit → Act → World → Prop} (hg : o.guard = none) (t : TypeId) (parts : Array (Nat × Operand)) (ho : o.op = .build t parts)
    (ps : List (Nat × Value)) (hp : parts.toList.map (fun x => (x.1, a.eval x.2)) = ps) (cells : Array Value) (hf : P.built t ps = some cells)
    (h : wpList P ops Q rest (a.put o.dst (.agg cells)) w) : wpList P ops Q (o :: rest) a w :=
  wpList_buildTo hg t parts ho _ rfl cells (by rw [← hf, ← hp]; simp) h

def nilS : Value := .slice none 0 0
def ansC (k : Int) (th : Bool) (BL : List Value) (nv : Value) : List Value := .int .i64 k :: .bool th :: (BL ++ [nv])
def ansZ : List Value := ansC 0 false (Lib.byteCells zB) nilS
def ansV (a : Ans) (nv : Value) : List Value := ansC a.k a.th (Lib.byteCells a.blk) nv
theorem ansC_length {k : Int} {th : Bool} {BL : List Value} {nv : Value} (h : BL.length = 48) : (ansC k th BL nv).length = 51 := by simp [ansC, h]
theorem ansSize : (Try.prog.info? 47).map (·.size) = some 51 := by kernel_rfl
theorem ansZero (w : World) : (zeroValue 47).run Try.prog w = .ok (.agg ansZ.toArray) w := by kernel_rfl
theorem ansC_one {k : Int} {th : Bool} {bl : List UInt8} {nv : Value} (h : nv.oneCell' = true) : (ansC k th (Lib.byteCells bl) nv).toArray.all (·.oneCell') = true := by
  have hb := dig_one bl
  refine all_one fun v hv => ?_
  unfold ansC at hv
  rcases List.mem_cons.1 hv with rfl | hv
  · rfl
  rcases List.mem_cons.1 hv with rfl | hv
  · rfl
  rcases List.mem_append.1 hv with hv | hv
  · simp only [Lib.byteCells, List.mem_map] at hv
    obtain ⟨b, _, rfl⟩ := hv
    rfl
  · rw [List.mem_singleton] at hv; rw [hv]; exact h
theorem ans_fill (parts : List (Nat × Value)) : Try.prog.built 47 parts = Instr.fill (#[(0, 1), (1, 1), (2, 48), (50, 1)][·]?) ansZ.toArray parts := by kernel_rfl
theorem ans_b0 (k : Int) : Try.prog.built 47 [(0, .int .i64 k)] = some (ansC k false (Lib.byteCells zB) nilS).toArray := by rw [ans_fill]; rfl
theorem ans_b3 (A : Option Addr) (n c : Nat) : Try.prog.built 47 [(3, .slice A n c)] = some (ansC 0 false (Lib.byteCells zB) (.slice A n c)).toArray := by rw [ans_fill]; rfl
theorem ans_b012 (k : Int) (th : Bool) (BL : List Value) (hl : BL.length = 48) : Try.prog.built 47 [(0, .int .i64 k), (1, .bool th), (2, .agg BL.toArray)] = some (ansC k th BL nilS).toArray := by
  rw [ans_fill]
  have h0 : Instr.fill (#[(0, 1), (1, 1), (2, 48), (50, 1)][·]?) ansZ.toArray [(0, .int .i64 k)] = some (ansC k false (Lib.byteCells zB) nilS).toArray := by rfl
  rw [fill_consV _ _ _ _ _ h0]
  have h1 : Instr.fill (#[(0, 1), (1, 1), (2, 48), (50, 1)][·]?) (ansC k false (Lib.byteCells zB) nilS).toArray [(1, .bool th)] = some (ansC k th (Lib.byteCells zB) nilS).toArray := by rfl
  rw [fill_consV _ _ _ _ _ h1]
  have h2 := fill_midV (#[(0, 1), (1, 1), (2, 48), (50, 1)][·]?) (ansC k th (Lib.byteCells zB) nilS).toArray 2 2 BL (by rw [hl]; rfl) (by rw [hl, List.size_toArray, ansC_length (by simp [Lib.byteCells, zB])]; decide)
  rw [h2, hl]
  rfl

set_option maxHeartbeats 4000000 in
set_option maxRecDepth 100000 in
theorem read_gen (s mb : Nat) (o : Op15) (ho : OpOk o) (OL : List Value) (hOL : OL = opC o) (w : World) (F : Nat → Prop) (M : List Vm) (h : MdQ w F s mb M) (ch : Bool) (hch : changesB o.kind = ch) (X : Ix) (k : Int) (hX : ofF M o.name o.num ch = (X, k)) (bl : List UInt8) (hbl : bl.length = 48) (th : Bool) (hlk : ∀ w', MdQ w' F s mb M → (Instr.lookup 112 (.map X.mo) (.int .i64 o.num) true).run Try.prog w' = .ok (.tuple #[.agg (Lib.byteCells bl).toArray, .bool th]) w') :
    Calls Try.prog 53 #[.pointer (some ⟨s, 0, none⟩), .agg OL.toArray] w fun e w' => e = .returned (.agg (ansC k th (Lib.byteCells bl) nilS).toArray) ∧ Below w.heap.size w w' := by
  have Hlk := Lib.hid hlk
  clear hlk
  obtain ⟨hk0, hk1, _, hk3, _⟩ := opC_at hOL
  obtain ⟨W1, hW1⟩ : ∃ z, z = w.alloc (.cells OL.toArray 44) := ⟨_, rfl⟩
  have hb1 : Below w.heap.size w W1 := by rw [hW1]; exact (Below.refl _ _).alloc (Nat.le_refl _) _
  have hA1 : Arr W1 w.heap.size 44 OL := by rw [hW1]; exact Arr.new w _ _
  have hs1 : W1.heap.size = w.heap.size + 1 := by rw [hW1]; simp
  obtain ⟨W0, hW0⟩ : ∃ z, z = W1.alloc (.cells ansZ.toArray 47) := ⟨_, rfl⟩
  have hAn : Arr W0 (w.heap.size + 1) 47 ansZ := by rw [hW0, ← hs1]; exact Arr.new W1 _ _
  have hb0 : Below W1.heap.size W1 W0 := by rw [hW0]; exact (Below.refl _ _).alloc (Nat.le_refl _) _
  have HWx : Hid (W0 = (w.alloc (.cells OL.toArray 44)).alloc (.cells ansZ.toArray 47)) := Lib.hid (by rw [hW0, hW1])
  replace hA1 := hA1.up hb0
  replace hb1 := hb1.trans (hb0.mono hb1.size)
  clear hW0 hb0
  obtain ⟨VL, hVL⟩ : ∃ VL : List Value, VL = [.int .i64 X.q, .bool X.fr, .map X.mo] := ⟨_, rfl⟩
  have Hof := Lib.hid ((of_any s mb o ho OL hOL W0 F M (h.below hb1) ch hch X k hX).mono (R' := fun e w' => e = .returned (.tuple #[.agg VL.toArray, .int .i64 k]) ∧ Below W0.heap.size W0 w') (by rintro e w' ⟨rfl, h⟩; exact ⟨by rw [hVL]; rfl, h⟩))
  obtain ⟨g, hg⟩ : ∃ z, z = w.heap.size := ⟨_, rfl⟩
  rw [← hg] at hA1 hAn
  have hgl : w.heap.size ≤ g := by rw [hg]; exact Nat.le_refl _
  have HOi := Lib.hid (show (Try.prog.info? 44).map (·.size) = some OL.toArray.size by rw [List.size_toArray, hOL, opC_length ho.b48]; exact opSize)
  have HVi := Lib.hid (show (Try.prog.info? 114).map (·.size) = some VL.toArray.size ∧ (#[.int .i64 0, .bool false, .map none] : Array Value).size = VL.toArray.size from ⟨by rw [hVL]; exact imgSize, by rw [hVL]; rfl⟩)
  have HV1 := Lib.hid (show VL.toArray.all (·.oneCell') = true by rw [hVL]; simp [Value.oneCell'])
  have HV0 := Lib.hid (show VL[0]? = some (.int .i64 X.q) by rw [hVL]; rfl)
  have HV2 := Lib.hid (show VL[2]? = some (.map X.mo) by rw [hVL]; rfl)
  have HA1 := Lib.hid hA1
  have HAn := Lib.hid hAn
  have Hb1 := Lib.hid hb1
  have Hg := Lib.hid hg
  have HQ := Lib.hid h
  have Hk3 := Lib.hid hk3
  have Hnum := Lib.hid ho.i1
  have HB48 := Lib.hid ho.b48
  have HOL := Lib.hid hOL
  
  have hslt := h.Flt s h.Fs
  clear hVL hW1 hk0 hk1 hk3 hg hOL hb1 hch h hs1 hAn
  go_enter Try.func53, Try.ntmps53
  go_upto_region 1 with fail
  change Code.wp _ _ _ _ ((w.alloc (.cells OL.toArray 44)).alloc (.cells ansZ.toArray 47))
  rw [← HWx.out, ← Hg.out]
  go_wp2_with (first | (refine wpList_load_row rfl _ _ rfl g rfl 44 OL.toArray (0, 0) _ hA1 Try.underlying44 rfl HOi.out ?_))
  refine Calls.mono Hof.out ?_
  rintro e w2 ⟨rfl, hb2⟩
  have HA2 := Lib.hid (HA1.out.up hb2)
  have Hb2 := Lib.hid (Hb1.out.trans (hb2.mono Hb1.out.size))
  have HAn2 := Lib.hid (HAn.out.up hb2)
  obtain ⟨gv, hgv⟩ : ∃ z, z = w2.heap.size := ⟨_, rfl⟩
  have Hgv := Lib.hid hgv
  clear hb2 hA1 Hof HA1 Hb1 hgv HAn
  go_upto_region 2 with (change wpList _ _ _ _ _ (w2.alloc (.cells (#[.int .i64 0, .bool false, .map none] : Array Value) 114)); refine wpList_store_row rfl _ _ _ rfl w2.heap.size VL.toArray rfl rfl 114 (#[.int .i64 0, .bool false, .map none] : Array Value) (heap_alloc_new w2 _) HVi.out.1 HVi.out.2 HV1.out ?_; obtain ⟨w3, hw3⟩ : ∃ x, x = (w2.alloc (.cells (#[.int .i64 0, .bool false, .map none] : Array Value) 114)).setRow w2.heap.size VL.toArray := ⟨_, rfl⟩; rw [← hw3]; obtain ⟨hP3, hb3⟩ := alloc_row w2 114 (#[.int .i64 0, .bool false, .map none] : Array Value) VL; rw [← hw3] at hP3 hb3; clear hw3)
  rw [← Hgv.out] at hP3 ⊢
  have HA3 := Lib.hid (HA2.out.up hb3)
  have Hb3 := Lib.hid (Hb2.out.trans (hb3.mono Hb2.out.size))
  have HP3 := Lib.hid hP3
  have HAn3 := Lib.hid (HAn2.out.up hb3)
  have hgv3 : w.heap.size ≤ gv := by rw [Hgv.out]; exact Hb2.out.size
  clear hb3 HA2 Hb2 Hgv hP3 HAn2
  have hv2 : w3.cell? ⟨gv, 2, none⟩ = some (.map X.mo) := by rw [HP3.out.cell]; exact HV2.out
  have hn3 : w3.cell? ⟨g, 3, none⟩ = some (.int .i64 o.num) := by rw [HA3.out.cell]; exact Hk3.out
  have hlook := Hlk.out w3 (HQ.out.below Hb3.out)
  obtain ⟨BL, hBL⟩ : ∃ z, z = Lib.byteCells bl := ⟨_, rfl⟩
  obtain ⟨ZB, hZB⟩ : ∃ z, z = Lib.byteCells zB := ⟨_, rfl⟩
  obtain ⟨AL, hAL⟩ : ∃ z, z = ansC k th BL nilS := ⟨_, rfl⟩
  obtain ⟨AZ, hAZ⟩ : ∃ z, z = ansZ := ⟨_, rfl⟩
  obtain ⟨n, hn⟩ : ∃ z, z = o.num := ⟨_, rfl⟩
  obtain ⟨mo, hmo⟩ : ∃ z, z = X.mo := ⟨_, rfl⟩
  rw [← hBL, ← hn, ← hmo] at hlook
  rw [← hn] at hn3
  rw [← hmo] at hv2
  have HBl := Lib.hid (show BL.length = 48 by rw [hBL, Lib.byteCells_length]; exact hbl)
  have HBi := Lib.hid (show (Try.prog.info? 42).map (·.size) = some BL.toArray.size ∧ ZB.toArray.size = BL.toArray.size by rw [List.size_toArray, List.size_toArray, HBl.out, hZB, Lib.byteCells_length]; exact ⟨blkSize, rfl⟩)
  have HB1 := Lib.hid (show BL.toArray.all (·.oneCell') = true by rw [hBL]; exact dig_one _)
  have HZB := Lib.hid (fun w : World => show (zeroValue 42).run Try.prog w = .ok (.agg ZB.toArray) w by rw [hZB]; exact zeroBlk w)
  have HBt := Lib.hid (show Try.prog.built 47 [(0, .int .i64 k), (1, .bool th), (2, .agg BL.toArray)] = some AL.toArray by rw [hAL]; exact ans_b012 k th BL HBl.out)
  have HALi := Lib.hid (show (Try.prog.info? 47).map (·.size) = some AL.toArray.size ∧ AZ.toArray.size = AL.toArray.size by rw [List.size_toArray, List.size_toArray, hAL, ansC_length HBl.out, hAZ]; exact ⟨ansSize, rfl⟩)
  have HAL1 := Lib.hid (show AL.toArray.all (·.oneCell') = true by rw [hAL, hBL]; exact ansC_one rfl)
  have HALe := Lib.hid (show AL = ansC k th (Lib.byteCells bl) nilS by rw [hAL, hBL])
  have hAn3 := HAn3.out
  rw [← hAZ] at hAn3
  have HAn3' := Lib.hid hAn3
  obtain ⟨gb, hgb⟩ : ∃ z, z = w3.heap.size := ⟨_, rfl⟩
  have Hgb := Lib.hid hgb
  have hga3 : w.heap.size ≤ g + 1 := by omega
  clear hBL hZB hAL hAZ hn hmo hAn3 HAn3 hgb
  go_upto_region 3 with (first | (refine wpList_allocZC rfl 42 rfl ZB.toArray (HZB.out _) ?_) | (change wpList _ _ _ _ _ (w3.alloc (.cells ZB.toArray 42)); refine wpList_store_row rfl _ _ _ rfl w3.heap.size BL.toArray rfl rfl 42 ZB.toArray (heap_alloc_new w3 _) HBi.out.1 HBi.out.2 HB1.out ?_; obtain ⟨w4, hw4⟩ : ∃ x, x = (w3.alloc (.cells ZB.toArray 42)).setRow w3.heap.size BL.toArray := ⟨_, rfl⟩; rw [← hw4]; obtain ⟨hP4, hb4⟩ := alloc_row w3 42 ZB.toArray BL; rw [← hw4] at hP4 hb4; clear hw4))
  rw [← Hgb.out] at hP4 ⊢
  have HAn4 := Lib.hid (HAn3'.out.up hb4)
  have Hb4 := Lib.hid (Hb3.out.trans (hb4.mono Hb3.out.size))
  have Hset := Lib.hid (HAn4.out.setRow AL)
  have Hbe := Lib.hid (show Below w.heap.size w (w4.setRow (g + 1) AL.toArray) from Hb4.out.trans (((Only.refl (fun k => k = g + 1) w4).setRow (.inl rfl) AL.toArray).below Hb4.out.size (by rintro k rfl; omega)))
  clear hb4 hlook hv2 hn3
  go_wp2_with (first
    | (refine wpList_load_row rfl _ _ rfl gb rfl 42 BL.toArray (0, 0) _ hP4 Try.underlying42 rfl HBi.out.1 ?_)
    | (refine wpList_builtV rfl _ _ rfl _ rfl AL.toArray HBt.out ?_)
    | (refine wpList_store_row rfl _ _ _ rfl (g + 1) AL.toArray rfl rfl 47 AZ.toArray HAn4.out HALi.out.1 HALi.out.2 HAL1.out ?_))
  (try simp only [Exit.inBlock, Exit.then])
  exact bodyPost_ret (v := .agg AL.toArray) (results_cell_row (by rfl) _ _ (g + 1) 47 AL.toArray (0, 0) _ (by rfl) Hset.out Try.underlying47 rfl HALi.out.1) rfl ⟨by rw [HALe.out], Hbe.out⟩

theorem read_any (s : Nat) (o : Op15) (ho : OpOk o) (OL : List Value) (hOL : OL = opC o) (w : World) (F : Nat → Prop) (L : List Vol) (h : MdL w F s L) (hch : changesB o.kind = false) :
    Calls Try.prog 53 #[.pointer (some ⟨s, 0, none⟩), .agg OL.toArray] w fun e w' => e = .returned (.agg (ansV (readL L o.name o.num) nilS).toArray) ∧ MdL w' (newF F w w') s L ∧ Only F w w' := by
  have Hh := h
  obtain ⟨M, mb, hQ, rfl⟩ := h
  obtain ⟨X, k1, hX⟩ : ∃ X k1, ofF M o.name o.num false = (X, k1) := ⟨_, _, rfl⟩
  unfold readL
  rw [of_e, hX]
  dsimp only
  by_cases hk1 : k1 = 0
  · subst hk1
    rw [if_neg (by simp)]
    obtain ⟨m, hf, hnb, hfz, hXm⟩ := ofF_good hX
    rw [vs_find, hf]
    dsimp only [Option.map_some]
    have hm := (findM_mem hf).1
    refine (read_gen s mb o ho OL hOL w F M hQ false hch X 0 hX (atB m.v.cells o.num) (atB_length (hQ.vm m hm).ok _) (hasC m.v.cells o.num) (fun w' hw => by rw [hXm]; exact (hw.vm m hm).look ho.i1.1 ho.i1.2)).mono ?_
    rintro e w' ⟨rfl, hb⟩
    exact ⟨rfl, Hh.same hb, Only.of_below hb⟩
  · rw [if_pos hk1]
    refine (read_gen s mb o ho OL hOL w F M hQ false hch X k1 hX zB rfl false (fun w' hw => by rw [ofF_bad hX hk1]; exact nil_look ho.i1.1 ho.i1.2)).mono ?_
    rintro e w' ⟨rfl, hb⟩
    exact ⟨rfl, Hh.same hb, Only.of_below hb⟩

end Go.Proofs.Ytcajhndhjlfmaaa

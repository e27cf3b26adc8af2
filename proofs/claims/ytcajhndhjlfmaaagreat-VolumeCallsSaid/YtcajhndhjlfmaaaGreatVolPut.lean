/-
  Put and Drop.
-/
import Derived.Test.YtcajhndhjlfmaaaGreatVolCopy
import Derived.Test.YtcajhndhjlfmaaaGreatVolRows
import Derived.Laws.ResultCell
namespace Go.Proofs.YtcajhndhjlfmaaaGreat
open Go.RowKit
set_option linter.unusedVariables false
set_option linter.unusedSimpArgs false

theorem results_cell3 {P : Program} {fn : Func} {p u v : Tmp} {ty : TypeId} (h : fn.results = #[.cell p ty, .tmp u, .tmp v]) (tmps : Array Value) (w : World) (g : Nat) (t : TypeId) (cs : Array Value) (fr : Nat × Nat) (d : TypeDesc)
    (hp : tmps.getD p undef = .pointer (some ⟨g, 0, none⟩)) (x y : Value) (hx : tmps.getD u undef = x) (hy : tmps.getD v undef = y) (hg : w.heap[g]? = some (.cells cs t fr))
    (hu : P.underlying ty = some d) (hd : (match d with | .struct _ | .array _ _ => true | _ => false) = true) (hi : (P.info? ty).map (·.size) = some cs.size) :
    (results fn tmps).run P w = .ok (.tuple #[.agg cs, x, y]) w := by
  have e : (results fn tmps).run P w = ((asAddr (tmps.getD p undef)).run P w).andThen fun a w₁ => ((loadVar ty a).run P w₁).andThen fun v' w₂ => .ok (.tuple #[v', tmps.getD u undef, tmps.getD v undef]) w₂ := by
    simp only [results, h]
    simp [Sem.run_bind, Result.andThen]
  rw [e, hp, hx, hy]
  simp only [asAddr, Sem.run_pure, Result.andThen_ok, run_loadVar_row w g t ty cs fr d hg hu hd hi]
theorem digBuilt : Tryz.prog.built 29 [] = some (Lib.byteCells zeros).toArray := by kernel_rfl
/-- What a call that has changed nothing leaves. -/
theorem SetL.end_ {w w0 w' : World} {F : Nat → Prop} {s : Nat} {L : List Vol} (h : SetL w F s L) (hb : Below w.heap.size w w0) (hO : Only (fun b => w.heap.size ≤ b) w0 w') : SetL w' (newF F w w') s L ∧ Only F w w' := by
  have hB : Below w.heap.size w w' := hb.trans (hO.below hb.size fun _ h => h)
  exact ⟨h.same hB, Only.of_below hB⟩
/-- .. one that has changed a volume's blocks. -/
theorem SetQ.end_ {w w1 w3 w' : World} {F : Nat → Prop} {s mb : Nat} {M : List Vm} {m : Vm} (h : SetQ w F s mb M) (hm : m ∈ M) (hb : Below w.heap.size w w1) {cs : List Cl} {n : Nat} (h2 : w3.ownsMap Tryz.prog 3 digR m.bb n (cellsD cs)) (hg : w1.grownBy w3 (some m.bb))
    (hok : VolOk { m.v with cells := cs }) (hO : Only (fun b => w.heap.size ≤ b ∧ b < w1.heap.size) w3 w') : SetL w' (newF F w w') s (setV (vs M) m.v.name cs) ∧ Only F w w' := by
  have hF1 : SetQ w1 F s mb M := h.kept (fun b hF => hb.block b (h.Flt b hF)) (fun _ h => h) fun b hF => Nat.lt_of_lt_of_le (h.Flt b hF) hb.size
  have hbb := (h.Fv m hm).2
  have hq := hF1.turn hm h2 hg hok
  have hz1 := hb.size
  have hz2 := hg.size
  have hz3 := hO.size
  have hfin : SetQ w' (newF F w w') s mb (setM M m.v.name cs) := by
    refine hq.kept (fun b hF => hO.block b (hq.Flt b hF) ?_) (fun b hF => ?_) (newF_lt h.Flt (by omega))
    · rintro ⟨h1, h2⟩
      rcases hF with hF | hF
      · have := h.Flt b hF; omega
      · omega
    · rcases hF with hF | hF
      · exact .inl hF
      · exact .inr ⟨by omega, by omega⟩
  refine ⟨⟨_, ⟨mb, hfin⟩, vs_set _ _ _⟩, ?_⟩
  have o1 : Only F w w1 := Only.of_below hb
  have o2 : Only F w w3 := o1.trans ⟨hg.os, hg.tape, hg.output, hg.size, fun i hi hn => hg.block i hi fun e => hn (by injection e with e; rw [e]; exact hbb)⟩
  exact o2.then hO fun i hi => .inr hi.1

set_option maxHeartbeats 4000000 in
set_option maxRecDepth 100000 in
theorem put_err (s : Nat) (nm : ByteArray) (hsz : nm.size ≤ maxLen) (n : Int) (w : World) (F : Nat → Prop) (M : List Vm) (h : SetW w F s M) (f : List UInt8) (hf32 : f.length = 32) (FL : List Value) (hFL : FL = Lib.byteCells f) (k : Int) (hk : changeF M nm n = (.pointer none, k)) (hk0 : k ≠ 0) :
    Calls Tryz.prog 19 #[.pointer (some ⟨s, 0, none⟩), .string nm, .int .i64 n, .agg FL.toArray] w fun e w' => e = .returned (.tuple #[.agg (Lib.byteCells zeros).toArray, .bool false, .int .i64 k]) ∧ SetL w' (newF F w w') s (vs M) ∧ Only F w w' := by
  obtain ⟨ZL, hZL⟩ : ∃ ZL, ZL = Lib.byteCells zeros := ⟨_, rfl⟩
  have HZi := Lib.hid (show (Tryz.prog.info? 29).map (·.size) = some ZL.toArray.size by rw [hZL]; simpa [Lib.byteCells, zeros] using digInfo)
  have HZ1 := Lib.hid (show ZL.toArray.all (·.oneCell') = true by rw [hZL]; exact dig_one _)
  have HZb := Lib.hid (show Tryz.prog.built 29 [] = some ZL.toArray by rw [hZL]; exact digBuilt)
  have HFi := Lib.hid (show (Tryz.prog.info? 29).map (·.size) = some FL.length by rw [hFL, Lib.byteCells_length, hf32]; exact digInfo)
  obtain ⟨w0, hw0⟩ : ∃ x, x = (w.alloc (.cells FL.toArray 29)).alloc (.cells (Lib.byteCells zeros).toArray 29) := ⟨_, rfl⟩
  have hb0 : Below w.heap.size w w0 := by rw [hw0]; exact ((Below.refl _ _).alloc (Nat.le_refl _) _).alloc (by simp) _
  have hz0 : w0.heap.size ≤ (w.heap.size + 1) + 1 ∧ (w.heap.size + 1) + 1 ≤ w0.heap.size := by rw [hw0]; simp
  have hR : Arr w0 (w.heap.size + 1) 29 ZL := by
    rw [hw0, hZL]
    simpa using Arr.new (w.alloc (.cells FL.toArray 29)) 29 (Lib.byteCells zeros)
  have hF7 : Arr w0 w.heap.size 29 FL := by
    rw [hw0]
    exact (Arr.new w 29 FL).alloc _
  have h0 : SetW w0 F s M := h.below hb0
  have Hp : Hid (SetL w F s (vs M)) := ⟨M, h, rfl⟩
  have HW0 := Lib.hid hw0
  have Hb0 := Lib.hid hb0
  have HZL := Lib.hid hZL
  have hd : (k != 0) = true := by simpa using hk0
  have hd1 : (k == 0) = false := by simpa using hk0
  have hd2 : decide (k = 0) = false := by simpa using hk0
  have Hk0 := Lib.hid hk0
  clear hw0 hb0 hZL h hk0 hFL hf32
  go_enter Tryz.func19, Tryz.ntmps19
  go_upto_region 1 with fail
  change Code.wp _ _ _ _ ((w.alloc (.cells FL.toArray 29)).alloc (.cells (Lib.byteCells zeros).toArray 29))
  rw [← HW0.out]
  clear HW0
  go_wp2_with fail
  refine Calls.mono (toChange_any s nm hsz n w0 F M (h0) _ _ hk) ?_
  rintro e w' ⟨rfl, rfl⟩
  clear h0 hk
  go_wp2_with (first | (refine wpList_builtV rfl _ _ rfl [] rfl ZL.toArray HZb.out ?_) | (refine wpList_store_row rfl _ _ _ rfl (w.heap.size + 1) ZL.toArray rfl rfl 29 ZL.toArray hR HZi.out rfl HZ1.out ?_))
  have hset := hR.setRow ZL
  have HE := Lib.hid (Hp.out.end_ Hb0.out ((Only.refl (fun b => w.heap.size ≤ b) w0).setRow (g := (w.heap.size + 1)) (.inl (by omega)) ZL.toArray))
  (try simp only [Exit.inBlock, Exit.then])
  obtain ⟨V, hV⟩ : ∃ V, V = Value.tuple #[.agg ZL.toArray, .bool false, .int .i64 k] := ⟨_, rfl⟩
  refine bodyPost_ret (v := V) ?hx1 ?h2 ?h3
  case hx1 => rw [hV]; exact results_cell3 (fn := Tryz.f19) (by rfl) _ _ (w.heap.size + 1) 29 ZL.toArray (0, 0) _ (by rfl) _ _ (by rfl) (by rfl) hset Tryz.underlying29 rfl HZi.out
  case h2 => rfl
  case h3 => exact ⟨by rw [hV, HZL.out], by first | exact HE.out | (rw [HZL.out] at HE; exact HE.out)⟩

set_option maxHeartbeats 4000000 in
set_option maxRecDepth 100000 in
theorem put_full (s : Nat) (nm : ByteArray) (hsz : nm.size ≤ maxLen) (n : Int) (w : World) (F : Nat → Prop) (mb : Nat) (M : List Vm) (h : SetQ w F s mb M) (f : List UInt8) (hf32 : f.length = 32) (FL : List Value) (hFL : FL = Lib.byteCells f) (m : Vm) (hfd : findM M nm = some m) (hn : numB n = true) (hfr : m.v.frozen = false) (hhas : hasC m.v.cells n = false) (hq : m.v.quota ≤ m.v.cells.length) :
    Calls Tryz.prog 19 #[.pointer (some ⟨s, 0, none⟩), .string nm, .int .i64 n, .agg FL.toArray] w fun e w' => e = .returned (.tuple #[.agg (Lib.byteCells zeros).toArray, .bool false, .int .i64 8]) ∧ SetL w' (newF F w w') s (vs M) ∧ Only F w w' := by
  obtain ⟨ZL, hZL⟩ : ∃ ZL, ZL = Lib.byteCells zeros := ⟨_, rfl⟩
  have HZi := Lib.hid (show (Tryz.prog.info? 29).map (·.size) = some ZL.toArray.size by rw [hZL]; simpa [Lib.byteCells, zeros] using digInfo)
  have HZ1 := Lib.hid (show ZL.toArray.all (·.oneCell') = true by rw [hZL]; exact dig_one _)
  have HZb := Lib.hid (show Tryz.prog.built 29 [] = some ZL.toArray by rw [hZL]; exact digBuilt)
  have HFi := Lib.hid (show (Tryz.prog.info? 29).map (·.size) = some FL.length by rw [hFL, Lib.byteCells_length, hf32]; exact digInfo)
  obtain ⟨w0, hw0⟩ : ∃ x, x = (w.alloc (.cells FL.toArray 29)).alloc (.cells (Lib.byteCells zeros).toArray 29) := ⟨_, rfl⟩
  have hb0 : Below w.heap.size w w0 := by rw [hw0]; exact ((Below.refl _ _).alloc (Nat.le_refl _) _).alloc (by simp) _
  have hz0 : w0.heap.size ≤ (w.heap.size + 1) + 1 ∧ (w.heap.size + 1) + 1 ≤ w0.heap.size := by rw [hw0]; simp
  have hR : Arr w0 (w.heap.size + 1) 29 ZL := by
    rw [hw0, hZL]
    simpa using Arr.new (w.alloc (.cells FL.toArray 29)) 29 (Lib.byteCells zeros)
  have hF7 : Arr w0 w.heap.size 29 FL := by
    rw [hw0]
    exact (Arr.new w 29 FL).alloc _
  have hnb := numB_yes hn
  have h1 : -9223372036854775808 ≤ n := by omega
  have h2 : n ≤ 9223372036854775807 := by omega
  have hmm := (findM_mem hfd).1
  have hnmq : m.v.name = nm := (findM_mem hfd).2
  have hk : changeF M nm n = (.pointer (some ⟨m.vb, 0, none⟩), 0) := by unfold changeF; rw [hfd]; simp [hn, hfr]
  have hQ0 : SetQ w0 F s mb M := h.kept (fun b hF => hb0.block b (h.Flt b hF)) (fun _ h => h) fun b hF => Nat.lt_of_lt_of_le (h.Flt b hF) hb0.size
  have h0 : SetW w0 F s M := ⟨mb, hQ0⟩
  have hvm := hQ0.vm m hmm
  have hc2 := hvm.hv.cell 2
  have hc0 := hvm.hv.cell 0
  simp only [List.getElem?_cons_succ, List.getElem?_cons_zero] at hc2 hc0
  have hlook := hvm.look h1 h2
  obtain ⟨OL, hOL⟩ : ∃ OL, OL = Lib.byteCells (atC m.v.cells n) := ⟨_, rfl⟩
  rw [← hOL] at hlook
  have hO32 : OL.length = 32 := by rw [hOL, Lib.byteCells_length]; exact atC_length hvm.ok n
  have HOi := Lib.hid (show (Tryz.prog.info? 29).map (·.size) = some OL.toArray.size by rw [List.size_toArray, hO32]; exact digInfo)
  have HO1 := Lib.hid (show OL.toArray.all (·.oneCell') = true by rw [hOL]; exact dig_one _)
  have HOz := Lib.hid (show (Lib.byteCells zeros).toArray.size = OL.toArray.size by rw [List.size_toArray, List.size_toArray, hO32]; rfl)
  have HOz2 := Lib.hid (show ZL.toArray.size = OL.toArray.size by rw [hZL, List.size_toArray, List.size_toArray, hO32]; rfl)
  obtain ⟨w1, hw1⟩ : ∃ x, x = (w0.alloc (.cells (Lib.byteCells zeros).toArray 29)).setRow w0.heap.size OL.toArray := ⟨_, rfl⟩
  obtain ⟨hP, hb1⟩ := alloc_row w0 29 (Lib.byteCells zeros).toArray OL
  rw [← hw1] at hP hb1
  have hR1 := hR.up hb1
  have hbw : Below w.heap.size w w1 := hb0.trans (hb1.mono hb0.size)
  have hvm1 : VmOk w1 m := hvm.kept (hb1.block _ hvm.hv.lt) (hb1.block _ (World.ownsMap.lt hvm.hc))
  have hd2v := hvm1.hv.cell 2
  have hd0v := hvm1.hv.cell 0
  simp only [List.getElem?_cons_succ, List.getElem?_cons_zero] at hd2v hd0v
  rw [hhas] at hlook
  have hlen := hvm1.len 3
  have hlen' : ∀ k : Nat, (Builtin.len_ #[66] 3 #[.map (some m.bb)]).run Tryz.prog (w1.drewN k) = .ok (.int .i64 (m.v.cells.length : Nat)) (w1.drewN k) := fun k => (show VmOk (w1.drewN k) m from hvm1.kept rfl rfl).len 3
  obtain ⟨c, hce⟩ : ∃ c, m.v.cells.length = c := ⟨_, rfl⟩
  obtain ⟨q, hqe⟩ : ∃ c, m.v.quota = c := ⟨_, rfl⟩
  rw [hce] at hlen hlen' hq
  rw [hqe] at hq hd0v hc0
  have hd : decide ((c : Int) ≥ (q : Int)) = true := by simp; omega
  have hdn : decide (q ≤ c) = true := by simpa using hq
  have Hp : Hid (SetL w F s (vs M)) := ⟨M, ⟨mb, h⟩, rfl⟩
  have HW0 := Lib.hid hw0
  have Hbw := Lib.hid hbw
  have Hw1 := Lib.hid hw1
  have HZL := Lib.hid hZL
  have hg1 : (w.heap.size + 1) < w1.heap.size := by have := hb1.size; omega
  clear hw0 hw1 hb0 hbw hb1 hZL h hfd hn hfr hhas hce hqe hQ0 hvm hvm1 hOL hP hR hnmq hmm hO32 hFL hf32
  go_enter Tryz.func19, Tryz.ntmps19
  go_upto_region 1 with fail
  change Code.wp _ _ _ _ ((w.alloc (.cells FL.toArray 29)).alloc (.cells (Lib.byteCells zeros).toArray 29))
  rw [← HW0.out]
  clear HW0
  go_wp2_with fail
  refine Calls.mono (toChange_any s nm hsz n w0 F M (h0) _ _ hk) ?_
  rintro e w' ⟨rfl, rfl⟩
  clear h0 hk
  go_upto_region 5 with (change wpList _ _ _ _ _ (w0.alloc (.cells (Lib.byteCells zeros).toArray 29)); refine wpList_store_row rfl _ _ _ rfl w0.heap.size OL.toArray rfl rfl 29 (Lib.byteCells zeros).toArray (heap_alloc_new w0 _) HOi.out HOz.out HO1.out ?_; rw [← Hw1.out])
  clear hlook hc2 hc0
  go_quiet (fail)
  go_wp2_with (first | (refine wpList_builtV rfl _ _ rfl [] rfl ZL.toArray HZb.out ?_) | (refine wpList_store_row rfl _ _ _ rfl (w.heap.size + 1) ZL.toArray rfl rfl 29 ZL.toArray hR1 HZi.out rfl HZ1.out ?_))
  have hset := hR1.setRow ZL
  (try simp only [Exit.inBlock, Exit.then])
  obtain ⟨V, hV⟩ : ∃ V, V = Value.tuple #[.agg ZL.toArray, .bool false, .int .i64 8] := ⟨_, rfl⟩
  refine bodyPost_ret (v := V) ?hx1 ?h2 ?h3
  case hx1 => rw [hV]; exact results_cell3 (fn := Tryz.f19) (by rfl) _ _ (w.heap.size + 1) 29 ZL.toArray (0, 0) _ (by rfl) _ _ (by rfl) (by rfl) hset Tryz.underlying29 rfl HZi.out
  case h2 => rfl
  case h3 => exact ⟨by rw [hV, HZL.out], Hp.out.end_ Hbw.out (((Only.refl (fun b => w.heap.size ≤ b) w1).drewN _).setRow (g := (w.heap.size + 1)) (.inl (by omega)) ZL.toArray)⟩

set_option maxHeartbeats 4000000 in
set_option maxRecDepth 100000 in
theorem put_good (s : Nat) (nm : ByteArray) (hsz : nm.size ≤ maxLen) (n : Int) (w : World) (F : Nat → Prop) (mb : Nat) (M : List Vm) (h : SetQ w F s mb M) (f : List UInt8) (hf32 : f.length = 32) (FL : List Value) (hFL : FL = Lib.byteCells f) (m : Vm) (hfd : findM M nm = some m) (hn : numB n = true) (hfr : m.v.frozen = false) (b : Bool) (hhas : hasC m.v.cells n = b) (hq : b = true ∨ m.v.cells.length < m.v.quota) :
    Calls Tryz.prog 19 #[.pointer (some ⟨s, 0, none⟩), .string nm, .int .i64 n, .agg FL.toArray] w fun e w' => e = .returned (.tuple #[.agg (Lib.byteCells (atC m.v.cells n)).toArray, .bool b, .int .i64 0]) ∧ SetL w' (newF F w w') s (setV (vs M) nm (putC m.v.cells n.toNat f)) ∧ Only F w w' := by
  obtain ⟨ZL, hZL⟩ : ∃ ZL, ZL = Lib.byteCells zeros := ⟨_, rfl⟩
  have HZi := Lib.hid (show (Tryz.prog.info? 29).map (·.size) = some ZL.toArray.size by rw [hZL]; simpa [Lib.byteCells, zeros] using digInfo)
  have HZ1 := Lib.hid (show ZL.toArray.all (·.oneCell') = true by rw [hZL]; exact dig_one _)
  have HZb := Lib.hid (show Tryz.prog.built 29 [] = some ZL.toArray by rw [hZL]; exact digBuilt)
  have HFi := Lib.hid (show (Tryz.prog.info? 29).map (·.size) = some FL.length by rw [hFL, Lib.byteCells_length, hf32]; exact digInfo)
  obtain ⟨w0, hw0⟩ : ∃ x, x = (w.alloc (.cells FL.toArray 29)).alloc (.cells (Lib.byteCells zeros).toArray 29) := ⟨_, rfl⟩
  have hb0 : Below w.heap.size w w0 := by rw [hw0]; exact ((Below.refl _ _).alloc (Nat.le_refl _) _).alloc (by simp) _
  have hz0 : w0.heap.size ≤ (w.heap.size + 1) + 1 ∧ (w.heap.size + 1) + 1 ≤ w0.heap.size := by rw [hw0]; simp
  have hR : Arr w0 (w.heap.size + 1) 29 ZL := by
    rw [hw0, hZL]
    simpa using Arr.new (w.alloc (.cells FL.toArray 29)) 29 (Lib.byteCells zeros)
  have hF7 : Arr w0 w.heap.size 29 FL := by
    rw [hw0]
    exact (Arr.new w 29 FL).alloc _
  have hnb := numB_yes hn
  have h1 : -9223372036854775808 ≤ n := by omega
  have h2 : n ≤ 9223372036854775807 := by omega
  have hmm := (findM_mem hfd).1
  have hnmq : m.v.name = nm := (findM_mem hfd).2
  have hk : changeF M nm n = (.pointer (some ⟨m.vb, 0, none⟩), 0) := by unfold changeF; rw [hfd]; simp [hn, hfr]
  have hQ0 : SetQ w0 F s mb M := h.kept (fun b hF => hb0.block b (h.Flt b hF)) (fun _ h => h) fun b hF => Nat.lt_of_lt_of_le (h.Flt b hF) hb0.size
  have h0 : SetW w0 F s M := ⟨mb, hQ0⟩
  have hvm := hQ0.vm m hmm
  have hc2 := hvm.hv.cell 2
  have hc0 := hvm.hv.cell 0
  simp only [List.getElem?_cons_succ, List.getElem?_cons_zero] at hc2 hc0
  have hlook := hvm.look h1 h2
  obtain ⟨OL, hOL⟩ : ∃ OL, OL = Lib.byteCells (atC m.v.cells n) := ⟨_, rfl⟩
  rw [← hOL] at hlook
  have hO32 : OL.length = 32 := by rw [hOL, Lib.byteCells_length]; exact atC_length hvm.ok n
  have HOi := Lib.hid (show (Tryz.prog.info? 29).map (·.size) = some OL.toArray.size by rw [List.size_toArray, hO32]; exact digInfo)
  have HO1 := Lib.hid (show OL.toArray.all (·.oneCell') = true by rw [hOL]; exact dig_one _)
  have HOz := Lib.hid (show (Lib.byteCells zeros).toArray.size = OL.toArray.size by rw [List.size_toArray, List.size_toArray, hO32]; rfl)
  have HOz2 := Lib.hid (show ZL.toArray.size = OL.toArray.size by rw [hZL, List.size_toArray, List.size_toArray, hO32]; rfl)
  obtain ⟨w1, hw1⟩ : ∃ x, x = (w0.alloc (.cells (Lib.byteCells zeros).toArray 29)).setRow w0.heap.size OL.toArray := ⟨_, rfl⟩
  obtain ⟨hP, hb1⟩ := alloc_row w0 29 (Lib.byteCells zeros).toArray OL
  rw [← hw1] at hP hb1
  have hR1 := hR.up hb1
  have hbw : Below w.heap.size w w1 := hb0.trans (hb1.mono hb0.size)
  have hvm1 : VmOk w1 m := hvm.kept (hb1.block _ hvm.hv.lt) (hb1.block _ (World.ownsMap.lt hvm.hc))
  have hd2v := hvm1.hv.cell 2
  have hd0v := hvm1.hv.cell 0
  simp only [List.getElem?_cons_succ, List.getElem?_cons_zero] at hd2v hd0v
  rw [hhas] at hlook
  obtain ⟨nn, rfl⟩ := Int.eq_ofNat_of_zero_le hnb.1
  rw [Int.toNat_natCast]
  have hok : VolOk { m.v with cells := putC m.v.cells nn f } := by
    refine ⟨hvm.ok.q, ?_, putC_rise hvm.ok.rs _ _, fun c hc => ?_, hvm.ok.nm⟩
    · show (putC m.v.cells nn f).length ≤ m.v.quota
      rw [putC_length hvm.ok.rs, hhas]
      have := hvm.ok.le
      rcases hq with rfl | hq
      · simpa using this
      · split <;> omega
    · rcases putC_mem.1 hc with rfl | hc
      · exact ⟨by omega, hf32⟩
      · exact hvm.ok.c c hc.1
  have hroom : m.v.cells.length < maxLen := by have := hvm.ok.le; have := hvm.ok.q; unfold maxLen; omega
  have hown1 := hvm1.hc
  have Hkey := Lib.hid (keyOf_num h1 h2)
  have Hend := Lib.hid (fun (w2 w3 w' : World) (N : Nat) hb h2 hg hO => SetQ.end_ (w1 := w2) (w3 := w3) (w' := w') (n := N) (cs := putC m.v.cells nn f) h hmm hb h2 hg hok hO)
  rw [hnmq] at Hend
  have HW0 := Lib.hid hw0
  have Hbw := Lib.hid hbw
  have Hw1 := Lib.hid hw1
  have HZL := Lib.hid hZL
  have HOL := Lib.hid hOL
  have hg1 : (w.heap.size + 1) < w1.heap.size := by have := hb1.size; omega
  have hne : (w.heap.size + 1) ≠ m.bb := by have := h.Flt _ (h.Fv m hmm).2; omega
  have hne2 : w0.heap.size ≠ m.bb := by have := h.Flt _ (h.Fv m hmm).2; have := hb0.size; omega
  have hF71 := hF7.up hb1
  have hne3 : m.vb ≠ m.bb := fun e => by
    obtain ⟨es, clock, hb, _⟩ := hvm1.hc
    have hx := hvm1.hv
    rw [e] at hx
    have := hx.symm.trans hb
    cases this
  have hne4 : w.heap.size ≠ m.bb := by have := h.Flt _ (h.Fv m hmm).2; omega
  have hv1 := hvm1.hv
  have Hrd := Lib.hid (show digR (.agg FL.toArray) = some (.lit (.string f), []) by rw [hFL]; exact digR_mk hf32)
  have Hlt : m.vb < w1.heap.size := hvm1.hv.lt
  have Hlt2 : w.heap.size < w1.heap.size := hF71.lt
  have hlen' : ∀ k : Nat, (Builtin.len_ #[66] 3 #[.map (some m.bb)]).run Tryz.prog (w1.drewN k) = .ok (.int .i64 (m.v.cells.length : Nat)) (w1.drewN k) := fun k => (show VmOk (w1.drewN k) m from hvm1.kept rfl rfl).len 3
  have hlen := hvm1.len 3
  obtain ⟨c, hce⟩ : ∃ c, m.v.cells.length = c := ⟨_, rfl⟩
  obtain ⟨q, hqe⟩ : ∃ c, m.v.quota = c := ⟨_, rfl⟩
  rw [hce] at hlen hlen' hq hown1 hroom
  rw [hqe] at hq hd0v hc0 hv1
  clear hw0 hw1 hb0 hbw hb1 hZL h hfd hn hfr hhas hce hqe hF7 hQ0 hvm hvm1 hOL hR hnmq hmm hO32 hok hFL hf32
  go_enter Tryz.func19, Tryz.ntmps19
  go_upto_region 1 with fail
  change Code.wp _ _ _ _ ((w.alloc (.cells FL.toArray 29)).alloc (.cells (Lib.byteCells zeros).toArray 29))
  rw [← HW0.out]
  clear HW0
  go_wp2_with fail
  refine Calls.mono (toChange_any s nm hsz (nn : Nat) w0 F M (h0) _ _ hk) ?_
  rintro e w' ⟨rfl, rfl⟩
  clear h0 hk
  go_upto_region 5 with (change wpList _ _ _ _ _ (w0.alloc (.cells (Lib.byteCells zeros).toArray 29)); refine wpList_store_row rfl _ _ _ rfl w0.heap.size OL.toArray rfl rfl 29 (Lib.byteCells zeros).toArray (heap_alloc_new w0 _) HOi.out HOz.out HO1.out ?_; rw [← Hw1.out])
  cases b with
  | true =>
    clear hlook hc2 hc0
    go_quiet (fail)
    go_upto_region 7 with fail
    refine wp_region_held_drew (S := fun w' => Arr w' m.vb 68 [.int .i64 (q : Nat), .bool m.v.frozen, .map (some m.bb)] ∧ Arr w' w.heap.size 29 FL) (by kernel_rfl) ⟨hv1, hF71⟩ (fun hHeld => ?_)
    refine anyH_take (i := 0) (v := .pointer (some ⟨m.vb, 0, none⟩)) (some 50) rfl rfl (by kernel_rfl) (by kernel_rfl) (by kernel_rfl) (fun _ _ _ h => h) (Or.inl ⟨by rfl, fun w' hw => by rfl⟩) (by assumption) ?_
    simp only [Act.put, List.setIfInBounds_toArray, List.set_cons_zero, List.set_cons_succ]
    refine anyH_take (i := 1) (v := .pointer (some ⟨m.vb, 0, none⟩)) (some 51) rfl rfl (by kernel_rfl) (by kernel_rfl) (by kernel_rfl) (fun _ _ _ h => h) (Or.inl ⟨by rfl, fun w' hw => by (go_simp)⟩) (by assumption) ?_
    simp only [Act.put, List.setIfInBounds_toArray, List.set_cons_zero, List.set_cons_succ]
    refine anyH_take (i := 2) (v := .pointer (some ⟨m.vb, 2, none⟩)) (some 52) rfl rfl (by kernel_rfl) (by kernel_rfl) (by kernel_rfl) (fun _ _ _ h => h) (Or.inl ⟨by rfl, fun w' hw => by (go_simp)⟩) (by assumption) ?_
    simp only [Act.put, List.setIfInBounds_toArray, List.set_cons_zero, List.set_cons_succ]
    refine anyH_take (i := 3) (v := .map (some m.bb)) (some 53) rfl rfl (by kernel_rfl) (by kernel_rfl) (by kernel_rfl) (fun _ _ _ h => h) (Or.inl ⟨by rfl, fun w' hw => by (have hcc := hw.1.cell 2; simp only [List.getElem?_cons_succ, List.getElem?_cons_zero] at hcc; go_simp)⟩) (by assumption) ?_
    simp only [Act.put, List.setIfInBounds_toArray, List.set_cons_zero, List.set_cons_succ]
    refine anyH_take (i := 4) (v := .int .i64 (nn : Nat)) (some 54) rfl rfl (by kernel_rfl) (by kernel_rfl) (by kernel_rfl) (fun _ _ _ h => h) (Or.inl ⟨by rfl, fun w' hw => by rfl⟩) (by assumption) ?_
    simp only [Act.put, List.setIfInBounds_toArray, List.set_cons_zero, List.set_cons_succ]
    refine anyH_take (i := 5) (some 55) rfl rfl (by kernel_rfl) (by kernel_rfl) (by kernel_rfl) (fun _ _ _ h => h) (yieldsIf_load_mid (by rfl) 29 (.tmp 7) rfl w.heap.size 0 rfl FL _ (fun w' h => (h.2).range) Tryz.underlying29 rfl HFi.out) (by assumption) ?_
    simp only [Act.put, List.setIfInBounds_toArray, List.set_cons_zero, List.set_cons_succ]
    refine wpAnyH_ready (rs := [6]) (by kernel_rfl) (by simp) ?_
    refine AllReadyH.cons rfl (fun K hK => ?_) AllReadyH.nil
    rw [if_pos (by rfl)]
    refine wp_mapUpdate_to rfl _ _ _ 66 rfl 3 29 intKeyed Tryz.underlying66 digR m.bb c (cellsD m.v.cells) rfl (World.ownsMap.at_ hown1 (by rfl)) hroom _ _ _ rfl rfl Hkey.out _ [] Hrd.out ?_
    intro w3 hown3 hg3
    rw [cellsD_put] at hown3
    refine hK.out _ _ ⟨(hg3.block _ Hlt fun e => hne3 (by injection e)).trans hv1, (hg3.block _ Hlt2 fun e => hne4 (by injection e)).trans hF71⟩ (fun hHeldy => ?_)
    clear hK K hHeldy hHeld
    refine wpAnyH_done (by kernel_rfl) ?_ _
    have hR3 : Arr w3 (w.heap.size + 1) 29 ZL := (hg3.block _ hg1 fun e => hne (by injection e)).trans hR1
    have hP3 : Arr w3 w0.heap.size 29 OL := (hg3.block _ (hP.lt) fun e => hne2 (by injection e)).trans hP
    have HE := Lib.hid (Hend.out _ w3 (w3.setRow (w.heap.size + 1) OL.toArray) _ (Below.dN (Below.dN Hbw.out _) 1) hown3 hg3 ((Only.refl _ w3).setRow (g := (w.heap.size + 1)) (.inl ⟨by omega, hg1⟩) OL.toArray))
    clear hown3 hg3
    go_wp2_with (first | (refine wpList_load_row rfl _ _ rfl w0.heap.size rfl 29 OL.toArray (0, 0) _ hP3 Tryz.underlying29 rfl HOi.out ?_) | (refine wpList_store_row rfl _ _ _ rfl (w.heap.size + 1) OL.toArray rfl rfl 29 ZL.toArray hR3 HOi.out HOz2.out HO1.out ?_))
    have hset := hR3.setRow OL
    (try simp only [Exit.inBlock, Exit.then])
    obtain ⟨V, hV⟩ : ∃ V, V = Value.tuple #[.agg OL.toArray, .bool true, .int .i64 0] := ⟨_, rfl⟩
    refine bodyPost_ret (v := V) ?hx1 ?h2 ?h3
    case hx1 => rw [hV]; exact results_cell3 (fn := Tryz.f19) (by rfl) _ _ (w.heap.size + 1) 29 OL.toArray (0, 0) _ (by rfl) _ _ (by rfl) (by rfl) hset Tryz.underlying29 rfl HOi.out
    case h2 => rfl
    case h3 => exact ⟨by rw [hV, HOL.out], HE.out⟩
  | false =>
    have hq : c < q := by rcases hq with h | h; cases h; exact h
    have hd : decide ((c : Int) ≥ (q : Int)) = false := by simp; omega
    have hdn : decide (q ≤ c) = false := by simp; omega
    clear hlook hc2 hc0
    go_quiet (fail)
    go_upto_region 7 with fail
    refine wp_region_held_drew (S := fun w' => Arr w' m.vb 68 [.int .i64 (q : Nat), .bool m.v.frozen, .map (some m.bb)] ∧ Arr w' w.heap.size 29 FL) (by kernel_rfl) ⟨hv1, hF71⟩ (fun hHeld => ?_)
    refine anyH_take (i := 0) (v := .pointer (some ⟨m.vb, 0, none⟩)) (some 50) rfl rfl (by kernel_rfl) (by kernel_rfl) (by kernel_rfl) (fun _ _ _ h => h) (Or.inl ⟨by rfl, fun w' hw => by rfl⟩) (by assumption) ?_
    simp only [Act.put, List.setIfInBounds_toArray, List.set_cons_zero, List.set_cons_succ]
    refine anyH_take (i := 1) (v := .pointer (some ⟨m.vb, 0, none⟩)) (some 51) rfl rfl (by kernel_rfl) (by kernel_rfl) (by kernel_rfl) (fun _ _ _ h => h) (Or.inl ⟨by rfl, fun w' hw => by (go_simp)⟩) (by assumption) ?_
    simp only [Act.put, List.setIfInBounds_toArray, List.set_cons_zero, List.set_cons_succ]
    refine anyH_take (i := 2) (v := .pointer (some ⟨m.vb, 2, none⟩)) (some 52) rfl rfl (by kernel_rfl) (by kernel_rfl) (by kernel_rfl) (fun _ _ _ h => h) (Or.inl ⟨by rfl, fun w' hw => by (go_simp)⟩) (by assumption) ?_
    simp only [Act.put, List.setIfInBounds_toArray, List.set_cons_zero, List.set_cons_succ]
    refine anyH_take (i := 3) (v := .map (some m.bb)) (some 53) rfl rfl (by kernel_rfl) (by kernel_rfl) (by kernel_rfl) (fun _ _ _ h => h) (Or.inl ⟨by rfl, fun w' hw => by (have hcc := hw.1.cell 2; simp only [List.getElem?_cons_succ, List.getElem?_cons_zero] at hcc; go_simp)⟩) (by assumption) ?_
    simp only [Act.put, List.setIfInBounds_toArray, List.set_cons_zero, List.set_cons_succ]
    refine anyH_take (i := 4) (v := .int .i64 (nn : Nat)) (some 54) rfl rfl (by kernel_rfl) (by kernel_rfl) (by kernel_rfl) (fun _ _ _ h => h) (Or.inl ⟨by rfl, fun w' hw => by rfl⟩) (by assumption) ?_
    simp only [Act.put, List.setIfInBounds_toArray, List.set_cons_zero, List.set_cons_succ]
    refine anyH_take (i := 5) (some 55) rfl rfl (by kernel_rfl) (by kernel_rfl) (by kernel_rfl) (fun _ _ _ h => h) (yieldsIf_load_mid (by rfl) 29 (.tmp 7) rfl w.heap.size 0 rfl FL _ (fun w' h => (h.2).range) Tryz.underlying29 rfl HFi.out) (by assumption) ?_
    simp only [Act.put, List.setIfInBounds_toArray, List.set_cons_zero, List.set_cons_succ]
    refine wpAnyH_ready (rs := [6]) (by kernel_rfl) (by simp) ?_
    refine AllReadyH.cons rfl (fun K hK => ?_) AllReadyH.nil
    rw [if_pos (by rfl)]
    refine wp_mapUpdate_to rfl _ _ _ 66 rfl 3 29 intKeyed Tryz.underlying66 digR m.bb c (cellsD m.v.cells) rfl (World.ownsMap.at_ hown1 (by rfl)) hroom _ _ _ rfl rfl Hkey.out _ [] Hrd.out ?_
    intro w3 hown3 hg3
    rw [cellsD_put] at hown3
    refine hK.out _ _ ⟨(hg3.block _ Hlt fun e => hne3 (by injection e)).trans hv1, (hg3.block _ Hlt2 fun e => hne4 (by injection e)).trans hF71⟩ (fun hHeldy => ?_)
    clear hK K hHeldy hHeld
    refine wpAnyH_done (by kernel_rfl) ?_ _
    have hR3 : Arr w3 (w.heap.size + 1) 29 ZL := (hg3.block _ hg1 fun e => hne (by injection e)).trans hR1
    have hP3 : Arr w3 w0.heap.size 29 OL := (hg3.block _ (hP.lt) fun e => hne2 (by injection e)).trans hP
    have HE := Lib.hid (Hend.out _ w3 (w3.setRow (w.heap.size + 1) OL.toArray) _ (Below.dN (Below.dN Hbw.out _) 1) hown3 hg3 ((Only.refl _ w3).setRow (g := (w.heap.size + 1)) (.inl ⟨by omega, hg1⟩) OL.toArray))
    clear hown3 hg3
    go_wp2_with (first | (refine wpList_load_row rfl _ _ rfl w0.heap.size rfl 29 OL.toArray (0, 0) _ hP3 Tryz.underlying29 rfl HOi.out ?_) | (refine wpList_store_row rfl _ _ _ rfl (w.heap.size + 1) OL.toArray rfl rfl 29 ZL.toArray hR3 HOi.out HOz2.out HO1.out ?_))
    have hset := hR3.setRow OL
    (try simp only [Exit.inBlock, Exit.then])
    obtain ⟨V, hV⟩ : ∃ V, V = Value.tuple #[.agg OL.toArray, .bool false, .int .i64 0] := ⟨_, rfl⟩
    refine bodyPost_ret (v := V) ?hx1 ?h2 ?h3
    case hx1 => rw [hV]; exact results_cell3 (fn := Tryz.f19) (by rfl) _ _ (w.heap.size + 1) 29 OL.toArray (0, 0) _ (by rfl) _ _ (by rfl) (by rfl) hset Tryz.underlying29 rfl HOi.out
    case h2 => rfl
    case h3 => exact ⟨by rw [hV, HOL.out], HE.out⟩

set_option maxHeartbeats 4000000 in
set_option maxRecDepth 100000 in
theorem drop_err (s : Nat) (nm : ByteArray) (hsz : nm.size ≤ maxLen) (n : Int) (w : World) (F : Nat → Prop) (M : List Vm) (h : SetW w F s M) (k : Int) (hk : changeF M nm n = (.pointer none, k)) (hk0 : k ≠ 0) :
    Calls Tryz.prog 21 #[.pointer (some ⟨s, 0, none⟩), .string nm, .int .i64 n] w fun e w' => e = .returned (.tuple #[.agg (Lib.byteCells zeros).toArray, .bool false, .int .i64 k]) ∧ SetL w' (newF F w w') s (vs M) ∧ Only F w w' := by
  obtain ⟨ZL, hZL⟩ : ∃ ZL, ZL = Lib.byteCells zeros := ⟨_, rfl⟩
  have HZi := Lib.hid (show (Tryz.prog.info? 29).map (·.size) = some ZL.toArray.size by rw [hZL]; simpa [Lib.byteCells, zeros] using digInfo)
  have HZ1 := Lib.hid (show ZL.toArray.all (·.oneCell') = true by rw [hZL]; exact dig_one _)
  have HZb := Lib.hid (show Tryz.prog.built 29 [] = some ZL.toArray by rw [hZL]; exact digBuilt)
  obtain ⟨w0, hw0⟩ : ∃ x, x = w.alloc (.cells (Lib.byteCells zeros).toArray 29) := ⟨_, rfl⟩
  have hb0 : Below w.heap.size w w0 := by rw [hw0]; exact (Below.refl _ _).alloc (Nat.le_refl _) _
  have hz0 : w0.heap.size ≤ w.heap.size + 1 ∧ w.heap.size + 1 ≤ w0.heap.size := by rw [hw0]; simp
  have hR : Arr w0 w.heap.size 29 ZL := by
    rw [hw0, hZL]
    simpa using Arr.new w 29 (Lib.byteCells zeros)
  have h0 : SetW w0 F s M := h.below hb0
  have Hp : Hid (SetL w F s (vs M)) := ⟨M, h, rfl⟩
  have HW0 := Lib.hid hw0
  have Hb0 := Lib.hid hb0
  have HZL := Lib.hid hZL
  have hd : (k != 0) = true := by simpa using hk0
  have hd1 : (k == 0) = false := by simpa using hk0
  have hd2 : decide (k = 0) = false := by simpa using hk0
  have Hk0 := Lib.hid hk0
  clear hw0 hb0 hZL h hk0 
  go_enter Tryz.func21, Tryz.ntmps21
  go_upto_region 1 with fail
  change Code.wp _ _ _ _ (w.alloc (.cells (Lib.byteCells zeros).toArray 29))
  rw [← HW0.out]
  clear HW0
  go_wp2_with fail
  refine Calls.mono (toChange_any s nm hsz n w0 F M (h0) _ _ hk) ?_
  rintro e w' ⟨rfl, rfl⟩
  clear h0 hk
  go_wp2_with (first | (refine wpList_builtV rfl _ _ rfl [] rfl ZL.toArray HZb.out ?_) | (refine wpList_store_row rfl _ _ _ rfl w.heap.size ZL.toArray rfl rfl 29 ZL.toArray hR HZi.out rfl HZ1.out ?_))
  have hset := hR.setRow ZL
  have HE := Lib.hid (Hp.out.end_ Hb0.out ((Only.refl (fun b => w.heap.size ≤ b) w0).setRow (g := w.heap.size) (.inl (by omega)) ZL.toArray))
  (try simp only [Exit.inBlock, Exit.then])
  obtain ⟨V, hV⟩ : ∃ V, V = Value.tuple #[.agg ZL.toArray, .bool false, .int .i64 k] := ⟨_, rfl⟩
  refine bodyPost_ret (v := V) ?hx1 ?h2 ?h3
  case hx1 => rw [hV]; exact results_cell3 (fn := Tryz.f21) (by rfl) _ _ w.heap.size 29 ZL.toArray (0, 0) _ (by rfl) _ _ (by rfl) (by rfl) hset Tryz.underlying29 rfl HZi.out
  case h2 => rfl
  case h3 => exact ⟨by rw [hV, HZL.out], by first | exact HE.out | (rw [HZL.out] at HE; exact HE.out)⟩

set_option maxHeartbeats 4000000 in
set_option maxRecDepth 100000 in
theorem drop_good (s : Nat) (nm : ByteArray) (hsz : nm.size ≤ maxLen) (n : Int) (w : World) (F : Nat → Prop) (mb : Nat) (M : List Vm) (h : SetQ w F s mb M) (m : Vm) (hfd : findM M nm = some m) (hn : numB n = true) (hfr : m.v.frozen = false) (b : Bool) (hhas : hasC m.v.cells n = b) :
    Calls Tryz.prog 21 #[.pointer (some ⟨s, 0, none⟩), .string nm, .int .i64 n] w fun e w' => e = .returned (.tuple #[.agg (Lib.byteCells (atC m.v.cells n)).toArray, .bool b, .int .i64 0]) ∧ SetL w' (newF F w w') s (setV (vs M) nm (delC m.v.cells n.toNat)) ∧ Only F w w' := by
  obtain ⟨ZL, hZL⟩ : ∃ ZL, ZL = Lib.byteCells zeros := ⟨_, rfl⟩
  have HZi := Lib.hid (show (Tryz.prog.info? 29).map (·.size) = some ZL.toArray.size by rw [hZL]; simpa [Lib.byteCells, zeros] using digInfo)
  have HZ1 := Lib.hid (show ZL.toArray.all (·.oneCell') = true by rw [hZL]; exact dig_one _)
  have HZb := Lib.hid (show Tryz.prog.built 29 [] = some ZL.toArray by rw [hZL]; exact digBuilt)
  obtain ⟨w0, hw0⟩ : ∃ x, x = w.alloc (.cells (Lib.byteCells zeros).toArray 29) := ⟨_, rfl⟩
  have hb0 : Below w.heap.size w w0 := by rw [hw0]; exact (Below.refl _ _).alloc (Nat.le_refl _) _
  have hz0 : w0.heap.size ≤ w.heap.size + 1 ∧ w.heap.size + 1 ≤ w0.heap.size := by rw [hw0]; simp
  have hR : Arr w0 w.heap.size 29 ZL := by
    rw [hw0, hZL]
    simpa using Arr.new w 29 (Lib.byteCells zeros)
  have hnb := numB_yes hn
  have h1 : -9223372036854775808 ≤ n := by omega
  have h2 : n ≤ 9223372036854775807 := by omega
  have hmm := (findM_mem hfd).1
  have hnmq : m.v.name = nm := (findM_mem hfd).2
  have hk : changeF M nm n = (.pointer (some ⟨m.vb, 0, none⟩), 0) := by unfold changeF; rw [hfd]; simp [hn, hfr]
  have hQ0 : SetQ w0 F s mb M := h.kept (fun b hF => hb0.block b (h.Flt b hF)) (fun _ h => h) fun b hF => Nat.lt_of_lt_of_le (h.Flt b hF) hb0.size
  have h0 : SetW w0 F s M := ⟨mb, hQ0⟩
  have hvm := hQ0.vm m hmm
  have hc2 := hvm.hv.cell 2
  have hc0 := hvm.hv.cell 0
  simp only [List.getElem?_cons_succ, List.getElem?_cons_zero] at hc2 hc0
  have hlook := hvm.look h1 h2
  obtain ⟨OL, hOL⟩ : ∃ OL, OL = Lib.byteCells (atC m.v.cells n) := ⟨_, rfl⟩
  rw [← hOL] at hlook
  have hO32 : OL.length = 32 := by rw [hOL, Lib.byteCells_length]; exact atC_length hvm.ok n
  have HOi := Lib.hid (show (Tryz.prog.info? 29).map (·.size) = some OL.toArray.size by rw [List.size_toArray, hO32]; exact digInfo)
  have HO1 := Lib.hid (show OL.toArray.all (·.oneCell') = true by rw [hOL]; exact dig_one _)
  have HOz := Lib.hid (show (Lib.byteCells zeros).toArray.size = OL.toArray.size by rw [List.size_toArray, List.size_toArray, hO32]; rfl)
  have HOz2 := Lib.hid (show ZL.toArray.size = OL.toArray.size by rw [hZL, List.size_toArray, List.size_toArray, hO32]; rfl)
  obtain ⟨w1, hw1⟩ : ∃ x, x = (w0.alloc (.cells (Lib.byteCells zeros).toArray 29)).setRow w0.heap.size OL.toArray := ⟨_, rfl⟩
  obtain ⟨hP, hb1⟩ := alloc_row w0 29 (Lib.byteCells zeros).toArray OL
  rw [← hw1] at hP hb1
  have hR1 := hR.up hb1
  have hbw : Below w.heap.size w w1 := hb0.trans (hb1.mono hb0.size)
  have hvm1 : VmOk w1 m := hvm.kept (hb1.block _ hvm.hv.lt) (hb1.block _ (World.ownsMap.lt hvm.hc))
  have hd2v := hvm1.hv.cell 2
  have hd0v := hvm1.hv.cell 0
  simp only [List.getElem?_cons_succ, List.getElem?_cons_zero] at hd2v hd0v
  rw [hhas] at hlook
  obtain ⟨nn, rfl⟩ := Int.eq_ofNat_of_zero_le hnb.1
  rw [Int.toNat_natCast]
  have hok : VolOk { m.v with cells := delC m.v.cells nn } := ⟨hvm.ok.q, Nat.le_trans (List.length_filter_le _ _) hvm.ok.le, delC_rise hvm.ok.rs _, fun c hc => hvm.ok.c c (delC_mem.1 hc).1, hvm.ok.nm⟩
  have hown1 := hvm1.hc
  have Hkey := Lib.hid (keyOf_num h1 h2)
  have Hend := Lib.hid (fun (w2 w3 w' : World) (N : Nat) hb h2 hg hO => SetQ.end_ (w1 := w2) (w3 := w3) (w' := w') (n := N) (cs := delC m.v.cells nn) h hmm hb h2 hg hok hO)
  rw [hnmq] at Hend
  have HW0 := Lib.hid hw0
  have Hbw := Lib.hid hbw
  have Hw1 := Lib.hid hw1
  have HZL := Lib.hid hZL
  have HOL := Lib.hid hOL
  have hg1 : w.heap.size < w1.heap.size := by have := hb1.size; omega
  have hne : w.heap.size ≠ m.bb := by have := h.Flt _ (h.Fv m hmm).2; omega
  have hne2 : w0.heap.size ≠ m.bb := by have := h.Flt _ (h.Fv m hmm).2; have := hb0.size; omega
  clear hw0 hw1 hb0 hbw hb1 hZL h hfd hn hfr hhas  hQ0 hvm hvm1 hOL hR hnmq hmm hO32 hok 
  go_enter Tryz.func21, Tryz.ntmps21
  go_upto_region 1 with fail
  change Code.wp _ _ _ _ (w.alloc (.cells (Lib.byteCells zeros).toArray 29))
  rw [← HW0.out]
  clear HW0
  go_wp2_with fail
  refine Calls.mono (toChange_any s nm hsz (nn : Nat) w0 F M (h0) _ _ hk) ?_
  rintro e w' ⟨rfl, rfl⟩
  clear h0 hk
  go_wp2_with (first | (change wpList _ _ _ _ _ (w0.alloc (.cells (Lib.byteCells zeros).toArray 29)); refine wpList_store_row rfl _ _ _ rfl w0.heap.size OL.toArray rfl rfl 29 (Lib.byteCells zeros).toArray (heap_alloc_new w0 _) HOi.out HOz.out HO1.out ?_; rw [← Hw1.out]) | (at_delete; refine wpList_delete_own _ rfl _ _ 66 3 rfl 29 intKeyed Tryz.underlying66 digR m.bb m.v.cells.length (cellsD m.v.cells) rfl hown1 _ _ rfl Hkey.out ?_))
  intro w3 hown3 ht3
  have hg3 := ht3.grown
  rw [cellsD_del] at hown3
  have hR3 : Arr w3 w.heap.size 29 ZL := (hg3.block _ hg1 fun e => hne (by injection e)).trans hR1
  have hP3 : Arr w3 w0.heap.size 29 OL := (hg3.block _ (hP.lt) fun e => hne2 (by injection e)).trans hP
  have HE := Lib.hid (Hend.out w1 w3 (w3.setRow w.heap.size OL.toArray) _ Hbw.out hown3 hg3 ((Only.refl _ w3).setRow (g := w.heap.size) (.inl ⟨by omega, hg1⟩) OL.toArray))
  clear hown3 hg3 ht3
  go_wp2_with (first | (refine wpList_load_row rfl _ _ rfl w0.heap.size rfl 29 OL.toArray (0, 0) _ hP3 Tryz.underlying29 rfl HOi.out ?_) | (refine wpList_store_row rfl _ _ _ rfl w.heap.size OL.toArray rfl rfl 29 ZL.toArray hR3 HOi.out HOz2.out HO1.out ?_))
  have hset := hR3.setRow OL
  (try simp only [Exit.inBlock, Exit.then])
  obtain ⟨V, hV⟩ : ∃ V, V = Value.tuple #[.agg OL.toArray, .bool b, .int .i64 0] := ⟨_, rfl⟩
  refine bodyPost_ret (v := V) ?hx1 ?h2 ?h3
  case hx1 => rw [hV]; exact results_cell3 (fn := Tryz.f21) (by rfl) _ _ w.heap.size 29 OL.toArray (0, 0) _ (by rfl) _ _ (by rfl) (by rfl) hset Tryz.underlying29 rfl HOi.out
  case h2 => rfl
  case h3 => exact ⟨by rw [hV, HOL.out], HE.out⟩

end Go.Proofs.YtcajhndhjlfmaaaGreat

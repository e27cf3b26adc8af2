/-
  TrieTGet TrieForest: texts on the way to the laws, as one.
-/
import Derived.Test.YtblgmnjegkfoaaaGreatK16
import Derived.Test.YtblgmnjegkfoaaaGreatK09
import Derived.Test.YtblgmnjegkfoaaaGreatK12
set_option maxRecDepth 100000
namespace Go.Proofs.YtblgmnjegkfoaaaGreat
open Go.RowKit Go.Shelf
set_option linter.unusedVariables false
set_option linter.unusedSimpArgs false

attribute [local go_sem] Oper.semAt_some

abbrev NodeOf (M : Wood) := { b : Nat // ∃ n, M b = some n }
def encS {M : Wood} (x : NodeOf M) : Array Value := #[.pointer (some ⟨x.1, 0, none⟩)]

set_option maxRecDepth 100000 in
set_option maxHeartbeats 4000000 in
/-- The closure of way, for every loop body that keeps what it reads. -/
theorem way1S_in (n : Nat) (hn : 1 ≤ n) (l Bt Bk a : Nat) (p0 : Option Addr) (M : Wood) (key : List UInt8) (KL : List Value) (hKL : KL = Lib.byteCells key) (hk : key.length = 32) (bs : List Nat) (B0 : Nat) (J Jx : List (NodeOf M) → World → Prop) (hJ : AbidesFrom B0 J) (Kp : World → World → Prop)
    (hKp : ∀ A B, Kp A B → WayMem M Bk KL A → WayMem M Bk KL B)
    (hY : ∀ pre x W, J pre W → pre.length < bs.length → YieldAt Fence.wide (n - 1) Tryz.prog l (encS x) W fun e W' =>
      (e = .returned (.bool true) ∧ J (pre ++ [x]) W' ∧ Kp W W') ∨ (e = .returned (.bool false) ∧ Jx (pre ++ [x]) W'))
    (W : World) (hBt : W.cell? ⟨Bt, 0, none⟩ = some (.pointer (some ⟨a, 0, none⟩))) (hroot : W.cell? ⟨a, 0, none⟩ = some (.pointer p0)) (hM : WayMem M Bk KL W) (hway : IsWay M key p0 bs) (h0 : J [] W) :
    CallsIn Fence.wide n Tryz.prog 53 #[.func (.yield l) #[] #[], .pointer (some ⟨Bt, 0, none⟩), .pointer (some ⟨Bk, 0, none⟩)] W fun e W' => (∃ v, e = .returned v) ∧
      ((∃ ys, ys.map (fun x => x.1) = bs ∧ J ys W') ∨ (∃ pre, pre.map (fun x => x.1) <+: bs ∧ Jx pre W')) := by
  have Hki := Lib.hid (show (Tryz.prog.info? 24).map (·.size) = some KL.toArray.size by rw [hKL, dig_size hk]; kernel_rfl)
  have Hnext : Hid (∀ b nd, M b = some nd → ∀ w, Stand M w → Calls Tryz.prog 54 #[.pointer (some ⟨b, 0, none⟩), .agg KL.toArray] w fun e w' => e = .returned (.pointer (nextP nd key)) ∧ Below w.heap.size w w') := fun b nd h w hS => next_wood M b nd h key KL hKL hk w hS
  have HJ := Lib.hid hJ
  have HKp := Lib.hid hKp
  clear hKL hJ hKp
  refine callsIn_of_wp Tryz.func53 rfl trivial ?_ rfl
  simp only [Tryz.ntmps53, List.size_toArray, List.length_cons, List.length_nil, Nat.reduceAdd, Nat.reduceSub, Array.replicate_succ, Array.replicate_zero, List.push_toArray, List.append_toArray, List.nil_append, List.cons_append]
  gi_wp2
  gi_loopw [4] (fun p wr => ∃ (pre : List (NodeOf M)) (rest : List Nat) (q : Option Addr), p = .pointer q ∧ bs = pre.map (fun x => x.1) ++ rest ∧ IsWay M key q rest ∧ J pre wr ∧ WayMem M Bk KL wr) (fun p wr => leftW M key p)
  case atStart => exact ⟨[], bs, p0, rfl, rfl, hway, h0, hM⟩
  case round =>
    clear hM hway h0 hBt hroot
    obtain ⟨pre, rest, q, rfl, hx, hl, hJs, hMr⟩ := hrel
    cases rest with
    | nil =>
      obtain rfl : q = none := hl
      gi_wp2
      refine ⟨fun _ h => (by cases h), ?_⟩
      gi_wp2
      go_end0
      exact ⟨⟨_, rfl⟩, .inl ⟨pre, by simp [hx], hJs⟩⟩
    | cons x rest =>
      have hl' := hl
      obtain ⟨rfl, nd, hnd, hr⟩ := hl
      obtain ⟨fn, tmps, assign, body, hy, hR⟩ := hY pre ⟨x, nd, hnd⟩ wr hJs (by rw [hx]; simp)
      unfold encS at hy
      gi_wp2
      refine hR.mono ?_
      rintro e W3 (⟨rfl, hJ3, hk3⟩ | ⟨rfl, hJx3⟩)
      · have hM3 := HKp.out _ _ hk3 hMr
        have hX3 : W3.heap[Bk]? = some (.cells KL.toArray 24 (0, 0)) := hM3.2
        have hnx := Hnext.out x nd hnd W3 hM3.1
        clear hR hy hY
        gi_wp2_with (first
          | (refine wpListIn_load_row rfl _ _ rfl Bk rfl 24 KL.toArray (0, 0) _ hX3 Tryz.underlying24 rfl Hki.out ?_)
          | (refine ⟨trivial, ?_⟩; gi_at_call 54; refine (callsIn_wide.2 hnx).mono ?_; rintro e W4 ⟨rfl, hb4⟩))
        refine ⟨⟨pre ++ [⟨x, nd, hnd⟩], rest, _, rfl, by simp [hx], hr, abides_below HJ.out hJ3 hb4, hM3.1.only (R := fun _ => False) (Only.of_below hb4) (fun _ _ h => h), hM3.2.below hb4 hM3.2.lt⟩, ?_⟩
        rw [leftW_eq hr, leftW_eq hl']
        simp
      · clear hR hy hY
        gi_wp2
        go_end0
        exact ⟨⟨_, rfl⟩, .inr ⟨pre ++ [⟨x, nd, hnd⟩], ⟨rest, by simp [hx]⟩, hJx3⟩⟩


theorem way_stopsS (n : Nat) (hn : 1 ≤ n) (Bt Bk a : Nat) (p0 : Option Addr) (M : Wood) (key : List UInt8) (KL : List Value) (hKL : KL = Lib.byteCells key) (hk : key.length = 32) (bs : List Nat) (Kp : World → World → Prop) (w : World)
    (hKp : ∀ A B, Kp A B → WayMem M Bk KL A → WayMem M Bk KL B) (hBt : w.cell? ⟨Bt, 0, none⟩ = some (.pointer (some ⟨a, 0, none⟩))) (hBtl : Bt < w.heap.size) (hroot : w.cell? ⟨a, 0, none⟩ = some (.pointer p0)) (hal : a < w.heap.size) (hM : WayMem M Bk KL w) (hway : IsWay M key p0 bs) :
    SeqStopsK Fence.wide n Tryz.prog 53 #[.pointer (some ⟨Bt, 0, none⟩), .pointer (some ⟨Bk, 0, none⟩)] (encS (M := M)) Kp (fun ys => ys.map (fun x => x.1) = bs) (fun pre => pre.map (fun x => x.1) <+: bs) bs.length w := fun l J Jx W hW hJ _ hY h0 =>
  way1S_in n hn l Bt Bk a p0 M key KL hKL hk bs W.heap.size J Jx hJ Kp hKp hY W ((hW.cell (p := ⟨Bt, 0, none⟩) hBtl).trans hBt) ((hW.cell (p := ⟨a, 0, none⟩) hal).trans hroot)
    ⟨hM.1.only (R := fun _ => False) (Only.of_below hW) (fun _ _ h => h), hM.2.below hW hM.2.lt⟩ hway h0

/-- All that stands on the way stands in the root. -/
theorem way_sub {M : Wood} {w : World} (hS : Stand M w) (key : List UInt8) : ∀ (bs : List Nat) (p : Option Addr), IsWay M key p bs → ∀ (l : List It), (∀ b n, p = some ⟨b, 0, none⟩ → M b = some n → ∀ y ∈ n.l, y ∈ l) → ∀ b ∈ bs, ∀ n, M b = some n → ∀ y ∈ n.l, y ∈ l
  | [], _, _, _, _, b, hb, _, _, _, _ => by cases hb
  | c :: bs, p, ⟨hp, n, hn, hr⟩, l, hl, b, hb, m, hm, y, hy => by
    rcases List.mem_cons.1 hb with rfl | hb
    · exact hl b m hp hm y hy
    · refine way_sub hS key bs _ hr l (fun b' n' hp' hn' z hz => ?_) b hb m hm y hy
      refine hl c n hp hn z ?_
      have hnd := hS c n hn
      unfold nextP at hp'
      split at hp'
      · cases hp'
      · split at hp'
        · cases hp'
        · obtain ⟨d, s, dig, _, _, hcs⟩ := hnd.cells
          rcases hcs with ⟨_, hlf⟩ | ⟨_, hbr⟩
          · obtain ⟨val, e, _⟩ := hlf.one
            have h2 : ¬ n.l.length < 2 := by assumption
            rw [e] at h2; simp at h2
          · have h16 := nibF_lt key (sharedF n.l n.f)
            by_cases he : subF n.l (sharedF n.l n.f) (nibF key (sharedF n.l n.f)) = []
            · have q := hbr.off _ h16 he
              simp [List.getD, q] at hp'
            · obtain ⟨b2, n2, k1, k2, k3, _⟩ := hbr.on _ h16 he
              simp only [List.getD, k1, Option.getD_some, Option.some.injEq] at hp'
              cases hp'
              rw [k2] at hn'
              cases hn'
              rw [k3] at hz
              exact (mem_subF.1 hz).1

/-- Is a node the leaf of a key? -/
def leafB (n : Nd) (key : List UInt8) : Bool := decide (n.l.length < 2) && decide (n.key = key)
theorem leafOf_wood (M : Wood) (b : Nat) (n : Nd) (hb : M b = some n) (key : List UInt8) (KL : List Value) (hKL : KL = Lib.byteCells key) (hk : key.length = 32) (w : World) (hS : Stand M w) :
    Calls Tryz.prog 36 #[.pointer (some ⟨b, 0, none⟩), .agg KL.toArray] w fun e w' => e = .returned (.bool (leafB n key)) ∧ Below w.heap.size w w' := by
  have hn := hS b n hb
  obtain ⟨d, s, dig, _, _, hcs⟩ := hn.cells
  rcases hcs with ⟨hN, hlf⟩ | ⟨hN, hbr⟩
  · obtain ⟨val, e, _⟩ := hlf.one
    have q : leafB n key = decide (n.key = key) := by unfold leafB; rw [e]; simp
    rw [q]
    exact leafOf_leaf n.key key _ KL rfl hKL hn.k32 hk b _ _ _ _ _ _ _ _ rfl w hN
  · have q : leafB n key = false := by unfold leafB; rw [decide_eq_false (by have := hbr.two; omega)]; rfl
    rw [q]
    exact leafOf_branch n.key key _ KL rfl hKL hn.k32 hk b n.arr _ _ _ _ _ _ _ _ rfl w hN
/-- A leaf's value lies in its cells. -/
theorem leaf_val {M : Wood} {w : World} {b : Nat} {n : Nd} (hn : NdAt M w b n) {key : List UInt8} (h : leafB n key = true) : ∃ (val : List UInt8), (key, val) ∈ n.l ∧ w.cell? ⟨b, 34, none⟩ = some (.slice n.adr n.len n.cap) ∧ val.length = n.len ∧ n.len ≤ n.cap ∧ val.length ≤ 1000 ∧ Bs w w.heap.size n.adr val := by
  unfold leafB at h
  rw [Bool.and_eq_true, decide_eq_true_eq, decide_eq_true_eq] at h
  obtain ⟨d, s, dig, _, _, hcs⟩ := hn.cells
  rcases hcs with ⟨hN, hlf⟩ | ⟨hN, hbr⟩
  · obtain ⟨val, e, e2, e3⟩ := hlf.one
    have hm : (key, val) ∈ n.l := by rw [e, h.2]; exact List.mem_singleton.2 rfl
    exact ⟨val, hm, (node_at rfl hn.k32 hN).2.2.1, e2, hlf.le, hn.vals _ hm, e3⟩
  · have := hbr.two; omega

theorem Owns.grownT {W W' : World} {row : Option Nat} {B : Nat} {T : TypeId} {v : Value} {l : List UInt8} (h : Owns W B T v l) (hg : W.grownBy W' row) (hr : ∀ r, row = some r → ∃ o : Obj, W.heap[r]? = some o ∧ o.isCells = false) : Owns W' B T v l := by
  refine ⟨h.1, ?_⟩
  rcases h.2 with hn | ⟨g, cap, cur, rfl, h1, hgb, rest⟩
  · exact .inl hn
  · refine .inr ⟨g, cap, cur, rfl, h1, ?_, rest⟩
    refine (hg.block g (Array.getElem?_eq_some_iff.1 hgb).1 (fun e => ?_)).trans hgb
    obtain ⟨o, ho, hc⟩ := hr g e.symm
    rw [hgb] at ho
    cases ho
    cases hc
theorem boxed_grownT {W W' : World} {row : Option Nat} {B : Nat} {T : TypeId} {v : Value} (h : Boxed W B T v) (hg : W.grownBy W' row) (hr : ∀ r, row = some r → ∃ o : Obj, W.heap[r]? = some o ∧ o.isCells = false) : Boxed W' B T v :=
  h.kept hg (fun e => by
    obtain ⟨o, ho, hc⟩ := hr B e.symm
    rw [show W.heap[B]? = some _ from h] at ho
    cases ho
    cases hc)

theorem results_cellsT {P : Program} {fn : Func} {p u : Tmp} {t1 t2 : TypeId} (h : fn.results = #[.cell p t1, .cell u t2]) (tmps : Array Value) (w : World) (a b : Addr) (x y : Value) (hp : tmps.getD p undef = .pointer (some a)) (hu : tmps.getD u undef = .pointer (some b)) (hx : (loadVar t1 a).run P w = .ok x w) (hy : (loadVar t2 b).run P w = .ok y w) :
    (results fn tmps).run P w = .ok (.tuple #[x, y]) w := by
  have hp' : tmps[p]?.getD undef = .pointer (some a) := by simpa using hp
  have hu' : tmps[u]?.getD undef = .pointer (some b) := by simpa using hu
  simp [results, h, hp', hu', asAddr, Sem.run_bind, Result.andThen, hx, hy]

def GetI (M : Wood) (key : List UInt8) (KL : List Value) (w : World) (pre : List (NodeOf M)) (W : World) : Prop :=
  (Arr W w.heap.size 24 KL ∧ Boxed W (w.heap.size + 1) 38 (.slice none 0 0) ∧ Boxed W (w.heap.size + 2) 4 (.bool false) ∧ Stand M W ∧ (∀ x ∈ pre, ∀ n, M x.1 = some n → leafB n key = false)) ∧ Below w.heap.size w W
def GetX (M : Wood) (key : List UInt8) (w : World) (pre : List (NodeOf M)) (W : World) : Prop :=
  (∃ (x : NodeOf M) (n : Nd) (val : List UInt8) (v : Value), x ∈ pre ∧ M x.1 = some n ∧ (key, val) ∈ n.l ∧ Boxed W (w.heap.size + 1) 38 v ∧ Boxed W (w.heap.size + 2) 4 (.bool true) ∧ Owns W w.heap.size 5 v val) ∧ Below w.heap.size w W
theorem GetI.own {M : Wood} {key : List UInt8} {KL : List Value} {w : World} {B : Nat} (hB : w.heap.size ≤ B) : OwnFrom B (GetI M key KL w) :=
  OwnFrom.and (Own.from (fun s X Y row ⟨h1, h2, h3, h4, h5⟩ hg hr => ⟨h1.grown hg hr, boxed_grownT h2 hg hr, boxed_grownT h3 hg hr, h4.grown hg hr, h5⟩) _) (ownFrom_below (Nat.le_refl _) hB)
theorem GetX.own {M : Wood} {key : List UInt8} {w : World} {B : Nat} (hB : w.heap.size ≤ B) : OwnFrom B (GetX M key w) :=
  OwnFrom.and (Own.from (fun s X Y row ⟨x, n, val, v, h1, h2, h3, h4, h5, h6⟩ hg hr => ⟨x, n, val, v, h1, h2, h3, boxed_grownT h4 hg hr, boxed_grownT h5 hg hr, h6.grownT hg hr⟩) _) (ownFrom_below (Nat.le_refl _) hB)

set_option maxRecDepth 100000 in
set_option maxHeartbeats 4000000 in
theorem get_in (a : Nat) (p0 : Option Addr) (M : Wood) (key : List UInt8) (KL : List Value) (hKL : KL = Lib.byteCells key) (hk : key.length = 32) (bs : List Nat) (hway : IsWay M key p0 bs) (w : World) (hS : Stand M w) (hroot : Arr w a 62 [.pointer p0]) :
    CallsIn Fence.wide 5 Tryz.prog 14 #[.pointer (some ⟨a, 0, none⟩), .agg KL.toArray] w fun e W' => ∃ v there, e = .returned (.tuple #[v, .bool there]) ∧ Below w.heap.size w W' ∧
      ((there = true ∧ ∃ b ∈ bs, ∃ n val, M b = some n ∧ (key, val) ∈ n.l ∧ Owns W' w.heap.size 5 v val) ∨ (there = false ∧ v = .slice none 0 0 ∧ ∀ b ∈ bs, ∀ n, M b = some n → leafB n key = false)) := by
  have Hki := Lib.hid (show (Tryz.prog.info? 24).map (·.size) = some KL.toArray.size by rw [hKL, dig_size hk]; kernel_rfl)
  have HKL := Lib.hid hKL
  clear hKL
  have h15 : 1 ≤ 5 := by omega
  have hb3 : Below w.heap.size w (((w.alloc (.cells KL.toArray 24)).alloc (.cells #[.slice none 0 0] 38)).alloc (.cells #[.bool false] 4)) := (((Below.refl _ w).alloc (Nat.le_refl _) _).alloc (by simp) _).alloc (by simp; omega) _
  have hX0 : Arr (((w.alloc (.cells KL.toArray 24)).alloc (.cells #[.slice none 0 0] 38)).alloc (.cells #[.bool false] 4)) w.heap.size 24 KL := ((Arr.new w _ KL).alloc _).alloc _
  refine callsIn_of_wp_marks Tryz.func14 rfl trivial ?_ rfl
  simp only [Tryz.ntmps14, List.size_toArray, List.length_cons, List.length_nil, Nat.reduceAdd, Nat.reduceSub, Array.replicate_succ, Array.replicate_zero, List.push_toArray, List.append_toArray, List.nil_append, List.cons_append]
  have hX0' : (((w.alloc (.cells KL.toArray 24)).alloc (.cells #[.slice none 0 0] 38)).alloc (.cells #[.bool false] 4)).heap[w.heap.size]? = some (.cells KL.toArray 24 (0, 0)) := hX0
  gi_wp2_with (first
    | (refine wpListIn_load_row rfl _ _ rfl w.heap.size rfl 24 KL.toArray (0, 0) _ hX0' Tryz.underlying24 rfl Hki.out ?_)
    | (refine ⟨trivial, ?_⟩; gi_at_call 30; refine (callsIn_wide.2 (way_run a KL _)).mono ?_; rintro e w3 ⟨rfl, hBt, hBk, hb33⟩))
  obtain ⟨W0, hW0⟩ : ∃ W0, (((w.alloc (.cells KL.toArray 24)).alloc (.cells #[.slice none 0 0] 38)).alloc (.cells #[.bool false] 4)) = W0 := ⟨_, rfl⟩
  have hsz : W0.heap.size = w.heap.size + 3 := by rw [← hW0]; simp
  have hA0 : Arr W0 w.heap.size 24 KL := by rw [← hW0]; exact hX0
  have hV0 : Boxed W0 (w.heap.size + 1) 38 (.slice none 0 0) := by
    rw [← hW0]
    have h := (Boxed.new (w.alloc (.cells KL.toArray 24)) 38 (.slice none 0 0)).alloc (.cells #[.bool false] 4)
    simpa using h
  have hT0 : Boxed W0 (w.heap.size + 2) 4 (.bool false) := by
    rw [← hW0]
    have h := Boxed.new ((w.alloc (.cells KL.toArray 24)).alloc (.cells #[.slice none 0 0] 38)) 4 (.bool false)
    simpa using h
  rw [hW0] at hb3 hBt hBk hb33
  rw [hsz] at hBt hBk
  have hB3 : Below w.heap.size w w3 := hb3.trans (hb33.mono hb3.size)
  have hA3 := hA0.below hb33 hA0.lt
  have hV3 : Boxed w3 (w.heap.size + 1) 38 (.slice none 0 0) := (hb33.block _ hV0.lt).trans hV0
  have hT3 : Boxed w3 (w.heap.size + 2) 4 (.bool false) := (hb33.block _ hT0.lt).trans hT0
  have hS3 := hS.up hB3
  have hr3 : Arr w3 a 62 [.pointer p0] := hroot.below hB3 hroot.lt
  have hz3 := hb33.size
  have hbtl := cell_ltC hBt
  have hWM : WayMem M (w.heap.size + 3 + 1) KL w3 := ⟨hS3, hBk⟩
  have hwst := way_stopsS (5 - 1) (by omega) (w.heap.size + 3) (w.heap.size + 3 + 1) a p0 M key KL HKL.out hk bs (Only (fun k => k = w.heap.size + 1 ∨ k = w.heap.size + 2 ∨ w3.heap.size ≤ k)) w3 (fun X Y hXY hX => ?kp) hBt hbtl (hr3.cell 0) hr3.lt hWM hway
  case kp =>
    have hn1 : ∀ b n, M b = some n → b < w.heap.size := fun b n hb => (hS b n hb).lt
    refine ⟨fun b n hb => (hX.1 b n hb).keep hXY ?_ ?_ ?_, hX.2.only hXY (by have := hBk.lt; omega)⟩
    · have := hn1 b n hb; omega
    · intro h2
      obtain ⟨cs, hcs⟩ := (hS b n hb).rowOf h2
      have := hcs.lt; omega
    · intro h1 ad ha hl
      have := (hS b n hb).valOf h1 ad ha hl; omega
  clear hW0 hX0 hX0' hV0 hT0 hA0 hBt hBk hb33 hb3
  refine wpIn_rangeFunc_ownG rfl h15 (gf := 53) (lb := #[.pointer (some ⟨w.heap.size + 3, 0, none⟩), .pointer (some ⟨w.heap.size + 3 + 1, 0, none⟩)]) ?hg trivial (enters_of Tryz.func53 (by kernel_rfl) rfl)
    hwst ?hKt ?hKb (Below.refl _ _) (fun _ => rfl)
    (GetI M key KL w) (fun c pre W => c = .ret ∧ GetX M key w pre W) (GetI.own hB3.size) (fun c => ?ownX) ⟨⟨hA3, hV3, hT3, hS3, fun x hx => by cases hx⟩, hB3⟩
    (fun x => { tmps := #[.pointer (some ⟨a, 0, none⟩), .agg KL.toArray, undef, .pointer (some ⟨w.heap.size, 0, none⟩), .pointer (some ⟨w.heap.size + 1, 0, none⟩), .pointer (some ⟨w.heap.size + 2, 0, none⟩), .pointer (some ⟨x.1, 0, none⟩), .pointer (some ⟨a, 0, none⟩), .agg KL.toArray, .func (.func 53) #[] #[.pointer (some ⟨w.heap.size + 1 + 1 + 1, 0, none⟩), .pointer (some ⟨w.heap.size + 1 + 1 + 1 + 1, 0, none⟩)], .pointer (some ⟨x.1, 0, none⟩), undef, undef, undef, undef, undef, undef, undef, undef], defers := [] }) ?assign ?body ?done ?stop
  case hg => rfl
  case ownX => exact fun s X Y row h hg hr => ⟨h.1, GetX.own hB3.size s X Y row h.2 hg hr⟩
  case hKt => intro X Y Z h k; exact h.trans k
  case hKb =>
    intro W l o o' hl ho _ _
    have hg := grownBy_putObj' W l o'
    exact ⟨hg.os, hg.tape, hg.output, hg.size, fun k hk hn => hg.block k hk (fun e => hn (by injection e with e; rw [e]; exact .inr (.inr hl)))⟩
  case assign =>
    intro l x W K hK
    unfold encS
    gi_wp2
    exact hK
  case body =>
    rintro l pre x W ⟨⟨hA, hV, hT, hSW, hall⟩, hB⟩ hlt
    obtain ⟨n, hn⟩ := x.2
    have hlf := leafOf_wood M x.1 n hn key KL HKL.out hk W hSW
    have h13 : 1 ≤ 5 - 1 - 1 := by omega
    have hA' : W.heap[w.heap.size]? = some (.cells KL.toArray 24 (0, 0)) := hA
    have hko : ∀ W2, Below W.heap.size W W2 → KeepsOthers W W2 := fun W2 hu => ⟨hu.size, fun k o hk _ => (hu.block k (Array.getElem?_eq_some_iff.1 hk).1).trans hk⟩
    cases hL : leafB n key with
    | false =>
      rw [hL] at hlf
      gi_wp2_with (first
        | (refine wpListIn_load_row rfl _ _ rfl w.heap.size rfl 24 KL.toArray (0, 0) _ hA' Tryz.underlying24 rfl Hki.out ?_)
        | (refine ⟨trivial, ?_⟩; gi_at_call 36; refine (CallsIn.inRound l (callsIn_wide.2 hlf)).mono ?_; rintro e W2 ⟨rfl, hb2⟩))
      refine ⟨(hko _ hb2).from _, Only.of_below hb2, ⟨hA.below hb2 hA.lt, (hb2.block _ hV.lt).trans hV, (hb2.block _ hT.lt).trans hT, hSW.up hb2, fun y hy m hm => ?_⟩, hB.trans (hb2.mono hB.size)⟩
      rcases List.mem_append.1 hy with hy | hy
      · exact hall y hy m hm
      · rw [List.mem_singleton] at hy
        subst hy
        rw [hn] at hm
        injection hm with hm
        rw [← hm]; exact hL
    | true =>
      rw [hL] at hlf
      obtain ⟨val, hin, hc34, hvl, hvc, hv1000, hbs⟩ := leaf_val (hSW x.1 n hn) hL
      have hxl : x.1 < W.heap.size := (hSW x.1 n hn).lt
      gi_wp2_with (first
        | (refine wpListIn_load_row rfl _ _ rfl w.heap.size rfl 24 KL.toArray (0, 0) _ hA' Tryz.underlying24 rfl Hki.out ?_)
        | (refine ⟨trivial, ?_⟩; gi_at_call 36; refine (CallsIn.inRound l (callsIn_wide.2 hlf)).mono ?_; rintro e W2 ⟨rfl, hb2⟩; have hc34b : W2.cell? ⟨x.1, 34, none⟩ = some (.slice n.adr n.len n.cap) := (hb2.cell (p := ⟨x.1, 34, none⟩) hxl).trans hc34)
        | (refine ⟨trivial, ?_⟩; gi_at_call 37; refine (CallsIn.inRound l (callsIn_wide.2 (hvl ▸ bclone_any W2.heap.size n.adr n.cap val W2 ((hbs.below hb2 (Nat.le_refl _)).more hb2.size) (by omega)))).mono ?_; rintro e W4 ⟨v4, rfl, hown4, hb4⟩; obtain ⟨A4, c4, rfl, h41, h42, h43⟩ := hown4.slice; have hV4 : Boxed W4 (w.heap.size + 1) 38 (.slice none 0 0) := (hb4.block _ (Nat.lt_of_lt_of_le hV.lt hb2.size)).trans ((hb2.block _ hV.lt).trans hV); have hT4 : Boxed W4 (w.heap.size + 2) 4 (.bool false) := (hb4.block _ (Nat.lt_of_lt_of_le hT.lt hb2.size)).trans ((hb2.block _ hT.lt).trans hT); have hcv4 := hV4.cell; have hfv4 := hV4.frozen; have hct4 := hT4.cell; have hft4 := hT4.frozen))
      have ho5 : Only (fun k => k = w.heap.size + 1) W4 (W4.setCell ⟨w.heap.size + 1, 0, none⟩ (.slice A4 n.len c4)) := (Only.refl (fun k => k = w.heap.size + 1) W4).setCell (p := ⟨w.heap.size + 1, 0, none⟩) (.inl rfl) _
      have ho6 : Only (fun k => k = w.heap.size + 2) (W4.setCell ⟨w.heap.size + 1, 0, none⟩ (.slice A4 n.len c4)) ((W4.setCell ⟨w.heap.size + 1, 0, none⟩ (.slice A4 n.len c4)).setCell ⟨w.heap.size + 2, 0, none⟩ (.bool true)) := (Only.refl (fun k => k = w.heap.size + 2) _).setCell (p := ⟨w.heap.size + 2, 0, none⟩) (.inl rfl) _
      have hV5 : Boxed _ (w.heap.size + 1) 38 (.slice A4 n.len c4) := hV4.set (.slice A4 n.len c4)
      have hV6 : Boxed _ (w.heap.size + 1) 38 (.slice A4 n.len c4) := (ho6.block _ hV5.lt (by omega)).trans hV5
      have hT5 : Boxed (W4.setCell ⟨w.heap.size + 1, 0, none⟩ (.slice A4 n.len c4)) (w.heap.size + 2) 4 (.bool false) := (ho5.block _ hT4.lt (by omega)).trans hT4
      have hT6 : Boxed _ (w.heap.size + 2) 4 (.bool true) := Boxed.set (.bool true) hT5
      have hTl := hT.lt
      have hz2 := hb2.size
      have hlo := hown4.lt
      rw [hvl] at hown4 hlo
      have hown6 := ((hown4.base (Nat.le_trans hB.size hz2)).onlyT ho5 (fun k hk q => by have := (hlo k hk).1; omega)).onlyT ho6 (fun k hk q => by have := (hlo k hk).1; omega)
      have hko4 : KeepsOthers W2 W4 := ⟨hb4.size, fun k o hk _ => (hb4.block k (Array.getElem?_eq_some_iff.1 hk).1).trans hk⟩
      have hbb : Below w.heap.size w W4 := (hB.trans (hb2.mono hB.size)).trans (hb4.mono (Nat.le_trans hB.size hz2))
      exact ⟨((((hko W2 hb2).trans hko4).trans (KeepsOthers.setCell _ _ _)).trans (KeepsOthers.setCell _ _ _)).from _, rfl, ⟨x, n, val, _, by simp, hn, hin, hV6, hT6, hown6⟩, (hbb.setCell (p := ⟨w.heap.size + 1, 0, none⟩) (by simp) _).setCell (p := ⟨w.heap.size + 2, 0, none⟩) (by simp) _⟩
  case done =>
    rintro D ys W hD hys ⟨⟨hA, hV, hT, hSW, hall⟩, hB⟩ hK
    have hcv4 := hV.cell
    have hfv4 := hV.frozen
    have hct4 := hT.cell
    have hft4 := hT.frozen
    have ho5 : Only (fun k => k = w.heap.size + 1) W (W.setCell ⟨w.heap.size + 1, 0, none⟩ (.slice none 0 0)) := (Only.refl (fun k => k = w.heap.size + 1) W).setCell (p := ⟨w.heap.size + 1, 0, none⟩) (.inl rfl) _
    have ho6 : Only (fun k => k = w.heap.size + 2) (W.setCell ⟨w.heap.size + 1, 0, none⟩ (.slice none 0 0)) ((W.setCell ⟨w.heap.size + 1, 0, none⟩ (.slice none 0 0)).setCell ⟨w.heap.size + 2, 0, none⟩ (.bool false)) := (Only.refl (fun k => k = w.heap.size + 2) _).setCell (p := ⟨w.heap.size + 2, 0, none⟩) (.inl rfl) _
    have hV5 : Boxed _ (w.heap.size + 1) 38 (.slice none 0 0) := hV.set (.slice none 0 0)
    have hV6 : Boxed _ (w.heap.size + 1) 38 (.slice none 0 0) := (ho6.block _ hV5.lt (by omega)).trans hV5
    have hT5 : Boxed (W.setCell ⟨w.heap.size + 1, 0, none⟩ (.slice none 0 0)) (w.heap.size + 2) 4 (.bool false) := (ho5.block _ hT.lt (by omega)).trans hT
    have hT6 : Boxed _ (w.heap.size + 2) 4 (.bool false) := Boxed.set (.bool false) hT5
    have hKl := (Array.getElem?_eq_some_iff.1 hK).1
    have hK5 : (W.setCell ⟨w.heap.size + 1, 0, none⟩ (.slice none 0 0)).heap[D]? = some (.deferred (some [])) := (ho5.block D hKl (by omega)).trans hK
    have hK6 : ((W.setCell ⟨w.heap.size + 1, 0, none⟩ (.slice none 0 0)).setCell ⟨w.heap.size + 2, 0, none⟩ (.bool false)).heap[D]? = some (.deferred (some [])) := (ho6.block D (Array.getElem?_eq_some_iff.1 hK5).1 (by omega)).trans hK5
    have hB6 : Below w.heap.size w ((W.setCell ⟨w.heap.size + 1, 0, none⟩ (.slice none 0 0)).setCell ⟨w.heap.size + 2, 0, none⟩ (.bool false)) := (hB.setCell (p := ⟨w.heap.size + 1, 0, none⟩) (by simp) _).setCell (p := ⟨w.heap.size + 2, 0, none⟩) (by simp) _
    gi_wp2
    obtain ⟨W6, hW6⟩ : ∃ x, (W.setCell ⟨w.heap.size + 1, 0, none⟩ (.slice none 0 0)).setCell ⟨w.heap.size + 2, 0, none⟩ (.bool false) = x := ⟨_, rfl⟩
    change bodyPostM _ _ _ _ _ _ _ ((W.setCell ⟨w.heap.size + 1, 0, none⟩ (.slice none 0 0)).setCell ⟨w.heap.size + 2, 0, none⟩ (.bool false))
    rw [hW6] at hV6 hT6 hK6 hB6 ⊢
    refine ⟨by simp, .inl ⟨_, _, rfl, run_takeDeferred hK6, ?_⟩⟩
    have hg := grownBy_putObj' W6 D (.deferred none)
    have hr : ∀ r, some D = some r → ∃ o : Obj, W6.heap[r]? = some o ∧ o.isCells = false := fun r e => by injection e with e; subst e; exact ⟨_, hK6, rfl⟩
    have hV7 := (boxed_grownT hV6 hg hr).cell
    have hT7 := (boxed_grownT hT6 hg hr).cell
    have hB7 : Below w.heap.size w (W6.putObj D (.deferred none)) := hB6.trans (belowK_b (w := w) (Nat.le_refl _) W6 D _ _ (by omega) hK6 rfl rfl)
    refine ⟨.tuple #[.slice none 0 0, .bool false], ?_, .slice none 0 0, .inl ⟨rfl, hB7, rfl, fun b hb n hn => ?_⟩⟩
    · exact results_cellsT rfl _ _ ⟨w.heap.size + 1, 0, none⟩ ⟨w.heap.size + 2, 0, none⟩ _ _ rfl rfl (by go_simp) (by go_simp)
    · rw [← hys] at hb
      obtain ⟨y, hy, rfl⟩ := List.mem_map.1 hb
      exact hall y hy n hn
  case stop =>
    rintro D c pre W hD hpre ⟨rfl, ⟨x, n, val, v, hx, hM, hin, hV, hT, hO⟩, hB⟩ hK
    have hcv4 := hV.cell
    have hct4 := hT.cell
    gi_wp2
    refine ⟨by simp, .inl ⟨_, _, rfl, run_takeDeferred hK, ?_⟩⟩
    have hg := grownBy_putObj' W D (.deferred none)
    have hr : ∀ r, some D = some r → ∃ o : Obj, W.heap[r]? = some o ∧ o.isCells = false := fun r e => by injection e with e; subst e; exact ⟨_, hK, rfl⟩
    have hV7 := (boxed_grownT hV hg hr).cell
    have hT7 := (boxed_grownT hT hg hr).cell
    have hB7 : Below w.heap.size w (W.putObj D (.deferred none)) := hB.trans (belowK_b (w := w) (Nat.le_refl _) W D _ _ (by omega) hK rfl rfl)
    refine ⟨.tuple #[v, .bool true], ?_, v, .inr ⟨rfl, hB7, x.1, ?_, n, hM, val, hin, hO.grownT hg hr⟩⟩
    · have hz : v.oneCell' = true := by
        obtain ⟨A4, c4, rfl, _⟩ := hO.slice
        rfl
      obtain ⟨A4, c4, rfl, _⟩ := hO.slice
      exact results_cellsT rfl _ _ ⟨w.heap.size + 1, 0, none⟩ ⟨w.heap.size + 2, 0, none⟩ _ _ rfl rfl (by go_simp) (by go_simp)
    · exact hpre.subset (List.mem_map.2 ⟨x, hx, rfl⟩)

theorem hasF_mem {l : List It} {key : List UInt8} : hasF l key = true ↔ ∃ v, (key, v) ∈ l := by
  unfold hasF
  rw [List.any_eq_true]
  constructor
  · rintro ⟨x, hx, h⟩
    have h : x.1 = key := by simpa using h
    exact ⟨x.2, by rw [← h]; exact hx⟩
  · rintro ⟨v, h⟩
    exact ⟨_, h, by simp⟩

/-- Get of a trie: a copy of the key's value, or none. -/
theorem tget_run (a : Nat) (p0 : Option Addr) (M : Wood) (l : List It) (hat : RootAt M p0 l) (key : List UInt8) (KL : List Value) (hKL : KL = Lib.byteCells key) (hk : key.length = 32) (w : World) (hS : Stand M w) (hroot : Arr w a 62 [.pointer p0]) :
    Calls Tryz.prog 14 #[.pointer (some ⟨a, 0, none⟩), .agg KL.toArray] w fun e w' => ∃ v, e = .returned (.tuple #[v, .bool (hasF l key)]) ∧ Below w.heap.size w w' ∧ (hasF l key = true → ∃ val, (key, val) ∈ l ∧ Owns w' w.heap.size 5 v val) ∧ (hasF l key = false → v = .slice none 0 0) := by
  rcases hat with ⟨rfl, rfl⟩ | ⟨b, nd, rfl, hb, rfl, hf⟩
  · refine (callsIn_wide.1 (get_in a none M key KL hKL hk [] rfl w hS hroot)).mono ?_
    rintro e w' ⟨v, there, rfl, hbl, ⟨_, b, hb, _⟩ | ⟨rfl, rfl, _⟩⟩
    · cases hb
    · exact ⟨_, rfl, hbl, fun h => (by cases h), fun _ => rfl⟩
  · obtain ⟨br, lb, nl, p1, p2, p3, p4, p5, p6, p7, p8, p9⟩ := way_ex M w hS key hk 65 b nd hb (by omega) (fun x hx i hi => absurd hi (by omega))
    refine (callsIn_wide.1 (get_in a _ M key KL hKL hk (br ++ [lb]) p1 w hS hroot)).mono ?_
    rintro e w' ⟨v, there, rfl, hbl, ⟨rfl, c, hc, n, val, hn, hin, hO⟩ | ⟨rfl, rfl, hall⟩⟩
    · have hmem := way_sub hS key _ _ p1 nd.l (fun b' n' hp hn' y hy => by
        injection hp with hp
        injection hp with hp
        subst hp
        rw [hb] at hn'
        injection hn' with hn'
        rw [hn']; exact hy) c hc n hn _ hin
      have hh : hasF nd.l key = true := hasF_mem.2 ⟨val, hmem⟩
      rw [hh]
      exact ⟨v, rfl, hbl, fun _ => ⟨val, hmem, hO⟩, fun h => (by cases h)⟩
    · have hh : hasF nd.l key = false := by
        cases h : hasF nd.l key with
        | false => rfl
        | true =>
          exfalso
          obtain ⟨u, hu⟩ := hasF_mem.1 h
          have hu2 := (p9 u).1 hu
          have hn := hS lb nl p2
          have hnb := hall lb (by simp) nl p2
          obtain ⟨d, s, dig, _, _, hcs⟩ := hn.cells
          rcases hcs with ⟨_, hlf⟩ | ⟨_, hbr⟩
          · obtain ⟨val, e, _⟩ := hlf.one
            rw [e, List.mem_singleton] at hu2
            injection hu2 with hu3
            unfold leafB at hnb
            rw [e, ← hu3] at hnb
            simp at hnb
          · have := nokey_branch hn hbr p3
            rw [hasF_mem.2 ⟨u, hu2⟩] at this
            cases this
      rw [hh]
      exact ⟨_, rfl, hbl, fun h => (by cases h), fun _ => rfl⟩

end Go.Proofs.YtblgmnjegkfoaaaGreat

namespace Go.Proofs.YtblgmnjegkfoaaaGreat
open Go.RowKit
set_option linter.unusedVariables false
set_option linter.unusedSimpArgs false

theorem wpList_load_row_ifT {P : Program} {ops : Array Oper} {rest : List Oper} {o : Oper} {a : Act} {w : World} {Q : Exit → Act → World → Prop} (hw : Region.wanted o (yielded ops a.tmps) = true) (ty : TypeId) (x : Operand) (ho : o.op = .load ty x) (g : Nat) (hx : a.eval x = .pointer (some ⟨g, 0, none⟩))
    (t : TypeId) (cs : Array Value) (d : TypeDesc) (hg : w.heap[g]? = some (.cells cs t (0, 0))) (hu : P.underlying ty = some d) (hd : (match d with | .struct _ | .array _ _ => true | _ => false) = true) (hi : (P.info? ty).map (·.size) = some cs.size)
    (h : wpList P ops Q rest (a.put o.dst (.agg cs)) w) : wpList P ops Q (o :: rest) a w :=
  wpList_step fun K hK => by
    rw [if_pos hw]
    unfold Oper.wp execOp
    simp only [ho, hx, Sem.run_bind, run_loadAt_row w g t ty cs d hg hu hd hi, Result.andThen_ok]
    exact hK _ _ h

/-- Blocks that hold a node, or a trie. -/
def NT (w : World) (k : Nat) : Prop := ∃ T cs, (T = 87 ∨ T = 62) ∧ Arr w k T cs
/-- From block B on nodes and tries alone are turned. -/
def Turns (B : Nat) (w w' : World) : Prop := Only (fun k => B ≤ k ∧ NT w k) w w'
theorem Turns.of_below {B : Nat} {w w' : World} (h : Below w.heap.size w w') : Turns B w w' := Only.of_below h
theorem Turns.refl (B : Nat) (w : World) : Turns B w w := Only.refl _ _
theorem Turns.trans {B : Nat} {a b c : World} (h : Turns B a b) (k : Turns B b c) : Turns B a c := by
  refine ⟨k.os.trans h.os, k.tape.trans h.tape, k.output.trans h.output, Nat.le_trans h.size k.size, fun i hi hn => ?_⟩
  have e := h.block i hi hn
  rw [← e]
  refine k.block i (Nat.lt_of_lt_of_le hi h.size) fun q => hn ⟨q.1, ?_⟩
  obtain ⟨_, T, cs, hT, hA⟩ := q
  exact ⟨T, cs, hT, e.symm.trans hA⟩
theorem Turns.step {B : Nat} {a b c : World} (h : Turns B a b) (k : Below b.heap.size b c) : Turns B a c := h.trans (.of_below k)
theorem Turns.below {B : Nat} {w w' : World} (h : Turns B w w') (hB : B ≤ w.heap.size) : Below B w w' := Only.below h hB fun _ q => q.1
theorem Turns.below' {B0 B : Nat} {w0 w w' : World} (h0 : Below B0 w0 w) (h : Turns B w w') (hB : B0 ≤ B) (hz : B ≤ w.heap.size) : Below B0 w0 w' := h0.trans ((h.below hz).mono hB)
theorem Turns.low {B B' : Nat} {w w' : World} (h : Turns B w w') (hB : B' ≤ B) : Turns B' w w' := Only.more h fun k _ q => ⟨Nat.le_trans hB q.1, q.2⟩
theorem Turns.arr {B : Nat} {w w' : World} (h : Turns B w w') {g : Nat} {T : TypeId} {cs : List Value} (ha : Arr w g T cs) (h1 : T ≠ 87) (h2 : T ≠ 62) : Arr w' g T cs := Arr.only ha h fun q => by
  obtain ⟨_, T', cs', hT, hA⟩ := q
  have q2 : some _ = some _ := (show w.heap[g]? = some _ from hA).symm.trans ha
  injection q2 with q2
  injection q2 with q3 q4
  subst q4
  rcases hT with e | e
  · exact h1 e
  · exact h2 e
theorem Turns.irow {B B1 : Nat} {w w' : World} (h : Turns B w w') {v : Value} {xs : List Itm} (hI : IRow w B1 v xs) : IRow w' B1 v xs := by
  refine ⟨hI.1, hI.2.1, ?_⟩
  rcases hI.2.2 with hn | ⟨g, cap, cur, rfl, h1, hg, rest⟩
  · exact .inl hn
  · refine .inr ⟨g, cap, cur, rfl, h1, (h.block g (Array.getElem?_eq_some_iff.1 hg).1 fun q => ?_).trans hg, rest⟩
    obtain ⟨_, T', cs', hT, hA⟩ := q
    exact hI.apartI hA (by rcases hT with e | e <;> (rw [e]; decide)) g rfl rfl
theorem Turns.owns {B B1 : Nat} {w w' : World} (h : Turns B w w') {v : Value} {l : List UInt8} (hO : Owns w B1 5 v l) : Owns w' B1 5 v l := Owns.onlyT hO h fun k hk q => by
  obtain ⟨_, T', cs', hT, hA⟩ := q
  rcases hO.2 with ⟨e, _⟩ | ⟨g, cap, cur, rfl, h1, hg, rest⟩
  · rw [e] at hk; cases hk
  · injection hk with hk
    subst hk
    have q2 : some _ = some _ := (show w.heap[g]? = some _ from hA).symm.trans hg
    injection q2 with q2
    injection q2 with q3 q4
    rcases hT with e | e <;> (rw [e] at q4; exact absurd q4 (by decide))
theorem Turns.bs {B B1 : Nat} {w w' : World} (h : Turns B w w') {A : Option Addr} {l : List UInt8} (hb : Bs w B1 A l) (h1 : B1 ≤ B) (hz : B ≤ w.heap.size) : Bs w' B1 A l := hb.below (h.below hz) h1

theorem RootAt.more {M M' : Wood} {p : Option Addr} {l : List It} (h : RootAt M p l) (hM : M.le M') : RootAt M' p l := by
  rcases h with h | ⟨b, n, h1, h2, h3⟩
  · exact .inl h
  · exact .inr ⟨b, n, h1, hM b n h2, h3⟩

/-- Tries that stand from block B on, and their items. -/
def Forest (B : Nat) (ts : List (Nat × List It)) (w : World) : Prop :=
  ∃ M, Stand M w ∧ M.Sep ∧ noWood.Up M B ∧ ∀ x ∈ ts, B ≤ x.1 ∧ ∃ p, Arr w x.1 62 [.pointer p] ∧ RootAt M p x.2
theorem Forest.sub {B : Nat} {ts ts' : List (Nat × List It)} {w : World} (h : Forest B ts w) (hs : ∀ x ∈ ts', x ∈ ts) : Forest B ts' w := by
  obtain ⟨M, h1, h2, h3, h4⟩ := h
  exact ⟨M, h1, h2, h3, fun x hx => h4 x (hs x hx)⟩
theorem Forest.up {B : Nat} {ts : List (Nat × List It)} {w w' : World} (h : Forest B ts w) (hb : Below w.heap.size w w') : Forest B ts w' := by
  obtain ⟨M, h1, h2, h3, h4⟩ := h
  refine ⟨M, h1.up hb, h2, h3, fun x hx => ?_⟩
  obtain ⟨k1, p, k2, k3⟩ := h4 x hx
  exact ⟨k1, p, k2.below hb k2.lt, k3⟩
theorem Forest.lt {B : Nat} {ts : List (Nat × List It)} {w : World} (h : Forest B ts w) {x : Nat × List It} (hx : x ∈ ts) : x.1 < w.heap.size ∧ B ≤ x.1 := by
  obtain ⟨M, h1, h2, h3, h4⟩ := h
  obtain ⟨k1, p, k2, k3⟩ := h4 x hx
  exact ⟨k2.lt, k1⟩
theorem Forest.none (B : Nat) (w : World) : Forest B [] w := ⟨noWood, noWood_stand w, noWood_sep, Wood.up_refl _ _, fun x hx => by cases hx⟩
theorem Wood.Up.lowB {M : Wood} {B : Nat} (h : noWood.Up M B) (k : Nat) (t : Nat) (hk : M.ndF t k) : B ≤ k := by
  obtain ⟨n, hn, _⟩ := hk
  rcases h k n hn with h | h
  · cases h
  · exact h.1

theorem forest_new (B : Nat) (ts : List (Nat × List It)) (w : World) (h : Forest B ts w) (hB : B ≤ w.heap.size) :
    Calls Tryz.prog 20 #[] w fun e w' => e = .returned (.pointer (some ⟨w.heap.size, 0, none⟩)) ∧ Forest B ((w.heap.size, []) :: ts) w' ∧ Below w.heap.size w w' := by
  refine (new_run w).mono ?_
  rintro e w' ⟨rfl, hN, hb⟩
  obtain ⟨M, h1, h2, h3, h4⟩ := h
  refine ⟨rfl, ⟨M, h1.up hb, h2, h3, fun x hx => ?_⟩, hb⟩
  rcases List.mem_cons.1 hx with rfl | hx
  · exact ⟨hB, _, hN, .inl ⟨rfl, rfl⟩⟩
  · obtain ⟨k1, p, k2, k3⟩ := h4 x hx
    exact ⟨k1, p, k2.below hb k2.lt, k3⟩
theorem forest_put (B : Nat) (a : Nat) (l : List It) (ts : List (Nat × List It)) (hne : ∀ x ∈ ts, x.1 ≠ a) (key val : List UInt8) (KL : List Value) (hKL : KL = Lib.byteCells key) (hk : key.length = 32) (B1 : Nat) (A : Option Addr) (n c : Nat) (w : World) (h : Forest B ((a, l) :: ts) w) (hB : B ≤ w.heap.size) (hv : Bs w B1 A val) (hn : val.length = n) (hs : val.length ≤ 1000) :
    Calls Tryz.prog 21 #[.pointer (some ⟨a, 0, none⟩), .agg KL.toArray, .slice A n c] w fun e w' => e = .returned (.tuple #[]) ∧ Forest B ((a, putF key val l) :: ts) w' ∧ Turns B w w' := by
  obtain ⟨M, h1, h2, h3, h4⟩ := h
  obtain ⟨hBa, p, hA, hR⟩ := h4 (a, l) List.mem_cons_self
  refine (tput_run a p M l hR key val KL hKL hk B1 A n c w h1 h2 hA hv hn hs).mono ?_
  rintro e w' ⟨rfl, p1, M1, ⟨m1, m2⟩, m3, m4, m5, m6, m7⟩
  refine ⟨rfl, ⟨M1, m3, m4, h3.then (m2.low hB), fun x hx => ?_⟩, Only.more m7 fun k _ e => ?_⟩
  · rcases List.mem_cons.1 hx with rfl | hx
    · exact ⟨hBa, p1, m5, m6⟩
    · obtain ⟨k1, p, k2, k3⟩ := h4 x (List.mem_cons_of_mem _ hx)
      exact ⟨k1, p, k2.only m7 (hne x hx), k3.more m1⟩
  · subst e
    exact ⟨hBa, _, _, .inr rfl, hA⟩
theorem forest_drop (B : Nat) (a : Nat) (l : List It) (ts : List (Nat × List It)) (hne : ∀ x ∈ ts, x.1 ≠ a) (key : List UInt8) (KL : List Value) (hKL : KL = Lib.byteCells key) (hk : key.length = 32) (w : World) (h : Forest B ((a, l) :: ts) w) (hB : B ≤ w.heap.size) :
    Calls Tryz.prog 22 #[.pointer (some ⟨a, 0, none⟩), .agg KL.toArray] w fun e w' => e = .returned (.bool (hasF l key)) ∧ Forest B ((a, dropF key l) :: ts) w' ∧ Turns B w w' := by
  obtain ⟨M, h1, h2, h3, h4⟩ := h
  obtain ⟨hBa, p, hA, hR⟩ := h4 (a, l) List.mem_cons_self
  refine (tdrop_run a p M l hR key KL hKL hk w h1 h2 hA).mono ?_
  rintro e w' ⟨rfl, p1, M1, ⟨m1, m2⟩, m3, m4, m5, m6, m7⟩
  refine ⟨rfl, ⟨M1, m3, m4, h3.then (m2.low hB), fun x hx => ?_⟩, Only.more m7 fun k _ e => ?_⟩
  · rcases List.mem_cons.1 hx with rfl | hx
    · exact ⟨hBa, p1, m5, m6⟩
    · obtain ⟨k1, p, k2, k3⟩ := h4 x (List.mem_cons_of_mem _ hx)
      exact ⟨k1, p, k2.only m7 (hne x hx), k3.more m1⟩
  · subst e
    exact ⟨hBa, _, _, .inr rfl, hA⟩
theorem forest_get (B : Nat) (a : Nat) (l : List It) (ts : List (Nat × List It)) (key : List UInt8) (KL : List Value) (hKL : KL = Lib.byteCells key) (hk : key.length = 32) (w : World) (h : Forest B ((a, l) :: ts) w) :
    Calls Tryz.prog 14 #[.pointer (some ⟨a, 0, none⟩), .agg KL.toArray] w fun e w' => ∃ v, e = .returned (.tuple #[v, .bool (hasF l key)]) ∧ Forest B ((a, l) :: ts) w' ∧ Below w.heap.size w w' ∧ (hasF l key = true → ∃ val, (key, val) ∈ l ∧ Owns w' w.heap.size 5 v val) ∧ (hasF l key = false → v = .slice none 0 0) := by
  have h' := h
  obtain ⟨M, h1, h2, h3, h4⟩ := h
  obtain ⟨hBa, p, hA, hR⟩ := h4 (a, l) List.mem_cons_self
  refine (tget_run a p M l hR key KL hKL hk w h1 hA).mono ?_
  rintro e w' ⟨v, rfl, hb, m1, m2⟩
  exact ⟨v, rfl, h'.up hb, hb, m1, m2⟩
theorem forest_root (B : Nat) (a : Nat) (l : List It) (ts : List (Nat × List It)) (SL : List Value) (hSL : SL = Lib.byteCells (rootF l)) (w : World) (h : Forest B ((a, l) :: ts) w) :
    Calls Tryz.prog 9 #[.pointer (some ⟨a, 0, none⟩)] w fun e w' => e = .returned (.agg SL.toArray) ∧ Forest B ((a, l) :: ts) w' ∧ Turns B w w' := by
  obtain ⟨M, h1, h2, h3, h4⟩ := h
  obtain ⟨hBa, p, hA, hR⟩ := h4 (a, l) List.mem_cons_self
  refine (troot_run a p M l hR SL hSL w h1 h2 hA).mono ?_
  rintro e w' ⟨rfl, m1, m2, m3⟩
  refine ⟨rfl, ⟨M, m1, h2, h3, fun x hx => ?_⟩, Only.more m3 fun k _ q => ⟨h3.lowB k 0 q, ?_⟩⟩
  · obtain ⟨k1, p, k2, k3⟩ := h4 x hx
    exact ⟨k1, p, k2.only m3 (h1.offTrie k2 0), k3⟩
  · obtain ⟨n, hn, _⟩ := q
    obtain ⟨cs, hcs⟩ := (h1 k n hn).typ
    exact ⟨_, cs, .inl rfl, hcs⟩
end Go.Proofs.YtblgmnjegkfoaaaGreat

/-
  slices.Reverse on digests.
-/
import Derived.Test.YtkpgbgiamekhaabDigRow
namespace Go.Proofs.Ytkpgbgiamekhaab
open Go.RowKit
set_option linter.unusedVariables false
set_option linter.unusedSimpArgs false

/-- The first k and the last k have changed places. -/
def swF (k : Nat) (ds : List (List UInt8)) : List (List UInt8) := (List.range ds.length).map fun i => if i < k ∨ ds.length - 1 - i < k then ds.getD (ds.length - 1 - i) [] else ds.getD i []
theorem swF_length (k : Nat) (ds : List (List UInt8)) : (swF k ds).length = ds.length := by simp [swF]
theorem swF_getD {k i : Nat} {ds : List (List UInt8)} (hi : i < ds.length) : (swF k ds).getD i [] = if i < k ∨ ds.length - 1 - i < k then ds.getD (ds.length - 1 - i) [] else ds.getD i [] := by simp [swF, List.getD, hi]
theorem list_ext_getD {a b : List (List UInt8)} (hl : a.length = b.length) (h : ∀ i, i < a.length → a.getD i [] = b.getD i []) : a = b := by
  apply List.ext_getElem hl
  intro i h1 h2
  have := h i h1
  simpa [List.getD, h1, h2] using this
theorem swF_zero (ds : List (List UInt8)) : swF 0 ds = ds := list_ext_getD (swF_length 0 ds) fun i hi => by
  rw [swF_length] at hi
  rw [swF_getD hi, if_neg (by omega)]
theorem swF_done {k : Nat} {ds : List (List UInt8)} (h : ds.length ≤ 2 * k + 1) : swF k ds = ds.reverse := list_ext_getD (by rw [swF_length, List.length_reverse]) fun i hi => by
  rw [swF_length] at hi
  have hr : ds.reverse.getD i [] = ds.getD (ds.length - 1 - i) [] := by
    simp only [List.getD]
    rw [List.getElem?_reverse hi]
  rw [swF_getD hi, hr]
  by_cases hc : i < k ∨ ds.length - 1 - i < k
  · rw [if_pos hc]
  · rw [if_neg hc, show ds.length - 1 - i = i by omega]
theorem set_getD {l : List (List UInt8)} {i j : Nat} (x : List UInt8) (hi : i < l.length) : (l.set i x).getD j [] = if j = i then x else l.getD j [] := by
  by_cases h : j = i
  · subst h; rw [if_pos rfl]; simp [List.getD, hi]
  · rw [if_neg h]; simp only [List.getD, List.getElem?_set_ne (Ne.symm h)]
theorem swF_step {i j : Nat} {ds : List (List UInt8)} (h : i < j) (hj : j + i + 1 = ds.length) : ((swF i ds).set i (ds.getD j [])).set j (ds.getD i []) = swF (i + 1) ds := by
  refine list_ext_getD (by simp [swF_length]) fun q hq => ?_
  have hq' : q < ds.length := by simpa [swF_length] using hq
  rw [set_getD _ (by rw [List.length_set, swF_length]; omega), set_getD _ (by rw [swF_length]; omega), swF_getD hq', swF_getD hq']
  by_cases h1 : q = j
  · subst h1
    rw [if_pos rfl, if_pos (by omega), show ds.length - 1 - q = i by omega]
  · rw [if_neg h1]
    by_cases h2 : q = i
    · subst h2
      rw [if_pos rfl, if_pos (by omega), show ds.length - 1 - q = j by omega]
    · rw [if_neg h2]
      by_cases h3 : q < i ∨ ds.length - 1 - q < i
      · rw [if_pos h3, if_pos (by omega)]
      · rw [if_neg h3, if_neg (by omega)]
theorem swF_all {k : Nat} {ds : List (List UInt8)} (h : ∀ d ∈ ds, d.length = 32) : ∀ d ∈ swF k ds, d.length = 32 := by
  intro d hd
  obtain ⟨i, hi, rfl⟩ := List.getElem_of_mem hd
  rw [swF_length] at hi
  have e : (swF k ds)[i] = (swF k ds).getD i [] := by simp [List.getD, swF_length, hi]
  rw [e, swF_getD hi]
  split
  · exact h _ (by simp [List.getD, show ds.length - 1 - i < ds.length by omega])
  · exact h _ (by simp [List.getD, hi])

theorem digC_set : ∀ {ds : List (List UInt8)} (h : ∀ d ∈ ds, d.length = 32) (rest : List Value) {i : Nat} (hi : i < ds.length) (x : List UInt8) (hx : x.length = 32),
    (digC ds ++ rest).take (i * 32) ++ (Lib.byteCells x ++ (digC ds ++ rest).drop (i * 32 + (Lib.byteCells x).length)) = digC (ds.set i x) ++ rest
  | [], _, _, i, hi, _, _ => by simp at hi
  | d :: ds, h, rest, 0, hi, x, hx => by
    have hd := h d List.mem_cons_self
    have hc : ∀ y, digC (y :: ds) = Lib.byteCells y ++ digC ds := fun y => by unfold digC; rw [List.flatMap_cons]
    rw [List.set_cons_zero, hc, hc, Nat.zero_mul, Nat.zero_add, List.take_zero, List.nil_append, List.append_assoc, List.append_assoc]
    congr 1
    rw [show (Lib.byteCells x).length = (Lib.byteCells d).length by rw [Lib.byteCells_length, Lib.byteCells_length, hx, hd], List.drop_left]
  | d :: ds, h, rest, i + 1, hi, x, hx => by
    have hd := h d List.mem_cons_self
    have hdl : (Lib.byteCells d).length = 32 := by rw [Lib.byteCells_length, hd]
    have ih := digC_set (fun y hy => h y (List.mem_cons_of_mem _ hy)) rest (i := i) (by simpa using hi) x hx
    have hc : ∀ (y : List UInt8) zs, digC (y :: zs) = Lib.byteCells y ++ digC zs := fun y zs => by unfold digC; rw [List.flatMap_cons]
    rw [List.set_cons_succ, hc, hc, List.append_assoc, List.append_assoc, ← ih]
    rw [show (i + 1) * 32 = (Lib.byteCells d).length + i * 32 by rw [hdl]; omega, List.take_length_add_append, Nat.add_assoc, List.drop_length_add_append, List.append_assoc]

theorem Arr.setIn {g : Nat} {T : TypeId} : ∀ (vs : List Value) (off : Nat) (cs : List Value) (w : World), Arr w g T cs → off + vs.length ≤ cs.length → Arr (w.setCells g off vs) g T (cs.take off ++ (vs ++ cs.drop (off + vs.length)))
  | [], off, cs, w, h, hl => by
    show Arr w g T _
    simpa using h
  | v :: r, off, cs, w, h, hl => by
    have h1 := Arr.setIn r (off + 1) (cs.set off v) (w.setCell ⟨g, off, none⟩ v) (h.set off v) (by simp at hl ⊢; omega)
    have hlt : off < cs.length := by simp at hl; omega
    have e : (cs.set off v).take (off + 1) ++ (r ++ (cs.set off v).drop (off + 1 + r.length)) = cs.take off ++ (v :: r ++ cs.drop (off + (v :: r).length)) := by
      rw [List.take_succ_eq_append_getElem (by simpa using hlt), List.take_set_of_le (Nat.le_refl _), List.drop_set_of_lt (by omega)]
      simp
      congr 1
      omega
    rw [e] at h1
    exact h1
theorem Only.setIn {R : Nat → Prop} {a : World} {g : Nat} (hg : R g) : ∀ (vs : List Value) (off : Nat) (b : World), Only R a b → Only R a (b.setCells g off vs)
  | [], _, _, h => h
  | v :: r, off, b, h => Only.setIn hg r (off + 1) _ (h.setCell (p := ⟨g, off, none⟩) (.inl hg) v)

theorem setCells_size (g : Nat) : ∀ (vs : List Value) (off : Nat) (w : World), (w.setCells g off vs).heap.size = w.heap.size
  | [], _, _ => rfl
  | v :: r, off, w => by rw [World.setCells, setCells_size g r]; simp [World.setCell]

def RevPost (B : Nat) (v : Value) (ds : List (List UInt8)) (w : World) (e : Ending) (w' : World) : Prop :=
  e = .returned (.tuple #[]) ∧ DRow w' B v ds.reverse ∧ Only (fun k => v.ownBlock = some k) w w' ∧ w'.heap.size = w.heap.size

set_option maxHeartbeats 8000000 in
set_option maxRecDepth 100000 in
theorem rev_any (B : Nat) (v : Value) (ds : List (List UInt8)) (w : World) (h : DRow w B v ds) (hm : ds.length ≤ 1000000) :
    Calls Try.prog 30 #[v] w (RevPost B v ds w) := by
  have h32 := h.1
  rcases h.2.2 with ⟨rfl, hn⟩ | ⟨g, c, cur, rfl, hBg, hg, hnc, hcm, hcs, htk⟩
  · obtain rfl : ds = [] := List.eq_nil_of_length_eq_zero hn
    go_enter Try.func30, Try.ntmps30
    go_wp2_with fail
    go_loopw [2, 3] (fun i j wr => i = .int .i64 0 ∧ j = .int .i64 (-1) ∧ wr = w) (fun _ _ _ => 0)
    case atStart => exact ⟨rfl, rfl, rfl⟩
    case round =>
      obtain ⟨rfl, rfl, rfl⟩ := hrel
      go_wp2_with fail
      go_end0
      exact ⟨rfl, DRow.nil _ _, Only.refl _ _, rfl⟩
  · obtain ⟨n, hn⟩ : ∃ n, ds.length = n := ⟨_, rfl⟩
    obtain ⟨rest, hrest⟩ : ∃ rest, rest = cur.toList.drop (ds.length * 32) := ⟨_, rfl⟩
    have hA0 : Arr w g 26 (digC (swF 0 ds) ++ rest) := by
      rw [swF_zero, hrest, ← htk, List.take_append_drop]
      exact hg
    have hlen : (digC ds ++ rest).length = c * 32 := by
      rw [hrest, ← htk, List.take_append_drop]
      simpa using hcs
    have hl0 : (digC ds).length = ds.length * 32 := digC_length h32
    rw [hn] at hnc hm ⊢
    unfold maxLen at hcm
    have Hn := Lib.hid hn
    have Hlen := Lib.hid hlen
    have Hl0 := Lib.hid hl0
    have H32 := Lib.hid h32
    have Hfin := Lib.hid (show ∀ w' : World, Arr w' g 26 (digC ds.reverse ++ rest) → DRow w' B (.slice (some ⟨g, 0, none⟩) n c) ds.reverse from fun w' ha => by
      refine ⟨fun d hd => h32 d (List.mem_reverse.1 hd), digC_length fun d hd => h32 d (List.mem_reverse.1 hd), .inr ⟨g, c, (digC ds.reverse ++ rest).toArray, by rw [List.length_reverse, hn], hBg, ha, by rw [List.length_reverse, hn]; exact hnc, by unfold maxLen; omega, ?_, ?_⟩⟩
      · have e1 : (digC ds.reverse).length = (digC ds).length := by rw [hl0, digC_length fun d hd => h32 d (List.mem_reverse.1 hd), List.length_reverse]
        rw [List.size_toArray, List.length_append, e1, ← List.length_append, hlen]
      · rw [← digC_length fun d hd => h32 d (List.mem_reverse.1 hd)]
        show List.take _ (digC ds.reverse ++ rest) = _
        rw [List.take_left])
    clear hn hrest hlen hl0 h32 hg htk hcs h
    go_enter Try.func30, Try.ntmps30
    go_wp2_with fail
    go_loopw [2, 3] (fun x y wr => ∃ (i : Nat) (z : Int), i ≤ n ∧ z + (i : Int) + 1 = (n : Int) ∧ x = .int .i64 i ∧ y = .int .i64 z ∧ Arr wr g 26 (digC (swF i ds) ++ rest) ∧ Only (fun k => k = g) w wr ∧ wr.heap.size = w.heap.size) (fun x _ _ => n - (intOf x).toNat)
    case atStart => exact ⟨0, (n : Int) - 1, Nat.zero_le _, by omega, rfl, rfl, hA0, Only.refl _ _, rfl⟩
    case round =>
      obtain ⟨i, z, hin, hz, rfl, rfl, hA, hO, hsz⟩ := hrel
      have Hsz := Lib.hid hsz
      clear hsz hA0
      by_cases hlt : (i : Int) < z
      · obtain ⟨j, rfl⟩ : ∃ j : Nat, z = (j : Nat) := ⟨z.toNat, by omega⟩
        have hij : i < j := by omega
        have hjn : j + i + 1 = n := by omega
        have hjd : j < ds.length := by rw [Hn.out]; omega
        have hid : i < ds.length := by rw [Hn.out]; omega
        have gj : (swF i ds).getD j [] = ds.getD j [] := by rw [swF_getD hjd, if_neg (by rw [Hn.out]; omega)]
        have gi : (swF i ds).getD i [] = ds.getD i [] := by rw [swF_getD hid, if_neg (by rw [Hn.out]; omega)]
        have hsj := swF_step (ds := ds) hij (by rw [Hn.out]; exact hjn)
        obtain ⟨dj, hdj⟩ : ∃ d, ds.getD j [] = d := ⟨_, rfl⟩
        obtain ⟨di, hdi⟩ : ∃ d, ds.getD i [] = d := ⟨_, rfl⟩
        have hj32 : dj.length = 32 := by rw [← hdj]; exact H32.out _ (by simp [List.getD, hjd])
        have hi32 : di.length = 32 := by rw [← hdi]; exact H32.out _ (by simp [List.getD, hid])
        rw [hdj, hdi] at hsj
        rw [hdj] at gj
        rw [hdi] at gi
        obtain ⟨L, hL⟩ : ∃ L, swF i ds = L := ⟨_, rfl⟩
        have hL32 : ∀ d ∈ L, d.length = 32 := by rw [← hL]; exact swF_all H32.out
        have hLl : L.length = n := by rw [← hL, swF_length]; exact Hn.out
        rw [hL] at hA gj gi hsj
        obtain ⟨VJ, hVJ⟩ : ∃ V, V = Lib.byteCells (dj) := ⟨_, rfl⟩
        have HVJl := Lib.hid (show VJ.length = 32 by rw [hVJ, Lib.byteCells_length]; exact hj32)
        have HVJi := Lib.hid (show (Try.prog.info? 26).map (·.size) = some VJ.toArray.size by rw [List.size_toArray, HVJl.out]; exact digInfo)
        have HVJ1 := Lib.hid (show VJ.toArray.all (·.oneCell') = true by rw [hVJ]; exact dig_one _)
        have HVJs := Lib.hid (show (Lib.byteCells zeros).toArray.size = VJ.toArray.size by rw [List.size_toArray, List.size_toArray, HVJl.out]; rfl)
        have HVJ := Lib.hid hVJ
        clear hVJ
        obtain ⟨VI, hVI⟩ : ∃ V, V = Lib.byteCells (di) := ⟨_, rfl⟩
        have HVIl := Lib.hid (show VI.length = 32 by rw [hVI, Lib.byteCells_length]; exact hi32)
        have HVIi := Lib.hid (show (Try.prog.info? 26).map (·.size) = some VI.toArray.size by rw [List.size_toArray, HVIl.out]; exact digInfo)
        have HVI1 := Lib.hid (show VI.toArray.all (·.oneCell') = true by rw [hVI]; exact dig_one _)
        have HVIs := Lib.hid (show (Lib.byteCells zeros).toArray.size = VI.toArray.size by rw [List.size_toArray, List.size_toArray, HVIl.out]; rfl)
        have HVI := Lib.hid hVI
        clear hVI
        have HVJz := Lib.hid (show (Try.prog.info? 26).map (·.size) = some VJ.length by rw [HVJl.out]; exact digInfo)
        have HVIz := Lib.hid (show (Try.prog.info? 26).map (·.size) = some VI.length by rw [HVIl.out]; exact digInfo)
        have hcl := digC_length hL32
        have hA' : Arr wr.drew g 26 (digC L ++ rest) := hA.drewN 1
        have hrj : wr.drew.rangeAt g (j * 32) VJ := fun q v hq => by
          rw [HVJ.out] at hq
          have h1 := digC_at hL32 (i := j) (by omega) q v (by rw [gj]; exact hq)
          rw [hA'.cell, List.getElem?_append_left (List.getElem?_eq_some_iff.1 h1).1]
          exact h1
        have hri : wr.drew.rangeAt g (i * 32) VI := fun q v hq => by
          rw [HVI.out] at hq
          have h1 := digC_at hL32 (i := i) (by omega) q v (by rw [gi]; exact hq)
          rw [hA'.cell, List.getElem?_append_left (List.getElem?_eq_some_iff.1 h1).1]
          exact h1
        have hA1 : Arr (wr.drew.setCells g (i * 32) VJ) g 26 (digC (L.set i dj) ++ rest) := by
          have h1 := Arr.setIn VJ (i * 32) _ wr.drew hA' (by rw [HVJl.out, List.length_append, hcl]; omega)
          rw [HVJ.out] at h1 ⊢
          rw [digC_set hL32 rest (by omega) dj hj32] at h1
          exact h1
        have hL32' : ∀ d ∈ L.set i dj, d.length = 32 := fun d hd => by
          rcases List.mem_or_eq_of_mem_set hd with h1 | h1
          · exact hL32 d h1
          · rw [h1]; exact hj32
        have hcl' := digC_length hL32'
        rw [List.length_set] at hcl'
        have hA2 : Arr ((wr.drew.setCells g (i * 32) VJ).setCells g (j * 32) VI) g 26 (digC (swF (i + 1) ds) ++ rest) := by
          have h1 := Arr.setIn VI (j * 32) _ _ hA1 (by rw [HVIl.out, List.length_append, hcl']; omega)
          rw [HVI.out] at h1 ⊢
          rw [digC_set hL32' rest (by rw [List.length_set]; omega) di hi32, hsj] at h1
          exact h1
        have hth1 : wr.drew.there g (i * 32) VJ.length := fun q hq => by
          rw [hA'.cell, hA'.frozen, List.getElem?_eq_getElem (by rw [List.length_append, hcl]; rw [HVJl.out] at hq; omega)]
          exact ⟨rfl, rfl⟩
        have hth2 : (wr.drew.setCells g (i * 32) VJ).there g (j * 32) VI.length := fun q hq => by
          rw [hA1.cell, hA1.frozen, List.getElem?_eq_getElem (by rw [List.length_append, hcl']; rw [HVIl.out] at hq; omega)]
          exact ⟨rfl, rfl⟩
        have hO2 : Only (fun k => k = g) wr ((wr.drew.setCells g (i * 32) VJ).setCells g (j * 32) VI) := Only.setIn (R := fun k => k = g) rfl VI _ _ (Only.setIn (R := fun k => k = g) rfl VJ _ _ ((Only.refl _ wr).drewN 1))
        have hs2 : ((wr.drew.setCells g (i * 32) VJ).setCells g (j * 32) VI).heap.size = w.heap.size := by rw [setCells_size, setCells_size]; exact Hsz.out
        have hii : (i : Int) < (n : Int) := by omega
        have hjj : (j : Int) < (n : Int) := by omega
        clear gj gi hsj hdj hdi hL hcl hcl' hA1 hL32 hL32' hLl hA hA'
        go_wp2_with fail
        refine wp_region_held_drew (S := fun _ => True) (by kernel_rfl) trivial (fun hHeld => ?_)
        refine anyH_take (i := 0) (v := .slice (some ⟨g, 0, none⟩) n c) (some 14) rfl rfl (by kernel_rfl) (by kernel_rfl) (by kernel_rfl) (fun _ _ _ h => h) (Or.inl ⟨by rfl, fun _ hw => by rfl⟩) (by assumption) ?_
        simp only [Act.put, List.setIfInBounds_toArray, List.set_cons_zero, List.set_cons_succ]
        refine anyH_take (i := 1) (v := .int .i64 (i : Nat)) (some 15) rfl rfl (by kernel_rfl) (by kernel_rfl) (by kernel_rfl) (fun _ _ _ h => h) (Or.inl ⟨by rfl, fun _ hw => by rfl⟩) (by assumption) ?_
        simp only [Act.put, List.setIfInBounds_toArray, List.set_cons_zero, List.set_cons_succ]
        refine anyH_take (i := 2) (v := .slice (some ⟨g, 0, none⟩) n c) (some 16) rfl rfl (by kernel_rfl) (by kernel_rfl) (by kernel_rfl) (fun _ _ _ h => h) (Or.inl ⟨by rfl, fun _ hw => by rfl⟩) (by assumption) ?_
        simp only [Act.put, List.setIfInBounds_toArray, List.set_cons_zero, List.set_cons_succ]
        refine anyH_take (i := 3) (v := .int .i64 (j : Nat)) (some 17) rfl rfl (by kernel_rfl) (by kernel_rfl) (by kernel_rfl) (fun _ _ _ h => h) (Or.inl ⟨by rfl, fun _ hw => by rfl⟩) (by assumption) ?_
        simp only [Act.put, List.setIfInBounds_toArray, List.set_cons_zero, List.set_cons_succ]
        refine anyH_take (i := 4) (v := .slice (some ⟨g, 0, none⟩) n c) (some 18) rfl rfl (by kernel_rfl) (by kernel_rfl) (by kernel_rfl) (fun _ _ _ h => h) (Or.inl ⟨by rfl, fun _ hw => by rfl⟩) (by assumption) ?_
        simp only [Act.put, List.setIfInBounds_toArray, List.set_cons_zero, List.set_cons_succ]
        refine anyH_take (i := 5) (v := .int .i64 (j : Nat)) (some 19) rfl rfl (by kernel_rfl) (by kernel_rfl) (by kernel_rfl) (fun _ _ _ h => h) (Or.inl ⟨by rfl, fun _ hw => by rfl⟩) (by assumption) ?_
        simp only [Act.put, List.setIfInBounds_toArray, List.set_cons_zero, List.set_cons_succ]
        refine anyH_take (i := 6) (v := .pointer (some ⟨g, j * 32, none⟩)) (some 20) rfl rfl (by kernel_rfl) (by kernel_rfl) (by kernel_rfl) (fun _ _ _ h => h) (Or.inl ⟨by rfl, fun _ hw => by go_simp⟩) (by assumption) ?_
        simp only [Act.put, List.setIfInBounds_toArray, List.set_cons_zero, List.set_cons_succ]
        refine anyH_take (i := 8) (v := .slice (some ⟨g, 0, none⟩) n c) (some 22) rfl rfl (by kernel_rfl) (by kernel_rfl) (by kernel_rfl) (fun _ _ _ h => h) (Or.inl ⟨by rfl, fun _ hw => by rfl⟩) (by assumption) ?_
        simp only [Act.put, List.setIfInBounds_toArray, List.set_cons_zero, List.set_cons_succ]
        refine anyH_take (i := 9) (v := .int .i64 (i : Nat)) (some 23) rfl rfl (by kernel_rfl) (by kernel_rfl) (by kernel_rfl) (fun _ _ _ h => h) (Or.inl ⟨by rfl, fun _ hw => by rfl⟩) (by assumption) ?_
        simp only [Act.put, List.setIfInBounds_toArray, List.set_cons_zero, List.set_cons_succ]
        refine anyH_take (i := 10) (v := .pointer (some ⟨g, i * 32, none⟩)) (some 24) rfl rfl (by kernel_rfl) (by kernel_rfl) (by kernel_rfl) (fun _ _ _ h => h) (Or.inl ⟨by rfl, fun _ hw => by go_simp⟩) (by assumption) ?_
        simp only [Act.put, List.setIfInBounds_toArray, List.set_cons_zero, List.set_cons_succ]
        refine wpAnyH_ready (rs := [7, 11]) (by kernel_rfl) (by simp) ?_
        refine AllReadyH.cons rfl (fun KC hKC => ?_) (AllReadyH.cons rfl (fun KC hKC => ?_) AllReadyH.nil)
        · rw [if_pos (by rfl)]
          refine wp_load_mid 26 _ rfl g (j * 32) rfl VJ _ hrj Try.underlying26 rfl HVJz.out ?_
          simp only [Act.put, List.setIfInBounds_toArray, List.set_cons_zero, List.set_cons_succ]
          refine hKC.out _ _ trivial (fun hHeld8 => ?_)
          clear hKC KC
          try simp only [Act.put, List.setIfInBounds_toArray, List.set_cons_zero, List.set_cons_succ]
          refine wpAnyH_ready (rs := [11]) (by kernel_rfl) (by simp) ?_
          refine AllReadyH.cons rfl (fun KC hKC => ?_) AllReadyH.nil
          rw [if_pos (by rfl)]
          refine wp_load_mid 26 _ rfl g (i * 32) rfl VI _ hri Try.underlying26 rfl HVIz.out ?_
          simp only [Act.put, List.setIfInBounds_toArray, List.set_cons_zero, List.set_cons_succ]
          refine hKC.out _ _ trivial (fun hHeld9 => ?_)
          clear hKC KC
          try simp only [Act.put, List.setIfInBounds_toArray, List.set_cons_zero, List.set_cons_succ]
          refine anyH_take (i := 12) (v := .pointer (some ⟨g, i * 32, none⟩)) (some 26) rfl rfl (by kernel_rfl) (by kernel_rfl) (by kernel_rfl) (fun _ _ _ h => h) (Or.inl ⟨by rfl, fun _ hw => by go_simp⟩) (by assumption) ?_
          simp only [Act.put, List.setIfInBounds_toArray, List.set_cons_zero, List.set_cons_succ]
          refine wpAnyH_ready (rs := [13]) (by kernel_rfl) (by simp) ?_
          refine AllReadyH.cons rfl (fun KC hKC => ?_) AllReadyH.nil
          rw [if_pos (by rfl)]
          refine wp_store_mid 26 _ _ rfl g (i * 32) VJ.toArray rfl rfl (by rw [List.size_toArray]; exact hth1) HVJi.out HVJ1.out ?_
          refine hKC.out _ _ trivial (fun hHeld10 => ?_)
          clear hKC KC
          try simp only [Act.put, List.setIfInBounds_toArray, List.set_cons_zero, List.set_cons_succ]
          refine anyH_take (i := 14) (v := .pointer (some ⟨g, j * 32, none⟩)) (some 27) rfl rfl (by kernel_rfl) (by kernel_rfl) (by kernel_rfl) (fun _ _ _ h => h) (Or.inl ⟨by rfl, fun _ hw => by go_simp⟩) (by assumption) ?_
          simp only [Act.put, List.setIfInBounds_toArray, List.set_cons_zero, List.set_cons_succ]
          refine wpAnyH_ready (rs := [15]) (by kernel_rfl) (by simp) ?_
          refine AllReadyH.cons rfl (fun KC hKC => ?_) AllReadyH.nil
          rw [if_pos (by rfl)]
          refine wp_store_mid 26 _ _ rfl g (j * 32) VI.toArray rfl rfl (by rw [List.size_toArray]; exact hth2) HVIi.out HVI1.out ?_
          refine hKC.out _ _ trivial (fun hHeld11 => ?_)
          clear hKC KC
          try simp only [Act.put, List.setIfInBounds_toArray, List.set_cons_zero, List.set_cons_succ]
          refine wpAnyH_done (by kernel_rfl) ?_ _
          clear hHeld
          try rw [show VJ.toArray.toList = VJ from rfl]
          try rw [show VI.toArray.toList = VI from rfl]
          obtain ⟨w2, hw2⟩ : ∃ x, x = (wr.drew.setCells g (i * 32) VJ).setCells g (j * 32) VI := ⟨_, rfl⟩
          rw [← hw2] at hA2 hO2 hs2 ⊢
          clear hw2 hri hrj hth1 hth2
          go_wp2_with fail
          go_roundw
          case rel => exact ⟨i + 1, (j : Int) - 1, by omega, by omega, by go_num, rfl, hA2, hO.trans hO2, hs2⟩
          case measure => simp [intOf]; omega
        · rw [if_pos (by rfl)]
          refine wp_load_mid 26 _ rfl g (i * 32) rfl VI _ hri Try.underlying26 rfl HVIz.out ?_
          simp only [Act.put, List.setIfInBounds_toArray, List.set_cons_zero, List.set_cons_succ]
          refine hKC.out _ _ trivial (fun hHeld12 => ?_)
          clear hKC KC
          try simp only [Act.put, List.setIfInBounds_toArray, List.set_cons_zero, List.set_cons_succ]
          refine wpAnyH_ready (rs := [7]) (by kernel_rfl) (by simp) ?_
          refine AllReadyH.cons rfl (fun KC hKC => ?_) AllReadyH.nil
          rw [if_pos (by rfl)]
          refine wp_load_mid 26 _ rfl g (j * 32) rfl VJ _ hrj Try.underlying26 rfl HVJz.out ?_
          simp only [Act.put, List.setIfInBounds_toArray, List.set_cons_zero, List.set_cons_succ]
          refine hKC.out _ _ trivial (fun hHeld13 => ?_)
          clear hKC KC
          try simp only [Act.put, List.setIfInBounds_toArray, List.set_cons_zero, List.set_cons_succ]
          refine anyH_take (i := 12) (v := .pointer (some ⟨g, i * 32, none⟩)) (some 26) rfl rfl (by kernel_rfl) (by kernel_rfl) (by kernel_rfl) (fun _ _ _ h => h) (Or.inl ⟨by rfl, fun _ hw => by go_simp⟩) (by assumption) ?_
          simp only [Act.put, List.setIfInBounds_toArray, List.set_cons_zero, List.set_cons_succ]
          refine wpAnyH_ready (rs := [13]) (by kernel_rfl) (by simp) ?_
          refine AllReadyH.cons rfl (fun KC hKC => ?_) AllReadyH.nil
          rw [if_pos (by rfl)]
          refine wp_store_mid 26 _ _ rfl g (i * 32) VJ.toArray rfl rfl (by rw [List.size_toArray]; exact hth1) HVJi.out HVJ1.out ?_
          refine hKC.out _ _ trivial (fun hHeld14 => ?_)
          clear hKC KC
          try simp only [Act.put, List.setIfInBounds_toArray, List.set_cons_zero, List.set_cons_succ]
          refine anyH_take (i := 14) (v := .pointer (some ⟨g, j * 32, none⟩)) (some 27) rfl rfl (by kernel_rfl) (by kernel_rfl) (by kernel_rfl) (fun _ _ _ h => h) (Or.inl ⟨by rfl, fun _ hw => by go_simp⟩) (by assumption) ?_
          simp only [Act.put, List.setIfInBounds_toArray, List.set_cons_zero, List.set_cons_succ]
          refine wpAnyH_ready (rs := [15]) (by kernel_rfl) (by simp) ?_
          refine AllReadyH.cons rfl (fun KC hKC => ?_) AllReadyH.nil
          rw [if_pos (by rfl)]
          refine wp_store_mid 26 _ _ rfl g (j * 32) VI.toArray rfl rfl (by rw [List.size_toArray]; exact hth2) HVIi.out HVI1.out ?_
          refine hKC.out _ _ trivial (fun hHeld15 => ?_)
          clear hKC KC
          try simp only [Act.put, List.setIfInBounds_toArray, List.set_cons_zero, List.set_cons_succ]
          refine wpAnyH_done (by kernel_rfl) ?_ _
          clear hHeld
          try rw [show VJ.toArray.toList = VJ from rfl]
          try rw [show VI.toArray.toList = VI from rfl]
          obtain ⟨w2, hw2⟩ : ∃ x, x = (wr.drew.setCells g (i * 32) VJ).setCells g (j * 32) VI := ⟨_, rfl⟩
          rw [← hw2] at hA2 hO2 hs2 ⊢
          clear hw2 hri hrj hth1 hth2
          go_wp2_with fail
          go_roundw
          case rel => exact ⟨i + 1, (j : Int) - 1, by omega, by omega, by go_num, rfl, hA2, hO.trans hO2, hs2⟩
          case measure => simp [intOf]; omega
      · have hd : decide ((i : Int) < z) = false := decide_eq_false hlt
        have hr := swF_done (k := i) (ds := ds) (by rw [Hn.out]; omega)
        rw [hr] at hA
        have hD := Lib.hid (Hfin.out wr hA)
        have hO' : Only (fun k => (Value.slice (some ⟨g, 0, none⟩) n c).ownBlock = some k) w wr := hO.more fun k _ e => by rw [e]; rfl
        have HO' := Lib.hid hO'
        clear hr hO' hA
        go_wp2_with fail
        go_end0
        exact ⟨rfl, hD.out, HO'.out, Hsz.out⟩

end Go.Proofs.Ytkpgbgiamekhaab

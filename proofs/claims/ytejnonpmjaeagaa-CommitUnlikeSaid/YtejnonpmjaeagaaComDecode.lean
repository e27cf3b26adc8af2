/-
  The commit of bytes.
-/
import Derived.Test.YtejnonpmjaeagaaComTakeB
import Derived.Test.YtejnonpmjaeagaaComTakeE
namespace Go.Proofs.Ytejnonpmjaeagaa
open Go.RowKit
set_option linter.unusedVariables false
set_option linter.unusedSimpArgs false


def comZ : List Value := comV 0 refZ refZ refZ (.slice none 0 0) (Lib.byteCells zeros) (.slice none 0 0)
theorem comZero (w : World) : (zeroValue 30).run Try.prog w = .ok (.agg comZ.toArray) w := by kernel_rfl
theorem com_built0 : Try.prog.built 30 [] = some comZ.toArray := by kernel_rfl
theorem com_built1 (ep : Int) : Try.prog.built 30 [(0, .int .u64 ep)] = some (Value.int .u64 ep :: comZ.drop 1).toArray := by kernel_rfl
theorem comZ_length : comZ.length = 137 := by rfl
theorem comV_one {ep : Nat} {R1 R2 R3 SL : List Value} {bv ev : Value} (h1 : ∀ v ∈ R1, v.oneCell' = true) (h2 : ∀ v ∈ R2, v.oneCell' = true) (h3 : ∀ v ∈ R3, v.oneCell' = true) (hs : ∀ v ∈ SL, v.oneCell' = true) (hb : bv.oneCell' = true) (he : ev.oneCell' = true) : ∀ v ∈ comV ep R1 R2 R3 bv SL ev, v.oneCell' = true := by
  intro v hv
  simp only [comV, List.mem_cons, List.mem_append, List.not_mem_nil, or_false] at hv
  rcases hv with rfl | hv | hv | hv | rfl | hv | rfl
  · rfl
  · exact h1 v hv
  · exact h2 v hv
  · exact h3 v hv
  · exact hb
  · exact hs v hv
  · exact he
theorem mid_set {pre old new post : List Value} {k n : Nat} (hk : pre.length = k) (ho : old.length = n) (hn : new.length = n) : (pre ++ (old ++ post)).take k ++ (new ++ (pre ++ (old ++ post)).drop (k + new.length)) = pre ++ (new ++ post) := by
  subst hk
  rw [List.take_left, hn, ← ho, ← List.append_assoc pre old post, ← List.length_append, List.drop_left]
theorem one_set {pre post : List Value} {k : Nat} {x y : Value} (hk : pre.length = k) : (pre ++ (x :: post)).set k y = pre ++ (y :: post) := by
  subst hk
  rw [List.set_append_right _ _ (Nat.le_refl _), Nat.sub_self]
  rfl
theorem comV_set1 {ep : Nat} {R1 R2 R3 SL X : List Value} {bv ev : Value} (h1 : R1.length = 34) (hX : X.length = 34) : (comV ep R1 R2 R3 bv SL ev).take 1 ++ (X ++ (comV ep R1 R2 R3 bv SL ev).drop (1 + X.length)) = comV ep X R2 R3 bv SL ev :=
  mid_set (pre := [.int .u64 (ep : Nat)]) (post := R2 ++ (R3 ++ (bv :: (SL ++ [ev])))) rfl h1 hX
theorem comV_set2 {ep : Nat} {R1 R2 R3 SL X : List Value} {bv ev : Value} (h1 : R1.length = 34) (h2 : R2.length = 34) (hX : X.length = 34) : (comV ep R1 R2 R3 bv SL ev).take 35 ++ (X ++ (comV ep R1 R2 R3 bv SL ev).drop (35 + X.length)) = comV ep R1 X R3 bv SL ev := by
  have := mid_set (pre := .int .u64 (ep : Nat) :: R1) (old := R2) (new := X) (post := R3 ++ (bv :: (SL ++ [ev]))) (k := 35) (by simp [h1]) h2 hX
  simpa [comV] using this
theorem comV_set3 {ep : Nat} {R1 R2 R3 SL X : List Value} {bv ev : Value} (h1 : R1.length = 34) (h2 : R2.length = 34) (h3 : R3.length = 34) (hX : X.length = 34) : (comV ep R1 R2 R3 bv SL ev).take 69 ++ (X ++ (comV ep R1 R2 R3 bv SL ev).drop (69 + X.length)) = comV ep R1 R2 X bv SL ev := by
  have := mid_set (pre := .int .u64 (ep : Nat) :: (R1 ++ R2)) (old := R3) (new := X) (post := bv :: (SL ++ [ev])) (k := 69) (by simp [h1, h2]) h3 hX
  simpa [comV] using this
theorem comV_setS {ep : Nat} {R1 R2 R3 SL X : List Value} {bv ev : Value} (h1 : R1.length = 34) (h2 : R2.length = 34) (h3 : R3.length = 34) (hs : SL.length = 32) (hX : X.length = 32) : (comV ep R1 R2 R3 bv SL ev).take 104 ++ (X ++ (comV ep R1 R2 R3 bv SL ev).drop (104 + X.length)) = comV ep R1 R2 R3 bv X ev := by
  have := mid_set (pre := .int .u64 (ep : Nat) :: (R1 ++ (R2 ++ (R3 ++ [bv])))) (old := SL) (new := X) (post := [ev]) (k := 104) (by simp [h1, h2, h3]) hs hX
  simpa [comV] using this
theorem comV_setB {ep : Nat} {R1 R2 R3 SL : List Value} {bv ev y : Value} (h1 : R1.length = 34) (h2 : R2.length = 34) (h3 : R3.length = 34) : (comV ep R1 R2 R3 bv SL ev).set 103 y = comV ep R1 R2 R3 y SL ev := by
  have := one_set (pre := .int .u64 (ep : Nat) :: (R1 ++ (R2 ++ R3))) (x := bv) (y := y) (post := SL ++ [ev]) (k := 103) (by simp [h1, h2, h3])
  simpa [comV] using this
theorem comV_setE {ep : Nat} {R1 R2 R3 SL : List Value} {bv ev y : Value} (h1 : R1.length = 34) (h2 : R2.length = 34) (h3 : R3.length = 34) (hs : SL.length = 32) : (comV ep R1 R2 R3 bv SL ev).set 136 y = comV ep R1 R2 R3 bv SL y := by
  have := one_set (pre := .int .u64 (ep : Nat) :: (R1 ++ (R2 ++ (R3 ++ (bv :: SL))))) (x := ev) (y := y) (post := []) (k := 136) (by simp [h1, h2, h3, hs])
  simpa [comV] using this
/-- Bytes that are a commit's. -/
def Good (b : List UInt8) : Prop := b.length ≤ 65536 ∧ dS6 b = ([], false) ∧ ∃ c, IsDec b c ∧ 0 < c.ep ∧ RiseB c.bins
/-- What is known of a commit without its memory. -/
structure CxW (x : Cx) : Prop where
  ep : x.c.ep < 18446744073709551616
  r1 : RefW x.c.r1
  r2 : RefW x.c.r2
  r3 : RefW x.c.r3
  bw : ∀ b ∈ x.c.bins, BinW b
  st : x.c.st.length = 32
  lb : x.c.bins.length ≤ x.cb
  mb : x.cb ≤ maxLen
  le : x.c.evs.length ≤ x.ce
  me : x.ce ≤ maxLen
theorem CxW.length {x : Cx} (h : CxW x) : (comC x).length = 137 := comV_length (rC_length h.r1) (rC_length h.r2) (rC_length h.r3) (by rw [Lib.byteCells_length, h.st])
def DecPost (b : List UInt8) (w : World) (e : Ending) (w' : World) : Prop :=
  Below w.heap.size w w' ∧ ((∃ x, e = .returned (.tuple #[.agg (comC x).toArray, .int .i64 0]) ∧ CxW x ∧ IsDec b x.c ∧ Good b) ∨ (e = .returned (.tuple #[.agg comZ.toArray, .int .i64 3]) ∧ ¬ Good b))
/-- From w to w' of all that was there blocks p and g alone have turned. -/
def Two (B : Nat) (w0 w : World) : Prop := Below B w0 w
theorem Arr.turn {w w' : World} {g p : Nat} {T : TypeId} {cs : List Value} (h : Arr w g T cs) (ht : Turn p w w') (hne : g ≠ p) : Arr w' g T cs := (ht.block g h.lt (fun e => hne (by injection e))).trans h
theorem Turn.belowC {p B : Nat} {w w' : World} (ht : Turn p w w') (hB : B ≤ w.heap.size) (hp : B ≤ p) : Below B w w' := ⟨ht.os, ht.tape, ht.output, ht.size, fun i hi => ht.block i (by omega) (fun e => by injection e; omega)⟩

set_option maxHeartbeats 16000000 in
set_option maxRecDepth 100000 in
theorem dec_any (A : Option Addr) (n c : Nat) (b : List UInt8) (hn : b.length = n) (hc : n ≤ c) (hm : c ≤ maxLen) (w : World) (hb : Bs w w.heap.size A b) :
    Calls Try.prog 12 #[.slice A n c] w (DecPost b w) := by
  have hm' : c ≤ 9223372036854775807 := by unfold maxLen at hm; omega
  obtain ⟨ZL, hZL⟩ : ∃ z, z = comZ := ⟨_, rfl⟩
  have HZ := Lib.hid (fun w : World => show (zeroValue 30).run Try.prog w = .ok (.agg ZL.toArray) w by rw [hZL]; exact comZero w)
  have HZb := Lib.hid (show Try.prog.built 30 [] = some ZL.toArray by rw [hZL]; exact com_built0)
  have HZi := Lib.hid (show (Try.prog.info? 30).map (·.size) = some ZL.toArray.size by rw [hZL]; exact comSize)
  have HZ1 := Lib.hid (show ZL.toArray.all (·.oneCell') = true by rw [hZL]; exact all_oneC (comV_one (refC_cell _ _ _) (refC_cell _ _ _) (refC_cell _ _ _) (byteCells_one _) rfl rfl))
  have HZL := Lib.hid hZL
  obtain ⟨W1, hW1⟩ : ∃ z, z = w.alloc (.cells ZL.toArray 30) := ⟨_, rfl⟩
  have hR1 : Arr W1 w.heap.size 30 ZL := by rw [hW1]; exact Arr.new w _ _
  have hb0 : Below w.heap.size w W1 := by rw [hW1]; exact (Below.refl _ w).alloc (Nat.le_refl _) _
  have hsz : W1.heap.size = w.heap.size + 1 := by rw [hW1]; simp
  have HW1 := Lib.hid hW1
  have Hbs := Lib.hid (hb.below hb0 (Nat.le_refl _))
  have Hn := Lib.hid hn
  clear hZL hW1 hb hn
  go_enter Try.func12, Try.ntmps12
  go_upto_region 1 with (first | (refine wpList_allocZC rfl 30 rfl ZL.toArray (HZ.out _) ?_; rw [← HW1.out]))
  clear HW1
  by_cases hbig : 65536 < n
  · have hq : decide ((65536 : Int) < (n : Int)) = true := by simp; omega
    have Hno := Lib.hid (show ¬ Good b from fun h => by have := h.1; rw [Hn.out] at this; omega)
    have hset : (W1.setRow w.heap.size ZL.toArray).heap[w.heap.size]? = some (.cells ZL.toArray 30 (0, 0)) := hR1.setRow ZL
    have hbe : Below w.heap.size w (W1.setRow w.heap.size ZL.toArray) := hb0.trans (((Only.refl (fun k => k = w.heap.size) W1).setRow (.inl rfl) _).below (by omega) (by rintro k rfl; omega))
    have Hset := Lib.hid hset
    have Hbe := Lib.hid hbe
    clear hbig hset hbe
    go_wp2_with (first | (refine wpList_builtD rfl _ _ rfl [] rfl ZL.toArray HZb.out ?_) | (refine wpList_store_row rfl _ _ _ rfl w.heap.size ZL.toArray rfl rfl 30 ZL.toArray hR1 HZi.out rfl HZ1.out ?_))
    (try simp only [Exit.inBlock, Exit.then])
    obtain ⟨V, hV⟩ : ∃ V, V = Value.tuple #[.agg ZL.toArray, .int .i64 3] := ⟨_, rfl⟩
    refine bodyPost_ret (v := V) ?hx1 ?h2 ?h3
    case hx1 => rw [hV]; exact results_cell2 (fn := Try.f12) (by rfl) _ _ w.heap.size 30 ZL.toArray (0, 0) _ (by rfl) _ (by rfl) Hset.out Try.underlying30 rfl HZi.out
    case h2 => rfl
    case h3 => exact ⟨Hbe.out, .inr ⟨by rw [hV, HZL.out], Hno.out⟩⟩
  have hq : decide ((65536 : Int) < (n : Int)) = false := by simp; omega
  have Hsm := Lib.hid (show b.length ≤ 65536 by rw [Hn.out]; omega)
  clear hbig
  go_wp2_with fail
  have hfrom := from_any w.heap.size A c b W1 Hbs.out (by have := Hsm.out; omega)
  rw [Hn.out] at hfrom
  refine Calls.mono hfrom ?_
  rintro e w2 ⟨p, rfl, hp2, hP2, hb2⟩
  have hR2 := hR1.up hb2
  have hb2w := hb0.trans (hb2.mono hb0.size)
  have hpg : w.heap.size < p := by omega
  have hP2' : PIn w2 p ((b, false) : St).1 ((b, false) : St).2 := hP2
  have hp2s := hP2.lt
  clear hfrom hb2 hR1 hb0 hsz Hbs hP2
  go_wp2_with fail
  refine Calls.mono (number_fl p 18446744073709551615 (b, false) w2 hP2' (by omega)) ?_
  rintro e w3 ⟨rfl, hP3, ht3⟩
  have hP3' : PIn w3 p (dS0 b).1 (dS0 b).2 := hP3
  obtain ⟨ep, hep⟩ : ∃ z, (numS 18446744073709551615 (b, false)).1 = z := ⟨_, rfl⟩
  have hepl : ep < 18446744073709551616 := by rw [← hep]; have := numS_le 18446744073709551615 (b, false); omega
  rw [hep]
  have hR3 := hR2.turn ht3 (by omega)
  have hb3w := hb2w.trans (ht3.belowC hb2w.size (by omega))
  have Hep := Lib.hid hep
  have hbs3 := hb3w.size
  obtain ⟨C0, hC0⟩ : ∃ z, z = comV ep refZ refZ refZ (.slice none 0 0) (Lib.byteCells zeros) (.slice none 0 0) := ⟨_, rfl⟩
  have HC0b := Lib.hid (show Try.prog.built 30 [(0, .int .u64 (ep : Nat))] = some C0.toArray by rw [hC0]; exact com_built1 ep)
  have HC0l := Lib.hid (show C0.length = 137 by rw [hC0]; exact comV_length rfl rfl rfl rfl)
  have HC0i := Lib.hid (show (Try.prog.info? 30).map (·.size) = some C0.toArray.size by rw [List.size_toArray, HC0l.out]; exact comSize)
  have HC0z := Lib.hid (show ZL.toArray.size = C0.toArray.size by rw [List.size_toArray, List.size_toArray, HC0l.out, HZL.out]; rfl)
  have HC01 := Lib.hid (show C0.toArray.all (·.oneCell') = true by
    rw [hC0]
    exact all_oneC (comV_one (refC_cell _ _ _) (refC_cell _ _ _) (refC_cell _ _ _) (byteCells_one _) rfl rfl))
  obtain ⟨w4, hw4⟩ : ∃ W, W = (w3.alloc (.cells ZL.toArray 30)).setRow w3.heap.size C0.toArray := ⟨_, rfl⟩
  obtain ⟨hX4, hb4⟩ := alloc_row w3 30 ZL.toArray C0
  rw [← hw4] at hX4 hb4
  obtain ⟨g, hg⟩ : ∃ z, z = w3.heap.size := ⟨_, rfl⟩
  have hpg3 : p < w3.heap.size := hP3'.lt
  have hP4 : PIn w4 p (dS0 b).1 (dS0 b).2 := hP3'.lowN ⟨hb4.size, fun i hi => hb4.block i (by omega)⟩
  have hR4 := hR3.up hb4
  have hb4w := hb3w.trans (hb4.mono hb3w.size)
  have Hw4 := Lib.hid hw4
  rw [hC0] at hX4
  have hgl := hX4.lt
  have HP4 := Lib.hid hP4
  clear hP2' hP3 hP3' ht3 hR2 hR3 hb2w hb3w hep hC0 hw4 hb4 hP4
  go_upto_region 5 with (first
    | (refine wpList_builtD rfl _ _ rfl _ rfl C0.toArray HC0b.out ?_)
    | (refine wpList_allocZC rfl 30 rfl ZL.toArray (HZ.out _) ?_)
    | (refine wpList_store_row rfl _ _ _ rfl w3.heap.size C0.toArray rfl rfl 30 ZL.toArray (heap_alloc_new w3 _) HC0i.out HC0z.out HC01.out ?_; rw [← Hw4.out]))
  rw [← hg] at hX4 hgl ⊢
  have hgp : p < g := by omega
  clear hg Hw4
  obtain ⟨T1, hT1⟩ : ∃ z, z = rC (refS (dS0 b)).1 := ⟨_, rfl⟩
  have l1 : T1.length = 34 := by rw [hT1]; exact rC_length (refS_w _)
  have HTi1 := Lib.hid (show (Try.prog.info? 26).map (·.size) = some T1.toArray.size by rw [List.size_toArray, l1]; exact refSize)
  have HT11 := Lib.hid (show T1.toArray.all (·.oneCell') = true by rw [hT1]; exact all_oneC (rC_one _))
  have HT1 := Lib.hid hT1
  have Hl1 := Lib.hid l1
  clear hT1 l1
  go_wp2_with fail
  refine Calls.mono (btake_fl (dS0 b) p w4 HP4.out T1 HT1.out) ?_
  rintro e w5 ⟨rfl, hP5, ht5⟩
  have hP5' : PIn w5 p (dS1 b).1 (dS1 b).2 := by rw [dS1]; exact hP5
  have hX5 := hX4.turn ht5 (by omega)
  have hR5 := hR4.turn ht5 (by omega)
  have hbs5 := hb4w.size
  have hb5w := hb4w.trans (ht5.belowC hbs5 (by omega))
  have hth5 : w5.there g 1 T1.toArray.size := there_of_arr hX5 (by rw [comV_length rfl rfl rfl rfl, List.size_toArray, Hl1.out]; omega)
  have hXc := Arr.setIn T1 1 _ w5 hX5 (by rw [comV_length rfl rfl rfl rfl, Hl1.out]; omega)
  rw [comV_set1 rfl Hl1.out] at hXc
  have hOc : Only (fun k => k = g) w5 (w5.setCells g 1 T1) := Only.setIn (R := fun k => k = g) rfl T1 1 w5 (Only.refl _ _)
  obtain ⟨w6, hw6⟩ : ∃ z, z = w5.setCells g 1 T1 := ⟨_, rfl⟩
  rw [← hw6] at hXc hOc
  have hX6 := hXc
  have hP6 : PIn w6 p (dS1 b).1 (dS1 b).2 := hP5'.lowN ⟨hOc.size, fun k hk => hOc.block k (by have := hP5'.lt; omega) (by omega)⟩
  have hR6 : Arr w6 w.heap.size 30 ZL := hR5.only hOc (by omega)
  have hb6w := hb5w.trans (hOc.below hb5w.size (by rintro k rfl; omega))
  have HP6 := Lib.hid hP6
  have Hw6 := Lib.hid hw6
  have Hth5 := Lib.hid hth5
  have hgl6 := hX6.lt
  clear hXc hOc hP5 hP5' ht5 hX4 hX5 hR4 hR5 hb4w hb5w hP6 hw6 hth5 HP4
  go_upto_region 6 with (first | (refine wpList_store_mid rfl 26 _ _ rfl g 1 T1.toArray rfl rfl Hth5.out HTi1.out HT11.out ?_; rw [show T1.toArray.toList = T1 from rfl, ← Hw6.out]))
  clear Hw6 Hth5
  obtain ⟨T2, hT2⟩ : ∃ z, z = rC (refS (dS1 b)).1 := ⟨_, rfl⟩
  have l2 : T2.length = 34 := by rw [hT2]; exact rC_length (refS_w _)
  have HTi2 := Lib.hid (show (Try.prog.info? 26).map (·.size) = some T2.toArray.size by rw [List.size_toArray, l2]; exact refSize)
  have HT12 := Lib.hid (show T2.toArray.all (·.oneCell') = true by rw [hT2]; exact all_oneC (rC_one _))
  have HT2 := Lib.hid hT2
  have Hl2 := Lib.hid l2
  clear hT2 l2
  go_wp2_with fail
  refine Calls.mono (btake_fl (dS1 b) p w6 HP6.out T2 HT2.out) ?_
  rintro e w7 ⟨rfl, hP7, ht7⟩
  have hP7' : PIn w7 p (dS2 b).1 (dS2 b).2 := by rw [dS2]; exact hP7
  have hX7 := hX6.turn ht7 (by omega)
  have hR7 := hR6.turn ht7 (by omega)
  have hbs7 := hb6w.size
  have hb7w := hb6w.trans (ht7.belowC hbs7 (by omega))
  have hth7 : w7.there g 35 T2.toArray.size := there_of_arr hX7 (by rw [comV_length Hl1.out rfl rfl rfl, List.size_toArray, Hl2.out]; omega)
  have hXc := Arr.setIn T2 35 _ w7 hX7 (by rw [comV_length Hl1.out rfl rfl rfl, Hl2.out]; omega)
  rw [comV_set2 Hl1.out rfl Hl2.out] at hXc
  have hOc : Only (fun k => k = g) w7 (w7.setCells g 35 T2) := Only.setIn (R := fun k => k = g) rfl T2 35 w7 (Only.refl _ _)
  obtain ⟨w8, hw8⟩ : ∃ z, z = w7.setCells g 35 T2 := ⟨_, rfl⟩
  rw [← hw8] at hXc hOc
  have hX8 := hXc
  have hP8 : PIn w8 p (dS2 b).1 (dS2 b).2 := hP7'.lowN ⟨hOc.size, fun k hk => hOc.block k (by have := hP7'.lt; omega) (by omega)⟩
  have hR8 : Arr w8 w.heap.size 30 ZL := hR7.only hOc (by omega)
  have hb8w := hb7w.trans (hOc.below hb7w.size (by rintro k rfl; omega))
  have HP8 := Lib.hid hP8
  have Hw8 := Lib.hid hw8
  have Hth7 := Lib.hid hth7
  have hgl8 := hX8.lt
  clear hXc hOc hP7 hP7' ht7 hX6 hX7 hR6 hR7 hb6w hb7w hP8 hw8 hth7 HP6
  go_upto_region 7 with (first | (refine wpList_store_mid rfl 26 _ _ rfl g 35 T2.toArray rfl rfl Hth7.out HTi2.out HT12.out ?_; rw [show T2.toArray.toList = T2 from rfl, ← Hw8.out]))
  clear Hw8 Hth7
  obtain ⟨T3, hT3⟩ : ∃ z, z = rC (refS (dS2 b)).1 := ⟨_, rfl⟩
  have l3 : T3.length = 34 := by rw [hT3]; exact rC_length (refS_w _)
  have HTi3 := Lib.hid (show (Try.prog.info? 26).map (·.size) = some T3.toArray.size by rw [List.size_toArray, l3]; exact refSize)
  have HT13 := Lib.hid (show T3.toArray.all (·.oneCell') = true by rw [hT3]; exact all_oneC (rC_one _))
  have HT3 := Lib.hid hT3
  have Hl3 := Lib.hid l3
  clear hT3 l3
  go_wp2_with fail
  refine Calls.mono (btake_fl (dS2 b) p w8 HP8.out T3 HT3.out) ?_
  rintro e w9 ⟨rfl, hP9, ht9⟩
  have hP9' : PIn w9 p (dS3 b).1 (dS3 b).2 := by rw [dS3]; exact hP9
  have hX9 := hX8.turn ht9 (by omega)
  have hR9 := hR8.turn ht9 (by omega)
  have hbs9 := hb8w.size
  have hb9w := hb8w.trans (ht9.belowC hbs9 (by omega))
  have hth9 : w9.there g 69 T3.toArray.size := there_of_arr hX9 (by rw [comV_length Hl1.out Hl2.out rfl rfl, List.size_toArray, Hl3.out]; omega)
  have hXc := Arr.setIn T3 69 _ w9 hX9 (by rw [comV_length Hl1.out Hl2.out rfl rfl, Hl3.out]; omega)
  rw [comV_set3 Hl1.out Hl2.out rfl Hl3.out] at hXc
  have hOc : Only (fun k => k = g) w9 (w9.setCells g 69 T3) := Only.setIn (R := fun k => k = g) rfl T3 69 w9 (Only.refl _ _)
  obtain ⟨w10, hw10⟩ : ∃ z, z = w9.setCells g 69 T3 := ⟨_, rfl⟩
  rw [← hw10] at hXc hOc
  have hX10 := hXc
  have hP10 : PIn w10 p (dS3 b).1 (dS3 b).2 := hP9'.lowN ⟨hOc.size, fun k hk => hOc.block k (by have := hP9'.lt; omega) (by omega)⟩
  have hR10 : Arr w10 w.heap.size 30 ZL := hR9.only hOc (by omega)
  have hb10w := hb9w.trans (hOc.below hb9w.size (by rintro k rfl; omega))
  have HP10 := Lib.hid hP10
  have Hw10 := Lib.hid hw10
  have Hth9 := Lib.hid hth9
  have hgl10 := hX10.lt
  clear hXc hOc hP9 hP9' ht9 hX8 hX9 hR8 hR9 hb8w hb9w hP10 hw10 hth9 HP8
  go_upto_region 8 with (first | (refine wpList_store_mid rfl 26 _ _ rfl g 69 T3.toArray rfl rfl Hth9.out HTi3.out HT13.out ?_; rw [show T3.toArray.toList = T3 from rfl, ← Hw10.out]))
  clear Hw10 Hth9
  have hlens := Lib.hid (show T1.length = 34 ∧ T2.length = 34 ∧ T3.length = 34 from ⟨Hl1.out, Hl2.out, Hl3.out⟩)
  go_wp2_with fail
  refine Calls.mono (tnrow_any p (dS3 b) w10 HP10.out) ?_
  rintro e w11 ⟨v11, rfl, hB11, hP11, ht11⟩
  have hP11' : PIn w11 p (dS4 b).1 (dS4 b).2 := by rw [dS4]; exact hP11
  have hX11 := hX10.turn ht11 (by omega)
  have hR11 := hR10.turn ht11 (by omega)
  have hbs11 := hb10w.size
  have hb11w := hb10w.trans (ht11.belowC hbs11 (by omega))
  have h1011 := ht11.size
  obtain ⟨Ab, cb, rfl, hbc, hbm, _⟩ := hB11.slice
  obtain ⟨cc, hcc⟩ := isDec b
  rw [hcc.bins] at hB11 hbc ⊢
  obtain ⟨nb, hnb⟩ : ∃ z, cc.bins.length = z := ⟨_, rfl⟩
  rw [hnb] at hB11 hbc ⊢
  have hc11 : w11.cell? ⟨g, 103, none⟩ = some (.slice none 0 0) := (Arr.com hX11 Hl1.out Hl2.out Hl3.out rfl).bins
  have hf11 : w11.frozen? ⟨g, 103, none⟩ = false := hX11.frozen 103
  have hX12 := hX11.set 103 (.slice Ab nb cb)
  rw [comV_setB Hl1.out Hl2.out Hl3.out] at hX12
  have hO12 : Only (fun k => k = g) w11 (w11.setCell ⟨g, 103, none⟩ (.slice Ab nb cb)) := Only.setCell (R := fun k => k = g) (Only.refl _ _) (.inl rfl) _
  obtain ⟨w12, hw12⟩ : ∃ z, z = w11.setCell ⟨g, 103, none⟩ (.slice Ab nb cb) := ⟨_, rfl⟩
  have Hw12 := Lib.hid hw12
  rw [← hw12] at hX12 hO12
  have hP12 : PIn w12 p (dS4 b).1 (dS4 b).2 := hP11'.lowN ⟨hO12.size, fun k hk => hO12.block k (by have := hP11'.lt; omega) (by omega)⟩
  have hR12 : Arr w12 w.heap.size 30 ZL := hR11.only hO12 (by omega)
  have hb12w := hb11w.trans (hO12.below hb11w.size (by rintro k rfl; omega))
  have hB12 : BRow w12 w10.heap.size (.slice Ab nb cb) cc.bins := by
    have hlt := hB11.lt
    have h10g : g < w10.heap.size := hgl10
    exact ⟨hB11.1, World.ownsRow.kept (row := some g) hB11.2 ⟨hO12.os, hO12.tape, hO12.output, hO12.size, fun k hk hn => hO12.block k hk (fun e => hn (by rw [e]))⟩ (.inr fun e => by have := (hlt g e).1; omega)⟩
  have HB12 := Lib.hid hB12
  have HP12 := Lib.hid hP12
  have Hcc := Lib.hid hcc
  have Hnb := Lib.hid hnb
  have h1112 := hO12.size
  have Hgl10 := Lib.hid hgl10
  clear hP11 hP11' ht11 hX10 hR10 hb10w hB11 hX11 hR11 hb11w hO12 hw12 hP12 hB12 hcc hnb HP10
  go_upto_region 9 with fail
  rw [← Hw12.out]
  clear Hw12 hc11 hf11
  obtain ⟨SL, hSL⟩ : ∃ z, z = Lib.byteCells (digS (dS4 b)).1 := ⟨_, rfl⟩
  have hSl : SL.length = 32 := by rw [hSL, Lib.byteCells_length]; exact digS_length _
  have HSi := Lib.hid (show (Try.prog.info? 24).map (·.size) = some SL.toArray.size by rw [List.size_toArray, hSl]; exact digInfo)
  have HS1 := Lib.hid (show SL.toArray.all (·.oneCell') = true by rw [hSL]; exact dig_one _)
  have HSL := Lib.hid hSL
  have HSl := Lib.hid hSl
  have Hdig := Lib.hid (show Calls Try.prog 36 #[.pointer (some ⟨p, 0, none⟩)] w12 fun e w' => e = .returned (.agg SL.toArray) ∧ PIn w' p (digS (dS4 b)).2.1 (digS (dS4 b)).2.2 ∧ Turn p w12 w' by rw [hSL]; exact digest_fl p (dS4 b) w12 HP12.out)
  clear hSL hSl
  go_wp2_with fail
  refine Calls.mono Hdig.out ?_
  rintro e w13 ⟨rfl, hP13, ht13⟩
  have hP13' : PIn w13 p (dS5 b).1 (dS5 b).2 := by rw [dS5]; exact hP13
  have hX13 := hX12.turn ht13 (by omega)
  have hR13 := hR12.turn ht13 (by omega)
  have hb13w := hb12w.trans (ht13.belowC hb12w.size (by omega))
  have hB13 := HB12.out.turn ht13 (by have := Hgl10.out; omega)
  have hth13 : w13.there g 104 SL.toArray.size := there_of_arr hX13 (by rw [comV_length Hl1.out Hl2.out Hl3.out rfl, List.size_toArray, HSl.out]; omega)
  have hXc := Arr.setIn SL 104 _ w13 hX13 (by rw [comV_length Hl1.out Hl2.out Hl3.out rfl, HSl.out]; omega)
  rw [comV_setS Hl1.out Hl2.out Hl3.out rfl HSl.out] at hXc
  have hOc : Only (fun k => k = g) w13 (w13.setCells g 104 SL) := Only.setIn (R := fun k => k = g) rfl SL 104 w13 (Only.refl _ _)
  obtain ⟨w14, hw14⟩ : ∃ z, z = w13.setCells g 104 SL := ⟨_, rfl⟩
  rw [← hw14] at hXc hOc
  have hX14 := hXc
  have hP14 : PIn w14 p (dS5 b).1 (dS5 b).2 := hP13'.lowN ⟨hOc.size, fun k hk => hOc.block k (by have := hP13'.lt; omega) (by omega)⟩
  have hR14 : Arr w14 w.heap.size 30 ZL := hR13.only hOc (by omega)
  have hb14w := hb13w.trans (hOc.below hb13w.size (by rintro k rfl; omega))
  have hB14 : BRow w14 w10.heap.size (.slice Ab nb cb) cc.bins := by
    have hlt := hB13.lt
    have h10g : g < w10.heap.size := Hgl10.out
    exact ⟨hB13.1, World.ownsRow.kept (row := some g) hB13.2 ⟨hOc.os, hOc.tape, hOc.output, hOc.size, fun k hk hn => hOc.block k hk (fun e => hn (by rw [e]))⟩ (.inr fun e => by have := (hlt g e).1; omega)⟩
  have HB14 := Lib.hid hB14
  have HP14 := Lib.hid hP14
  have Hw14 := Lib.hid hw14
  have Hth13 := Lib.hid hth13
  have hgl14 := hX14.lt
  have h1314 : w10.heap.size ≤ w14.heap.size := by have := ht13.size; have := hOc.size; omega
  clear hXc hOc hP13 hP13' ht13 hX12 hX13 hR12 hR13 hb12w hb13w hP14 hw14 hth13 HP12 hB13 hB14 HB12 Hdig
  go_upto_region 10 with (first | (refine wpList_store_mid rfl 24 _ _ rfl g 104 SL.toArray rfl rfl Hth13.out HSi.out HS1.out ?_; rw [show SL.toArray.toList = SL from rfl, ← Hw14.out]))
  clear Hw14 Hth13
  go_wp2_with fail
  refine Calls.mono (terow_any p (dS5 b) w14 HP14.out) ?_
  rintro e w15 ⟨v15, rfl, hE15, hP15, ht15⟩
  have hP15' : PIn w15 p (dS6 b).1 (dS6 b).2 := by rw [dS6]; exact hP15
  have hX15 := hX14.turn ht15 (by omega)
  have hR15 := hR14.turn ht15 (by omega)
  have hb15w := hb14w.trans (ht15.belowC hb14w.size (by omega))
  have hB15 := HB14.out.turn ht15 (by have := Hgl10.out; omega)
  have hp15 := hP15'.lt
  obtain ⟨Ae, ce, rfl, hec, hem, _⟩ := hE15.rows (by omega)
  rw [Hcc.out.evs] at hE15 hec ⊢
  obtain ⟨ne, hne⟩ : ∃ z, cc.evs.length = z := ⟨_, rfl⟩
  rw [hne] at hE15 hec ⊢
  have hc15 : w15.cell? ⟨g, 136, none⟩ = some (.slice none 0 0) := (Arr.com hX15 Hl1.out Hl2.out Hl3.out HSl.out).evs
  have hf15 : w15.frozen? ⟨g, 136, none⟩ = false := hX15.frozen 136
  have hX16 := hX15.set 136 (.slice Ae ne ce)
  rw [comV_setE Hl1.out Hl2.out Hl3.out HSl.out] at hX16
  have hO16 : Only (fun k => k = g) w15 (w15.setCell ⟨g, 136, none⟩ (.slice Ae ne ce)) := Only.setCell (R := fun k => k = g) (Only.refl _ _) (.inl rfl) _
  obtain ⟨w16, hw16⟩ : ∃ z, z = w15.setCell ⟨g, 136, none⟩ (.slice Ae ne ce) := ⟨_, rfl⟩
  have Hw16 := Lib.hid hw16
  rw [← hw16] at hX16 hO16
  have hP16 : PIn w16 p (dS6 b).1 (dS6 b).2 := hP15'.lowN ⟨hO16.size, fun k hk => hO16.block k (by omega) (by omega)⟩
  have hR16 : Arr w16 w.heap.size 30 ZL := hR15.only hO16 (by omega)
  have hb16w := hb15w.trans (hO16.below hb15w.size (by rintro k rfl; omega))
  have hgr16 : w15.grownBy w16 (some g) := ⟨hO16.os, hO16.tape, hO16.output, hO16.size, fun k hk hn => hO16.block k hk (fun e => hn (by rw [e]))⟩
  have hB16 : BRow w16 w10.heap.size (.slice Ab nb cb) cc.bins := by
    have hlt := hB15.lt
    have h10g : g < w10.heap.size := Hgl10.out
    exact ⟨hB15.1, World.ownsRow.kept hB15.2 hgr16 (.inr fun e => by have := (hlt g e).1; omega)⟩
  have hE16 : ERow w16 w14.heap.size p (.slice Ae ne ce) cc.evs := by
    have hlt := hE15.lt
    obtain ⟨cs, k1, k2⟩ := hE15
    refine ⟨cs, World.ownsRow.kept k1 hgr16 (.inr fun e => by have := (hlt g e).1; omega), fun i r hr => ?_⟩
    obtain ⟨A', c', q1, q2, q3, q4⟩ := k2 i r hr
    exact ⟨A', c', q1, q2, q3, q4.keep fun bb oo hlt' => World.cell?_of_block (hO16.block bb (by omega) (by omega))⟩
  have hp16 : p ≤ w16.heap.size := by have := hO16.size; omega
  have hbins16 : RowOf bC 35 w16 w16.heap.size Ab cc.bins := by
    obtain ⟨A', c', e1, h2, h3, h4⟩ := hB16.slice
    have e2 := (Value.slice.inj e1).1
    rw [e2]; exact h4
  have hevs16 : RowsAt w16 w16.heap.size Ae cc.evs := by
    obtain ⟨A', c', e1, h2, h3, h4⟩ := hE16.rows hp16
    have e2 := (Value.slice.inj e1).1
    rw [e2]; exact h4
  have Hbw := Lib.hid hB16.1
  have Hbins := Lib.hid hbins16
  have Hevs := Lib.hid hevs16
  have HP16 := Lib.hid hP16
  have HR16 := Lib.hid hR16
  have Hb16w := Lib.hid hb16w
  have Hne := Lib.hid hne
  have hgl16 := hX16.lt
  have HX16 := Lib.hid hX16
  clear hP15 hP15' ht15 hX14 hR14 hb14w hX15 hR15 hb15w hB15 HB14 hE15 hO16 hw16 hP16 hgr16 hB16 hE16 hbins16 hevs16 hR16 hb16w hne HP14 hX16
  go_upto_region 11 with fail
  rw [← Hw16.out]
  clear Hw16 hc15 hf15
  obtain ⟨p0, _, _, _, p4, _, _⟩ := Arr.com HX16.out Hl1.out Hl2.out Hl3.out HSl.out
  obtain ⟨dv, hdv⟩ : ∃ z, doneF (dS6 b).1 (dS6 b).2 = z := ⟨_, rfl⟩
  have Hdv := Lib.hid hdv
  have HX := Lib.hid (show comV ep T1 T2 T3 (.slice Ab nb cb) SL (.slice Ae ne ce) = comC ⟨cc, Ab, cb, Ae, ce⟩ by
    unfold comC
    dsimp only
    rw [← Hcc.out.ep, Hep.out, ← Hcc.out.r1, ← HT1.out, ← Hcc.out.r2, ← HT2.out, ← Hcc.out.r3, ← HT3.out, Hnb.out, Hne.out, ← Hcc.out.st, ← HSL.out])
  have Hbadset := Lib.hid (fun (w' : World) (hR : Arr w' w.heap.size 30 ZL) => show (w'.setRow w.heap.size ZL.toArray).heap[w.heap.size]? = some (.cells ZL.toArray 30 (0, 0)) from hR.setRow ZL)
  have Hbadb := Lib.hid (fun (w' : World) (hb' : Below w.heap.size w w') (cs : Array Value) => show Below w.heap.size w (w'.setRow w.heap.size cs) from hb'.trans (((Only.refl (fun k => k = w.heap.size) w').setRow (.inl rfl) _).below hb'.size (by rintro k rfl; omega)))
  clear hdv hbs11 hbs3
  go_wp2_with fail
  refine Calls.mono (done_in p (dS6 b).1 (dS6 b).2 w16 HP16.out) ?_
  rintro e w17 ⟨rfl, rfl⟩
  rw [Hdv.out]
  by_cases hd0 : dv = 0
  · subst hd0
    have q1 : ((0 : Int) != 0) = false := by simp
    have Hfin := Lib.hid (show dS6 b = ([], false) by
      have h := Hdv.out
      unfold doneF at h
      split at h
      · cases h
      · rename_i hn
        have h1 : (dS6 b).2 = false := by
          cases hq : (dS6 b).2 with
          | false => rfl
          | true => exact absurd (.inl hq) hn
        have h2 : (dS6 b).1 = [] := List.length_eq_zero_iff.1 (by
          have : ¬ 0 < (dS6 b).1.length := fun h => hn (.inr h)
          omega)
        exact Prod.ext h2 h1)
    by_cases he0 : ep = 0
    · subst he0
      have Hno := Lib.hid (show ¬ Good b from fun h => by
        obtain ⟨_, _, c', hc', hp', _⟩ := h
        have := hc'.ep
        rw [Hep.out] at this
        omega)
      go_wp2_with (first | (refine wpList_builtD rfl _ _ rfl [] rfl ZL.toArray HZb.out ?_) | (refine wpList_store_row rfl _ _ _ rfl w.heap.size ZL.toArray rfl rfl 30 ZL.toArray HR16.out HZi.out rfl HZ1.out ?_))
      (try simp only [Exit.inBlock, Exit.then])
      obtain ⟨V, hV⟩ : ∃ V, V = Value.tuple #[.agg ZL.toArray, .int .i64 3] := ⟨_, rfl⟩
      refine bodyPost_ret (v := V) ?hx1 ?h2 ?h3
      case hx1 => rw [hV]; exact results_cell2 (fn := Try.f12) (by rfl) _ _ w.heap.size 30 ZL.toArray (0, 0) _ (by rfl) _ (by rfl) (Hbadset.out _ HR16.out) Try.underlying30 rfl HZi.out
      case h2 => rfl
      case h3 => exact ⟨Hbadb.out _ Hb16w.out _, .inr ⟨by rw [hV, HZL.out], Hno.out⟩⟩
    · have q2 : ((ep : Int) == 0) = false := by rw [beq_eq_false_iff_ne]; omega
      have q3 : (ep == 0) = false := by rw [beq_eq_false_iff_ne]; exact he0
      obtain ⟨b3, hb3⟩ : ∃ b3 : Bool, b3 = true ↔ RiseB cc.bins := by classical exact ⟨decide _, decide_eq_true_iff⟩
      have Hb3 := Lib.hid hb3
      have Hhe := Lib.hid he0
      clear hb3 he0
      go_wp2_with fail
      refine Calls.mono (rise_any Ab nb cb cc.bins Hnb.out hbc hbm w16 Hbins.out b3 Hb3.out) ?_
      rintro e w18 ⟨rfl, hb18⟩
      have hR18 := HR16.out.up hb18
      have hX18 := HX16.out.up hb18
      have hb18w := Hb16w.out.trans (hb18.mono Hb16w.out.size)
      cases b3 with
      | false =>
        have Hno := Lib.hid (show ¬ Good b from fun h => by
          obtain ⟨_, _, c', hc', _, hr'⟩ := h
          rw [dec_one hc' Hcc.out] at hr'
          have := Hb3.out.2 hr'
          cases this)
        clear hb18
        go_wp2_with (first | (refine wpList_builtD rfl _ _ rfl [] rfl ZL.toArray HZb.out ?_) | (refine wpList_store_row rfl _ _ _ rfl w.heap.size ZL.toArray rfl rfl 30 ZL.toArray hR18 HZi.out rfl HZ1.out ?_))
        (try simp only [Exit.inBlock, Exit.then])
        obtain ⟨V, hV⟩ : ∃ V, V = Value.tuple #[.agg ZL.toArray, .int .i64 3] := ⟨_, rfl⟩
        refine bodyPost_ret (v := V) ?hx1 ?h2 ?h3
        case hx1 => rw [hV]; exact results_cell2 (fn := Try.f12) (by rfl) _ _ w.heap.size 30 ZL.toArray (0, 0) _ (by rfl) _ (by rfl) (Hbadset.out _ hR18) Try.underlying30 rfl HZi.out
        case h2 => rfl
        case h3 => exact ⟨Hbadb.out _ hb18w _, .inr ⟨by rw [hV, HZL.out], Hno.out⟩⟩
      | true =>
        have Hgood := Lib.hid (show Good b from ⟨Hsm.out, Hfin.out, cc, Hcc.out, by rw [← Hcc.out.ep, Hep.out]; have := Hhe.out; omega, Hb3.out.1 rfl⟩)
        obtain ⟨XL, hXL⟩ : ∃ z, z = comV ep T1 T2 T3 (.slice Ab nb cb) SL (.slice Ae ne ce) := ⟨_, rfl⟩
        rw [← hXL] at hX18 HX
        have hXl : XL.length = 137 := by rw [hXL]; exact comV_length Hl1.out Hl2.out Hl3.out HSl.out
        have HXi := Lib.hid (show (Try.prog.info? 30).map (·.size) = some XL.toArray.size by rw [List.size_toArray, hXl]; exact comSize)
        have HXz := Lib.hid (show ZL.toArray.size = XL.toArray.size by rw [List.size_toArray, List.size_toArray, hXl, HZL.out]; rfl)
        have HX1 := Lib.hid (show XL.toArray.all (·.oneCell') = true by rw [HX.out]; exact all_oneC (comC_one _))
        have Hset := Lib.hid (show (w18.setRow w.heap.size XL.toArray).heap[w.heap.size]? = some (.cells XL.toArray 30 (0, 0)) from by
          have := setRow_heap w18 w.heap.size ZL.toArray XL.toArray 30 (0, 0) hR18
          exact this)
        have hbe := Hbadb.out w18 hb18w XL.toArray
        have hOe : Only (fun k => k = w.heap.size) w18 (w18.setRow w.heap.size XL.toArray) := (Only.refl (fun k => k = w.heap.size) w18).setRow (.inl rfl) _
        obtain ⟨w19, hw19⟩ : ∃ z, z = w18.setRow w.heap.size XL.toArray := ⟨_, rfl⟩
        have Hw19 := Lib.hid hw19
        have hok : CxW ⟨cc, Ab, cb, Ae, ce⟩ := ⟨by rw [← Hcc.out.ep, Hep.out]; exact hepl, by rw [← Hcc.out.r1]; exact refS_w _, by rw [← Hcc.out.r2]; exact refS_w _, by rw [← Hcc.out.r3]; exact refS_w _, Hbw.out, by rw [← Hcc.out.st]; exact digS_length _, by show cc.bins.length ≤ cb; rw [Hnb.out]; exact hbc, hbm, by show cc.evs.length ≤ ce; rw [Hne.out]; exact hec, hem⟩
        have Hok := Lib.hid hok
        have Hbe := Lib.hid hbe
        clear hb18 hok hbe hOe hw19 hXL hXl
        go_wp2_with (first
          | (refine wpList_load_row rfl _ _ rfl g rfl 30 XL.toArray (0, 0) _ hX18 Try.underlying30 rfl HXi.out ?_)
          | (refine wpList_store_row rfl _ _ _ rfl w.heap.size XL.toArray rfl rfl 30 ZL.toArray hR18 HXi.out HXz.out HX1.out ?_))
        (try simp only [Exit.inBlock, Exit.then])
        obtain ⟨V, hV⟩ : ∃ V, V = Value.tuple #[.agg XL.toArray, .int .i64 0] := ⟨_, rfl⟩
        refine bodyPost_ret (v := V) ?hx1 ?h2 ?h3
        case hx1 => rw [hV]; exact results_cell2 (fn := Try.f12) (by rfl) _ _ w.heap.size 30 XL.toArray (0, 0) _ (by rfl) _ (by rfl) Hset.out Try.underlying30 rfl HXi.out
        case h2 => rfl
        case h3 => exact ⟨Hbe.out, .inl ⟨⟨cc, Ab, cb, Ae, ce⟩, by rw [hV, HX.out], Hok.out, Hcc.out, Hgood.out⟩⟩
  · have q1 : (dv != 0) = true := by simpa using hd0
    have Hno := Lib.hid (show ¬ Good b from fun h => by
      have h2 := h.2.1
      apply hd0
      rw [← Hdv.out, h2]
      rfl)
    clear hd0
    go_wp2_with (first | (refine wpList_builtD rfl _ _ rfl [] rfl ZL.toArray HZb.out ?_) | (refine wpList_store_row rfl _ _ _ rfl w.heap.size ZL.toArray rfl rfl 30 ZL.toArray HR16.out HZi.out rfl HZ1.out ?_))
    (try simp only [Exit.inBlock, Exit.then])
    obtain ⟨V, hV⟩ : ∃ V, V = Value.tuple #[.agg ZL.toArray, .int .i64 3] := ⟨_, rfl⟩
    refine bodyPost_ret (v := V) ?hx1 ?h2 ?h3
    case hx1 => rw [hV]; exact results_cell2 (fn := Try.f12) (by rfl) _ _ w.heap.size 30 ZL.toArray (0, 0) _ (by rfl) _ (by rfl) (Hbadset.out _ HR16.out) Try.underlying30 rfl HZi.out
    case h2 => rfl
    case h3 => exact ⟨Hbadb.out _ Hb16w.out _, .inr ⟨by rw [hV, HZL.out], Hno.out⟩⟩

end Go.Proofs.Ytejnonpmjaeagaa

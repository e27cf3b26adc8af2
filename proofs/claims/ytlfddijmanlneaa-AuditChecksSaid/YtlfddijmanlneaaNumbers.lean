/-
  numbers: the numbers of the beginning, and those of the rounds.
-/
import Derived.Test.YtlfddijmanlneaaFlt
import Derived.RegionTactic
import Derived.Deep.QuietTactic
import Derived.BigQuiet
namespace Go.Proofs.Ytlfddijmanlneaa
open Go.RowKit
set_option linter.unusedVariables false

/-- A list that is filled, one place behind the other. -/
def fillF (l : List Nat) (k : Nat) : List Nat := l.take k ++ List.replicate (l.length - k) 0
theorem fillF_length {l : List Nat} {k : Nat} (hk : k ≤ l.length) : (fillF l k).length = l.length := by
  unfold fillF; rw [List.length_append, List.length_take, List.length_replicate]; omega
theorem fillF_set {l : List Nat} {k : Nat} (hk : k < l.length) : (fillF l k).set k (l.getD k 0) = fillF l (k + 1) := by
  unfold fillF
  have hl : (l.take k).length = k := by rw [List.length_take]; omega
  rw [List.set_append_right _ _ (by omega), hl, Nat.sub_self, show l.length - k = (l.length - (k + 1)) + 1 from by omega, List.replicate_succ, List.set_cons_zero, List.take_succ_eq_append_getElem hk, List.append_assoc]
  simp [List.getD, hk]
theorem fillF_done {l : List Nat} {k : Nat} (hk : l.length ≤ k) : fillF l k = l := by
  unfold fillF
  rw [List.take_of_length_le hk, show l.length - k = 0 from by omega]
  simp
theorem fillF_get {l : List Nat} {k : Nat} (hk : k < l.length) : (wordCells (fillF l k))[k]? = some (.int .u32 0) := by
  rw [wordCells_get (by rw [fillF_length (by omega)]; exact hk)]
  unfold fillF
  have hl : (l.take k).length = k := by rw [List.length_take]; omega
  rw [List.getD_eq_getElem?_getD, List.getElem?_append_right (by omega), hl, Nat.sub_self, show l.length - k = (l.length - (k + 1)) + 1 from by omega, List.replicate_succ]
  rfl

def PrimesPost (w : World) (e : Ending) (w' : World) : Prop :=
  ∃ a g, e = .returned (.func (.func 90) #[] #[.pointer (some ⟨a, 0, none⟩), .pointer (some ⟨g, 0, none⟩)]) ∧ Primed w' a g 0 ∧ w.heap.size ≤ a ∧ w.heap.size ≤ g ∧ Below w.heap.size w w'

theorem zeros312 : Try.zeroCells130 = (boolCells freshL).toArray := by kernel_rfl

set_option maxHeartbeats 4000000 in
set_option maxRecDepth 100000 in
theorem primes_any (w : World) : Calls Try.prog 84 #[] w (PrimesPost w) := by
  have HZ := Lib.hid zeros312
  go_enter Try.func84, Try.ntmps84
  go_wp2
  go_ret
  refine ⟨w.heap.size + 1, w.heap.size, rfl, ⟨by omega, ?_, ?_⟩, by omega, Nat.le_refl _, ((Below.refl _ w).alloc (Nat.le_refl _) _).alloc (by simp) _⟩
  · have h1 := Arr.new (w.alloc (.cells Try.zeroCells130 130)) 3 [.int .i64 1]
    rw [show (w.alloc (.cells Try.zeroCells130 130)).heap.size = w.heap.size + 1 from by simp] at h1
    exact h1
  · have h1 := Arr.new w 130 (boolCells freshL)
    rw [← HZ.out] at h1
    exact h1.alloc _

def NumbersPost (w : World) (e : Ending) (w' : World) : Prop :=
  e = .returned (.tuple #[.agg (wordCells beginL).toArray, .agg (wordCells roundL).toArray]) ∧ Below w.heap.size w w'

theorem sizeH : (Try.prog.info? 118).map (·.size) = some 8 := by kernel_rfl
theorem sizeK : (Try.prog.info? 119).map (·.size) = some 64 := by kernel_rfl

theorem lenHn : beginL.length = 8 := rfl
theorem lenKn : roundL.length = 64 := by kernel_rfl
theorem fillH_set {k q : Nat} (hk : k < 8) (hq : beginL.getD k 0 = q) : (wordCells (fillF beginL k)).set k (.int .u32 (q : Nat)) = wordCells (fillF beginL (k + 1)) := by
  rw [wordCells_set, ← hq, fillF_set (by rw [lenHn]; exact hk)]
theorem fillK_set {k q : Nat} (hk : k < 64) (hq : roundL.getD k 0 = q) : (wordCells (fillF roundL k)).set k (.int .u32 (q : Nat)) = wordCells (fillF roundL (k + 1)) := by
  rw [wordCells_set, ← hq, fillF_set (by rw [lenKn]; exact hk)]
theorem fillH_get {k : Nat} (hk : k < 8) : (wordCells (fillF beginL k))[k]? = some (.int .u32 0) := fillF_get (by rw [lenHn]; exact hk)
theorem fillK_get {k : Nat} (hk : k < 64) : (wordCells (fillF roundL k))[k]? = some (.int .u32 0) := fillF_get (by rw [lenKn]; exact hk)

/-- What holds behind k rounds. -/
def NumRel (W : World) (a g k : Nat) (wr : World) : Prop :=
  Arr wr W.heap.size 118 (wordCells (fillF beginL k)) ∧ Arr wr (W.heap.size + 1) 119 (wordCells (fillF roundL k)) ∧ Primed wr a g k ∧ Below W.heap.size W wr

theorem NumRel.prime {W w w' : World} {a g k : Nat} (h : Arr w W.heap.size 118 (wordCells (fillF beginL k)) ∧ Arr w (W.heap.size + 1) 119 (wordCells (fillF roundL k)) ∧ Below W.heap.size W w)
    (ha : W.heap.size + 2 ≤ a) (hg : W.heap.size + 2 ≤ g) (ho : Only (fun k => k = a ∨ k = g) w w') :
    Arr w' W.heap.size 118 (wordCells (fillF beginL k)) ∧ Arr w' (W.heap.size + 1) 119 (wordCells (fillF roundL k)) ∧ Below W.heap.size W w' := by
  obtain ⟨h1, h2, h3⟩ := h
  refine ⟨h1.only ho (by omega), h2.only ho (by omega), h3.trans (ho.below h3.size ?_)⟩
  rintro k (rfl | rfl) <;> omega

set_option maxHeartbeats 4000000 in
set_option maxRecDepth 100000 in
theorem numbers_any (W : World) : Calls Try.prog 80 #[] W (NumbersPost W) := by
  go_enter Try.func80, Try.ntmps80
  go_wp2_with fail
  refine (primes_any _).mono ?_
  rintro e w1 ⟨a, g, rfl, hP, ha, hg, hb⟩
  have h0 : NumRel W a g 0 w1 := by
    refine ⟨?_, ?_, hP, (((Below.refl _ W).alloc (Nat.le_refl _) _).alloc (by simp) _).trans (hb.mono (by simp; omega))⟩
    · have := ((Arr.new W 118 (wordCells (fillF beginL 0))).alloc (.cells (wordCells (fillF roundL 0)).toArray 119))
      exact this.below hb (by simp; omega)
    · have := Arr.new (W.alloc (.cells (wordCells (fillF beginL 0)).toArray 118)) 119 (wordCells (fillF roundL 0))
      simp at this
      exact this.below hb (by simp)
  simp at ha hg
  clear hb hP
  go_wp2_with fail
  go_loopw [6] (fun i wr => ∃ k : Nat, k ≤ 64 ∧ i = .int .i64 k ∧ NumRel W a g k wr) (fun i _ => 64 - (intOf i).toNat)
  case atStart => exact ⟨0, by omega, rfl, h0⟩
  case round =>
    obtain ⟨k, hk, rfl, hR⟩ := hrel
    clear h0
    obtain ⟨hH, hK, hP, hB⟩ := hR
    by_cases hlt : k < 64
    · obtain ⟨hok, y, hy, hby⟩ := cube_at hlt
      obtain ⟨p, hp⟩ : ∃ p, primesL.getD k 0 = p := ⟨_, rfl⟩
      rw [show primeL.getD k 0 = p from hp] at hok hy
      obtain ⟨F, hF⟩ : ∃ F, floatOfInt .f64 (p : Nat) = F := ⟨_, rfl⟩
      rw [hF] at hok hy
      obtain ⟨r, hr⟩ : ∃ r, roundL.getD k 0 = r := ⟨_, rfl⟩
      rw [hr] at hby
      have hconv : ∀ w, (convert 3 126 (.int .i64 (p : Nat))).run Try.prog w = .ok (.float .f64 F) w := fun w => by
        rw [run_convert_int_float (P := Try.prog) w 3 126 .i64 .f64 (p : Nat) (by kernel_rfl) Try.underlying126, hF]
      have Hp := Lib.hid hp
      have HF := Lib.hid hF
      have Hr := Lib.hid hr
      have Hok := Lib.hid hok
      have Hy := Lib.hid hy
      have Hby := Lib.hid hby
      have hki : (k : Int) < 64 := by omega
      clear hp hF hr hok hy hby
      by_cases h8 : k < 8
      · obtain ⟨z, hz, hbz⟩ := square_at h8
        rw [show primeL.getD k 0 = p from Hp.out, HF.out] at hz
        obtain ⟨q, hq⟩ : ∃ q, beginL.getD k 0 = q := ⟨_, rfl⟩
        rw [hq] at hbz
        have Hq := Lib.hid hq
        have Hz := Lib.hid hz
        have Hbz := Lib.hid hbz
        have hki8 : (k : Int) < 8 := by omega
        clear hq hz hbz
        go_wp2_with fail
        refine (prime_any a g k hlt _ hP).mono ?_
        rintro e w2 ⟨rfl, hP2, ho, hs⟩
        rw [Hp.out]
        obtain ⟨hH2, hK2, hB2⟩ := NumRel.prime ⟨hH, hK, hB⟩ (by omega) (by omega) ho
        have hcK : w2.cell? ⟨W.heap.size + 1, k, none⟩ = some (.int .u32 0) := by rw [hK2.cell]; exact fillK_get hlt
        have hfK := hK2.frozen k
        have hcH : (w2.setCell ⟨W.heap.size + 1, k, none⟩ (.int .u32 (r : Nat))).cell? ⟨W.heap.size, k, none⟩ = some (.int .u32 0) := by rw [(hH2.setOther (p := ⟨W.heap.size + 1, k, none⟩) (by simp) _).cell]; exact fillH_get h8
        have hfH := (hH2.setOther (p := ⟨W.heap.size + 1, k, none⟩) (by simp) (.int .u32 (r : Nat))).frozen k
        have hFB : NumRel W a g (k + 1) ((w2.setCell ⟨W.heap.size + 1, k, none⟩ (.int .u32 (r : Nat))).setCell ⟨W.heap.size, k, none⟩ (.int .u32 (q : Nat))) := by
          refine ⟨?_, ?_, ⟨hP2.1, ?_, ?_⟩, ?_⟩
          · have := (hH2.setOther (p := ⟨W.heap.size + 1, k, none⟩) (by simp) (.int .u32 (r : Nat))).set k (.int .u32 (q : Nat))
            rw [fillH_set h8 Hq.out] at this
            exact this
          · have := (hK2.set k (.int .u32 (r : Nat))).setOther (p := ⟨W.heap.size, k, none⟩) (by simp) (.int .u32 (q : Nat))
            rw [fillK_set hlt Hr.out] at this
            exact this
          · exact (hP2.2.1.setOther (by simp; omega) _).setOther (by simp; omega) _
          · exact (hP2.2.2.setOther (by simp; omega) _).setOther (by simp; omega) _
          · exact (hB2.setCell (by simp) _).setCell (by simp) _
        have HFB := Lib.hid hFB
        clear hFB
        go_wp2_with (first
          | (go_at_call 86; refine (cbrt_any F y Hok.out Hy.out _).mono ?_; rintro e w3 ⟨rfl, rfl⟩)
          | (go_at_call 85; ((with_reducible refine (behind_any y r Hby.out _).mono ?_); rintro e w3 ⟨rfl, rfl⟩))
          | (go_at_call 87; refine (sqrt_any F z Hz.out _).mono ?_; rintro e w3 ⟨rfl, rfl⟩)
          | (go_at_call 85; ((with_reducible refine (behind_any z q Hbz.out _).mono ?_); rintro e w3 ⟨rfl, rfl⟩)))
        go_roundw
        case rel => exact ⟨k + 1, by omega, by go_num, HFB.out⟩
        case measure => simp [intOf]; omega
      · have hki8 : decide ((k : Int) < 8) = false := by simp; omega
        go_wp2_with fail
        refine (prime_any a g k hlt _ hP).mono ?_
        rintro e w2 ⟨rfl, hP2, ho, hs⟩
        rw [Hp.out]
        obtain ⟨hH2, hK2, hB2⟩ := NumRel.prime ⟨hH, hK, hB⟩ (by omega) (by omega) ho
        have hcK : w2.cell? ⟨W.heap.size + 1, k, none⟩ = some (.int .u32 0) := by rw [hK2.cell]; exact fillK_get hlt
        have hfK := hK2.frozen k
        have hFB : NumRel W a g (k + 1) (w2.setCell ⟨W.heap.size + 1, k, none⟩ (.int .u32 (r : Nat))) := by
          refine ⟨?_, ?_, ⟨hP2.1, ?_, ?_⟩, ?_⟩
          · have h1 := hH2.setOther (p := ⟨W.heap.size + 1, k, none⟩) (by simp) (.int .u32 (r : Nat))
            rw [fillF_done (l := beginL) (by rw [lenHn]; omega)] at h1 ⊢
            exact h1
          · have := hK2.set k (.int .u32 (r : Nat))
            rw [fillK_set hlt Hr.out] at this
            exact this
          · exact hP2.2.1.setOther (by simp; omega) _
          · exact hP2.2.2.setOther (by simp; omega) _
          · exact hB2.setCell (by simp) _
        have HFB := Lib.hid hFB
        clear hFB
        go_wp2_with (first
          | (go_at_call 86; refine (cbrt_any F y Hok.out Hy.out _).mono ?_; rintro e w3 ⟨rfl, rfl⟩)
          | (go_at_call 85; ((with_reducible refine (behind_any y r Hby.out _).mono ?_); rintro e w3 ⟨rfl, rfl⟩)))
        go_roundw
        case rel => exact ⟨k + 1, by omega, by go_num, HFB.out⟩
        case measure => simp [intOf]; omega
    · obtain rfl : k = 64 := by omega
      rw [fillF_done (l := beginL) (by rw [lenHn]; omega)] at hH
      rw [fillF_done (l := roundL) (by rw [lenKn]; omega)] at hK
      obtain ⟨H, hHe⟩ : ∃ H, H = (wordCells beginL).toArray := ⟨_, rfl⟩
      obtain ⟨K, hKe⟩ : ∃ K, K = (wordCells roundL).toArray := ⟨_, rfl⟩
      unfold Arr at hH hK
      rw [← hHe] at hH
      rw [← hKe] at hK
      have sH : H.size = 8 := by rw [hHe]; simp [wordCells_length, lenHn]
      have sK : K.size = 64 := by rw [hKe]; simp [wordCells_length, lenKn]
      have iH : (Try.prog.info? 118).map (·.size) = some H.size := by rw [sH]; exact sizeH
      have iK : (Try.prog.info? 119).map (·.size) = some K.size := by rw [sK]; exact sizeK
      have oH : H.all (·.oneCell') = true := by rw [hHe]; simpa using wordCells_one beginL
      have oK : K.all (·.oneCell') = true := by rw [hKe]; simpa using wordCells_one roundL
      have cH : ∀ w : World, (∃ n, w = wr.drewN n) → w.heap[W.heap.size]? = some (.cells H 118 (0, 0)) := fun w ⟨n, e⟩ => by rw [e]; exact hH
      have cK : ∀ w : World, (∃ n, w = wr.drewN n) → w.heap[W.heap.size + 1]? = some (.cells K 119 (0, 0)) := fun w ⟨n, e⟩ => by rw [e]; exact hK
      have CH := Lib.hid cH
      have CK := Lib.hid cK
      have OH := Lib.hid oH
      have OK := Lib.hid oK
      have HiH := Lib.hid iH
      have HiK := Lib.hid iK
      have HH := Lib.hid hH
      have HK := Lib.hid hK
      have HHe := Lib.hid hHe
      have HKe := Lib.hid hKe
      clear hH hK hHe hKe sH sK iH iK oH oK hP cH cK
      go_wp2_with fail
      refine wp_region_quiet_lit (by kernel_rfl) (by kernel_rfl) ?_
      refine wpQuiet_load_row rfl _ _ rfl W.heap.size rfl 118 H _ CH.out Try.underlying118 rfl HiH.out ?_
      refine wpQuiet_load_row rfl _ _ rfl (W.heap.size + 1) rfl 119 K _ CK.out Try.underlying119 rfl HiK.out ?_
      refine wpQuiet_store_idle rfl _ _ _ rfl W.heap.size H rfl rfl 118 CH.out HiH.out OH.out ?_
      refine wpQuiet_store_idle rfl _ _ _ rfl (W.heap.size + 1) K rfl rfl 119 CK.out HiK.out OK.out ?_
      refine wpQuiet_nil ?_
      rintro _ ⟨nq, rfl⟩
      go_wp2
      refine bodyPost_ret (v := .tuple #[.agg H, .agg K]) ?_ rfl ?_
      · have r1 := fun n => run_loadVar_row (P := Try.prog) (wr.drewN n) W.heap.size 118 118 H (0, 0) _ HH.out Try.underlying118 rfl HiH.out
        have r2 := fun n => run_loadVar_row (P := Try.prog) (wr.drewN n) (W.heap.size + 1) 119 119 K (0, 0) _ HK.out Try.underlying119 rfl HiK.out
        unfold results
        simp [r1, r2, Try.results80, Act.put, asAddr]
      · exact ⟨by rw [HHe.out, HKe.out], Below.dN hB _⟩
end Go.Proofs.Ytlfddijmanlneaa

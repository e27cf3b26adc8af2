/-
  bytes of a node of a wood; the nodes on the way to a key are what the document proves.
-/
import Derived.Test.YtblgmnjegkfoaaaGreatK17
import Derived.Test.YtblgmnjegkfoaaaGreatK16
namespace Go.Proofs.YtblgmnjegkfoaaaGreat
open Go.RowKit
set_option linter.unusedVariables false
set_option linter.unusedSimpArgs false

set_option maxHeartbeats 4000000 in
theorem bytes_wood (M : Wood) (b : Nat) (n : Nd) (hb : M b = some n) (hsep : M.Sep) (w : World) (hS : Stand M w) :
    Calls Tryz.prog 31 #[.pointer (some ⟨b, 0, none⟩)] w fun e w' => ∃ v, e = .returned v ∧ Owns w' w.heap.size 5 v (nodeF 65 n.l n.f) ∧ Stand M w' ∧ Only (M.ndF (n.f + 1)) w w' := by
  have hn := hS b n hb
  have hgood := hn.rise.good hn.l32
  obtain ⟨d, s, dig, hdl, hd, hc⟩ := hn.cells
  rcases hc with ⟨hN, hl⟩ | ⟨hN, hr⟩
  · obtain ⟨val, e1, e2, e3⟩ := hl.one
    have hv := hn.vals _ (by rw [e1]; exact List.mem_singleton.2 rfl)
    have hle := hl.le
    have e2' := e2.symm
    rw [e2'] at hN hle
    refine (bytes_leaf n.key _ rfl hn.k32 b n.f hn.f64 val n.adr n.cap hle (by simp only at hv; omega) d 0 s dig _ rfl w hN e3).mono ?_
    rintro x w'' ⟨v, rfl, hown, hbl⟩
    refine ⟨v, rfl, ?_, hS.up hbl, Only.of_below hbl⟩
    rw [e1, nodeF_one]
    exact hown
  · have h2 := hr.two
    have hs63 := hgood.split h2 hn.f64 hn.agree
    have hsge := sharedF_ge n.l n.f
    have hF : ∀ k, M.ndF (n.f + 1) k → k < w.heap.size := fun k ⟨m, hm, _⟩ => (hS k m hm).lt
    have hFb : ¬ M.ndF (n.f + 1) b := fun ⟨m, hm, hm2⟩ => by rw [hb] at hm; injection hm with hm; subst hm; omega
    have hoff : ∀ i, i < 16 → (n.kids.getD i none = none ↔ subF n.l (sharedF n.l n.f) i = []) := fun i hi => by
      constructor
      · intro q
        by_cases e : subF n.l (sharedF n.l n.f) i = []
        · exact e
        · obtain ⟨b', n', k1, _⟩ := hr.on i hi e
          simp [List.getD, k1] at q
      · intro e
        simp [List.getD, hr.off i hi e]
    refine (bytes_branch n.key _ rfl hn.k32 b n.arr n.f (sharedF n.l n.f) hsge (by omega) (.slice none 0 0) d 0 s dig _ rfl n.kids hr.k16 _ rfl (fun i => shaF (tagF 4 [nodeF 65 (subF n.l (sharedF n.l n.f) i) (sharedF n.l n.f + 1)])) (fun _ => shaF_length _) (M.ndF (n.f + 1))
      (fun w2 => Stand M w2 ∧ w.heap.size ≤ w2.heap.size ∧ Arr w2 b 87 (nodeC n.key (n.f : Nat) (sharedF n.l n.f : Nat) (.slice none 0 0) (.pointer (some ⟨n.arr, 0, none⟩)) d 0 s dig) ∧ Arr w2 n.arr 132 (kidsC n.kids)) w.heap.size ?_ ?_ ?_ w (Nat.le_refl _) hF ⟨hS, Nat.le_refl _, hN, hr.row⟩).mono ?_
    · intro w1 w2 h ho
      refine ⟨fun k m hk => ?_, Nat.le_trans h.2.1 ho.size, h.2.2.1.only ho (by have := hn.lt; omega), h.2.2.2.only ho (by have := hr.row.lt; omega)⟩
      refine (h.1 k m hk).keep ho (by have := (hS k m hk).lt; omega) (fun q => ?_) (fun q a ha hp => ?_)
      · obtain ⟨cs, hcs⟩ := (hS k m hk).rowOf q
        have := hcs.lt; omega
      · have := (hS k m hk).valOf q a ha hp; omega
    · intro w2 h
      exact ⟨h.2.2.1, h.2.2.2⟩
    · intro i a hi ha w2 hI2 hn2
      have hne : subF n.l (sharedF n.l n.f) i ≠ [] := fun e => by
        have := hr.off i hi e
        rw [this] at ha
        cases ha
      obtain ⟨b', n', k1, k2, k3, k4⟩ := hr.on i hi hne
      rw [k1] at ha
      injection ha with ha
      injection ha with ha
      subst ha
      refine (sum_wood 65 M b' n' k2 (by omega) hsep w2 hI2.1).mono ?_
      rintro x w3 ⟨rfl, hS3, hO3⟩
      have hO3' : Only (M.ndF (n.f + 1)) w2 w3 := hO3.more (fun k _ ⟨m, m1, m2⟩ => ⟨m, m1, by omega⟩)
      refine ⟨?_, ⟨hS3, Nat.le_trans hI2.2.1 hO3'.size, hI2.2.2.1.only hO3' hFb, hI2.2.2.2.only hO3' (fun q => ?_)⟩, hO3'⟩
      · rw [k3, k4]; rfl
      · obtain ⟨m, m1, _⟩ := q
        exact hS.rows hb h2 m1 rfl
    · rintro x w'' ⟨v, rfl, hown, hI2, hO⟩
      refine ⟨v, rfl, ?_, hI2.1, hO⟩
      have e1 : restF (n.l.headD ([], [])).1 n.f (sharedF n.l n.f) = restF n.key n.f (sharedF n.l n.f) := restF_congr fun i _ hi => by
        refine hr.way _ ?_ i hi
        match n.l, h2 with
        | x :: y :: r, _ => simp
      rw [nodeF_two 64 n.l n.f h2, e1, ← maskK_eq n.kids n.l _ hoff 16 (Nat.le_refl _), ← digK_eq n.kids n.l _ 64 _ hoff (fun i hi he => ?_) 16 (Nat.le_refl _)]
      · exact hown
      · rw [nodeF_fuel 65 64 _ _ (hgood.part _ i) (part_agree (shared_agree hn.agree)) (by omega) (List.length_pos_iff.2 he) (by omega) (by omega)]

/-- The bytes of a node of a wood. -/
def ndB (M : Wood) (b : Nat) : List UInt8 := match M b with
  | some n => nodeF 65 n.l n.f
  | none => []
theorem ndB_some {M : Wood} {b : Nat} {n : Nd} (h : M b = some n) : ndB M b = nodeF 65 n.l n.f := by unfold ndB; rw [h]

/-- The nodes on the way to a key are those that the document tells. -/
theorem way_proves {M : Wood} {w : World} (hS : Stand M w) (key : List UInt8) (hk : key.length = 32) : ∀ (fuel : Nat) (b : Nat) (n : Nd) (bs : List Nat), M b = some n → 65 - n.f ≤ fuel → (∀ x ∈ n.l, ∀ i, i < n.f → nibF x.1 i = nibF key i) → IsWay M key (some ⟨b, 0, none⟩) bs → bs.map (ndB M) = proveF key fuel n.l n.f
  | 0, b, n, bs, hb, hf, _, _ => by have := (hS b n hb).f64; omega
  | fuel + 1, b, n, [], hb, hf, _, hw => by cases hw
  | fuel + 1, b, n, c :: bs, hb, hf, hkey, hw => by
    obtain ⟨hp, n1, hn1, hr⟩ := hw
    injection hp with hp
    injection hp with hp
    subst hp
    have e : n1 = n := by rw [hb] at hn1; injection hn1 with e; exact e.symm
    subst e
    have hnd := hS b n1 hb
    have hpos := hnd.pos
    have hne : n1.l ≠ [] := List.length_pos_iff.1 hpos
    rw [List.map_cons, ndB_some hb]
    unfold proveF
    rw [if_neg hne]
    congr 1
    have hgood := hnd.rise.good hnd.l32
    obtain ⟨d, s, dig, _, _, hcs⟩ := hnd.cells
    rcases hcs with ⟨_, hlf⟩ | ⟨_, hbr⟩
    · obtain ⟨val, e, _⟩ := hlf.one
      rw [if_pos (.inl (by rw [e]; rfl))]
      have hnx : nextP n1 key = none := by
        unfold nextP
        rw [if_pos (by rw [e]; simp)]
      rw [hnx] at hr
      match bs, hr with
      | [], _ => rfl
      | c :: bs, hr => obtain ⟨q, _⟩ := hr; cases q
    · have h2 := hbr.two
      have hs63 := hgood.split h2 hnd.f64 hnd.agree
      have hsge := sharedF_ge n1.l n1.f
      have hmem : ∃ x, x ∈ n1.l ∧ (n1.l.headD ([], [])) = x := by
        match n1.l, hne with
        | x :: r, _ => exact ⟨x, by simp, rfl⟩
      obtain ⟨x, hx, hxe⟩ := hmem
      rw [hxe]
      have hrest : restF x.1 n1.f (sharedF n1.l n1.f) = restF n1.key n1.f (sharedF n1.l n1.f) := restF_congr fun i _ hi => hbr.way x hx i hi
      rw [hrest]
      by_cases hc : commF n1.key key < sharedF n1.l n1.f
      · have hnx : nextP n1 key = none := by
          unfold nextP
          rw [if_neg (by omega), if_pos hc]
        rw [hnx] at hr
        have hne2 : restF n1.key n1.f (sharedF n1.l n1.f) ≠ restF key n1.f (sharedF n1.l n1.f) := by
          intro q
          have hcge : n1.f ≤ commF n1.key key := by
            rcases Nat.lt_or_ge (commF n1.key key) n1.f with h | h
            · exfalso
              refine commF_end (a := n1.key) (b := key) (by omega) ?_
              rw [← hbr.way x hx _ (by omega)]
              exact hkey x hx _ h
            · exact h
          have h1 := restF_getT n1.key hcge hc
          have h3 := restF_getT key hcge hc
          rw [q] at h1
          exact commF_end (a := n1.key) (b := key) (by omega) (h1.symm.trans h3)
        rw [if_pos (.inr hne2)]
        match bs, hr with
        | [], _ => rfl
        | c :: bs, hr => obtain ⟨q, _⟩ := hr; cases q
      · rw [if_neg (fun q => by
          rcases q with q | q
          · omega
          · exact q (restF_congr fun i _ hi => commF_in (by omega)))]
        by_cases he : subF n1.l (sharedF n1.l n1.f) (nibF key (sharedF n1.l n1.f)) = []
        · rw [he, proveF_none]
          have hnx : nextP n1 key = none := by
            unfold nextP
            rw [if_neg (by omega), if_neg hc]
            simp [List.getD, hbr.off _ (nibF_lt _ _) he]
          rw [hnx] at hr
          match bs, hr with
          | [], _ => rfl
          | c :: bs, hr => obtain ⟨q, _⟩ := hr; cases q
        · obtain ⟨b2, n2, k1, k2, k3, k4⟩ := hbr.on _ (nibF_lt _ _) he
          have hnx : nextP n1 key = some ⟨b2, 0, none⟩ := by
            unfold nextP
            rw [if_neg (by omega), if_neg hc]
            simp [List.getD, k1]
          rw [hnx] at hr
          rw [← k3, ← k4]
          refine way_proves hS key hk fuel b2 n2 bs k2 (by omega) (fun y hy i hi => ?_) hr
          rw [k3] at hy
          obtain ⟨hy1, hy2⟩ := mem_subF.1 hy
          by_cases hlt : i < sharedF n1.l n1.f
          · rw [hbr.way y hy1 i hlt]
            exact commF_in (by omega)
          · obtain rfl : i = sharedF n1.l n1.f := by omega
            exact hy2

end Go.Proofs.YtblgmnjegkfoaaaGreat

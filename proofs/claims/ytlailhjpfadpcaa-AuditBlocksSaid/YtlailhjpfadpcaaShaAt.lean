/-
  The contracts of sha and of the document's own, their digests said by the caller.
-/
import Derived.Test.YtlailhjpfadpcaaRTagged
import Derived.Test.YtlailhjpfadpcaaGen
namespace Go.Proofs.Ytlailhjpfadpcaa
open Go.RowKit
set_option linter.unusedVariables false

theorem sum_at (l : List UInt8) (SL : List Value) (A : Option Addr) (c n : Nat) (w : World) (hS : SL = Lib.byteCells (shaF l)) (hn : l.length = n) (hb : Bs w w.heap.size A l) (hc : n ≤ c) (hcm : c ≤ maxLen) (hm : n ≤ 140737488355000) :
    Calls Try.prog 62 #[.slice A n c] w fun e w' => e = .returned (.agg SL.toArray) ∧ Below w.heap.size w w' := by
  subst hS; exact sum_any l A c n w hn hb hc hcm hm
theorem rsum_at (l : List UInt8) (SL : List Value) (A : Option Addr) (c n : Nat) (w : World) (hS : SL = Lib.byteCells (shaF l)) (hn : l.length = n) (hb : Bs w w.heap.size A l) (hc : n ≤ c) (hm : n ≤ 140737488355000) :
    Calls Try.prog 37 #[.slice A n c] w fun e w' => e = .returned (.agg SL.toArray) ∧ Below w.heap.size w w' := by
  subst hS; exact rsum_any l A c n w hn hb hc hm
theorem tag_at (use : UInt8) (u : Nat) (rs : List (List UInt8)) (SL : List Value) (A : Option Addr) (n c : Nat) (w : World) (hu : use.toNat = u) (hS : SL = Lib.byteCells (shaF (tagF use rs))) (hn : rs.length = n) (hn2 : n ≤ 1000000) (hr : RowsAt w w.heap.size A rs) (hlim : (tagF use rs).length ≤ 1000000) :
    Calls Try.prog 34 #[.int .u8 (u : Nat), .slice A n c] w fun e w' => e = .returned (.agg SL.toArray) ∧ Below w.heap.size w w' := by
  subst hS hu; exact tagged_any use rs A n c w hn hn2 hr hlim
theorem rtag_at (use : UInt8) (u : Nat) (rs : List (List UInt8)) (SL : List Value) (A : Option Addr) (n c : Nat) (w : World) (hu : use.toNat = u) (hS : SL = Lib.byteCells (shaF (tagF use rs))) (hn : rs.length = n) (hn2 : n ≤ 1000000) (hr : RowsAt w w.heap.size A rs) (hlim : (tagF use rs).length ≤ 1000000) :
    Calls Try.prog 23 #[.int .u8 (u : Nat), .slice A n c] w fun e w' => e = .returned (.agg SL.toArray) ∧ Below w.heap.size w w' := by
  subst hS hu; exact rtagged_any use rs A n c w hn hn2 hr hlim

theorem flat_bound : ∀ (rs : List (List UInt8)), (∀ r ∈ rs, r.length ≤ 300) → (rs.flatMap fun r => Lib.uvarint r.length ++ r).length ≤ 310 * rs.length
  | [], _ => by simp
  | r :: rs, h => by
    have h1 := flat_bound rs fun x hx => h x (by simp [hx])
    have h3 := h r (by simp)
    have h2 := Lib.uvarint_length64 (x := r.length) (by omega)
    simp only [List.flatMap_cons, List.length_append, List.length_cons]
    omega
theorem tagF_bound (use : UInt8) (rs : List (List UInt8)) (h : ∀ r ∈ rs, r.length ≤ 300) : (tagF use rs).length ≤ 310 * rs.length + 1 := by
  have := flat_bound rs h
  unfold tagF
  simp only [List.length_cons]
  omega

end Go.Proofs.Ytlailhjpfadpcaa

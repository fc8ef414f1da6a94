/-
  The contract of the document's Inflate.
-/
import Derived.Test.YtnelbahohkjcnaaGreatDoorInfRef11
namespace Go.Proofs.YtnelbahohkjcnaaGreatDoor
open Go.RowKit
set_option maxRecDepth 100000
structure Ifl (w0 w : World) (T gb : Nat) (s : ByteArray) (vb vo : Value) (M : Nat) (y : St) : Prop where
  cell : StCell w T s vb vo M y
  row : Row8 w vo y.out
  bits : BitsAt w gb (bitsOf s.data.toList)
  ne : gb ≠ T
  own : ∀ k, vo.ownBlock = some k → k ≠ T ∧ k ≠ gb ∧ w0.heap.size ≤ k
  hT : w0.heap.size ≤ T
  hb : Below w0.heap.size w0 w
section
variable {w0 w w' w2 : World} {T gb : Nat} {s : ByteArray} {vb vo v2 : Value} {M : Nat} {y z d : St}
theorem Ifl.call (h : Ifl w0 w T gb s vb vo M y) (hb : Below w.heap.size w w') : Ifl w0 w' T gb s vb vo M y :=
  ⟨h.cell.later hb, h.row.move fun k hk => hb.block k (h.row.lt k hk), h.bits.later hb, h.ne, h.own, h.hT, h.hb.trans (hb.mono h.hb.size)⟩
theorem Ifl.store (h : Ifl w0 w T gb s vb vo M y) (hz : z.out = y.out) (hc : StCell w' T s vb vo M z) (hb : Below w0.heap.size w w') (ho : ∀ k, k ≠ T → w'.heap[k]? = w.heap[k]?) : Ifl w0 w' T gb s vb vo M z :=
  ⟨hc, by rw [hz]; exact h.row.move fun k hk => ho k (h.own k hk).1, h.bits.move (ho gb h.ne), h.ne, h.own, h.hT, h.hb.trans hb⟩
theorem Ifl.still (h : Ifl w0 w T gb s vb vo M y) (ht : Touches vo.ownBlock.toList v2.ownBlock.toList w w') : StCell w' T s vb vo M y :=
  (ht.out h.cell.lt fun hm => (h.own T (by simpa using hm)).1 rfl).1.trans h.cell
end
end Go.Proofs.YtnelbahohkjcnaaGreatDoor

/-
  The contract of the document's own.
-/
import Derived.Test.YtnelbahohkjcnaaGreatDoorInfOwnS
import Derived.StillTailTactics
namespace Go.Proofs.YtnelbahohkjcnaaGreatDoor
open Go.RowKit
theorem Reads.part {W : World} {vo : Value} {g B : Nat} {rl : List Nat} (h : BitsAt W g rl) (hv : vo.ownBlock ≠ some g) (hB : g ≠ B) (k : Nat) : Reads W vo B (some ⟨g, 0, none⟩) (intsOf (rl.take k)) ∧ Reads W vo B (some ⟨g, k, none⟩) (intsOf (rl.drop k)) := by
  refine ⟨.inr ⟨g, 0, rfl, h.1, hv, hB, fun i hi => ?_⟩, .inr ⟨g, k, rfl, h.1, hv, hB, fun i hi => ?_⟩⟩
  · rw [intsOf_length, List.length_take] at hi
    have hx := List.getElem?_eq_getElem (show i < rl.length by omega)
    rw [Nat.zero_add, h.2 i (by omega)]
    unfold intsOf
    rw [List.getElem?_map, List.getElem?_take, if_pos (by omega), hx]; rfl
  · rw [intsOf_length, List.length_drop] at hi
    have hx := List.getElem?_eq_getElem (show k + i < rl.length by omega)
    rw [h.2 (k + i) (by omega)]
    unfold intsOf
    rw [List.getElem?_map, List.getElem?_drop, hx]; rfl
theorem Work.last {w0 W w1 w2 : World} {s : ByteArray} {vb vo v2 : Value} {most : Nat} {y d : St} (h : Work w0 W vo.ownBlock.toList s vb vo most y) (hv1 : v2.oneCell' = true) (ht : Touches vo.ownBlock.toList v2.ownBlock.toList W w1) (hr : Row8 w1 v2 d.out) (hb : Below w0.heap.size w1 w2) (ho : ∀ k, k ≠ w0.heap.size + 1 → w2.heap[k]? = w1.heap[k]?) : Handed10 w0 vo.ownBlock.toList s vb most d (.returned (.agg (stV s vb v2 most d))) w2 := by
  have l2 := h.2.1.lt
  have hne : ∀ k, v2.ownBlock = some k → k ≠ w0.heap.size + 1 := fun k hk => by
    rcases ht.2.2.2.2.2 k (by simp [hk]) with e | e
    · exact (h.2.2.2.2 k (by simpa using e)).2
    · omega
  have hT := h.2.2.2.1.trans ht
  exact ⟨v2, rfl, hv1, hr.move fun k hk => ho k (hne k hk), hb.os.trans hT.1, hb.tape.trans hT.2.1, hb.output.trans hT.2.2.1, Nat.le_trans hT.size hb.size, fun k hk hF => (hb.block k hk).trans (hT.2.2.2.2.1 k hk hF), hT.2.2.2.2.2⟩
theorem Work.two {w0 W w1 : World} {s : ByteArray} {vb vo v2 : Value} {most : Nat} {y : St} (h : Work w0 W vo.ownBlock.toList s vb vo most y) (ht : Touches vo.ownBlock.toList v2.ownBlock.toList W w1) : StCell w1 (w0.heap.size + 1) ⟨#[]⟩ (.slice none 0 0) (.slice none 0 0) 0 ⟨0, [], 0⟩ :=
  (ht.2.2.2.2.1 _ h.2.1.lt fun hm => (h.2.2.2.2 _ (by simpa using hm)).2 rfl).trans h.2.1
end Go.Proofs.YtnelbahohkjcnaaGreatDoor

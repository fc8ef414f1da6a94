/-
  What a call may turn of memory, told by the blocks that are an object's own.
-/
import Derived.Test.YtjkppdgakokelaaRows
import Derived.WalkKit
import Derived.Below
import Derived.WalkSmall
namespace Go.Proofs.Ytjkppdgakokelaa
open Go.RowKit

/-- Of what lay, only the blocks F may have turned; F' are the object's blocks now. -/
def Touches (F F' : List Nat) (w w' : World) : Prop :=
  w'.os = w.os ∧ w'.tape = w.tape ∧ w'.output = w.output ∧ w.heap.size ≤ w'.heap.size ∧ (∀ k, k < w.heap.size → k ∉ F → w'.heap[k]? = w.heap[k]?) ∧ (∀ k ∈ F', k ∈ F ∨ w.heap.size ≤ k)
theorem Touches.below {F F' : List Nat} {w w' : World} (h : Touches F F' w w') {B : Nat} (hB : B ≤ w.heap.size) (hF : ∀ k ∈ F, B ≤ k) : Below B w w' :=
  ⟨h.1, h.2.1, h.2.2.1, h.2.2.2.1, fun k hk => h.2.2.2.2.1 k (by omega) fun hm => by have := hF k hm; omega⟩
theorem Touches.more {F F' : List Nat} {w w' : World} (h : Touches F F' w w') {B : Nat} (hB : B ≤ w.heap.size) (hF : ∀ k ∈ F, B ≤ k) : ∀ k ∈ F', B ≤ k := fun k hk => by
  rcases h.2.2.2.2.2 k hk with h1 | h1
  · exact hF k h1
  · omega
theorem Touches.out {F F' : List Nat} {w w' : World} (h : Touches F F' w w') {g : Nat} (hg : g < w.heap.size) (hF : g ∉ F) : w'.heap[g]? = w.heap[g]? ∧ g ∉ F' :=
  ⟨h.2.2.2.2.1 g hg hF, fun hm => by
    rcases h.2.2.2.2.2 g hm with h1 | h1
    · exact hF h1
    · omega⟩
theorem Touches.size {F F' : List Nat} {w w' : World} (h : Touches F F' w w') : w.heap.size ≤ w'.heap.size := h.2.2.2.1
theorem Touches.cell {F F' : List Nat} {w w' : World} (h : Touches F F' w w') {a : Addr} (hg : a.block < w.heap.size) (hF : a.block ∉ F) : w'.cell? a = w.cell? a := World.cell?_of_block (w := w) (h.2.2.2.2.1 _ hg hF)

end Go.Proofs.Ytjkppdgakokelaa

/-
  Slices of texts in memory.
-/
import Derived.Test.YtllimejpmihpfaaDoorDPlain
import Derived.WalkKit
import Derived.ProofKit
namespace Go.Proofs.YtllimejpmihpfaaDoor
open Go.RowKit

/-- A slice of texts, as far as its length, in memory. -/
def Texts (w : World) (a : Option Addr) (xs : List ByteArray) : Prop :=
  xs = [] ∨ ∃ b off, a = some ⟨b, off, none⟩ ∧ ∀ i, i < xs.length → w.cell? ⟨b, off + i, none⟩ = some (.string (xs[i]?.getD ByteArray.empty))
theorem Texts.at {w : World} {a : Option Addr} {xs : List ByteArray} (h : Texts w a xs) (j : Nat) (hj : j < xs.length) :
    ∃ b off, a = some ⟨b, off, none⟩ ∧ w.cell? ⟨b, off + j, none⟩ = some (.string (xs[j]?.getD ByteArray.empty)) := by
  rcases h with rfl | ⟨b, off, e, h⟩
  · cases hj
  · exact ⟨b, off, e, h j hj⟩
theorem text_block {w : World} {p : Addr} {v : Value} (h : w.cell? p = some v) : p.block < w.heap.size := by
  rcases Nat.lt_or_ge p.block w.heap.size with h' | h'
  · exact h'
  · unfold World.cell? at h
    rw [Array.getElem?_eq_none h'] at h
    simp at h
theorem Texts.later {w w' : World} {a : Option Addr} {xs : List ByteArray} (h : Texts w a xs) (hb : Below w.heap.size w w') : Texts w' a xs := by
  rcases h with h | ⟨b, off, e, h⟩
  · exact .inl h
  · exact .inr ⟨b, off, e, fun i hi => (hb.cell (text_block (h i hi))).trans (h i hi)⟩
theorem texts_new (W : World) (xs : List ByteArray) : Texts (W.alloc (.cells (xs.map Value.string).toArray 9)) (some ⟨W.heap.size, 0, none⟩) xs := by
  refine .inr ⟨W.heap.size, 0, rfl, fun i hi => ?_⟩
  rw [Nat.zero_add, World.cell?_alloc_new]
  simp [List.getElem?_eq_getElem hi]
theorem texts_one (W : World) (x : ByteArray) : Texts (W.alloc (.cells #[.string x] 9)) (some ⟨W.heap.size, 0, none⟩) [x] := texts_new W [x]
/-- All their bytes, one behind the other. -/
def flatT (xs : List ByteArray) : List UInt8 := (xs.map fun x => x.data.toList).flatten
theorem flatT_nil : flatT [] = [] := rfl
theorem flatT_one (x : ByteArray) : flatT [x] = x.data.toList := by simp [flatT]
theorem flatT_take {xs : List ByteArray} {j : Nat} {x : ByteArray} (hj : j < xs.length) (h : xs[j]?.getD ByteArray.empty = x) : flatT (xs.take (j + 1)) = flatT (xs.take j) ++ x.data.toList := by
  rw [List.getElem?_eq_getElem hj] at h
  simp only [Option.getD_some] at h
  unfold flatT
  rw [List.take_succ_eq_append_getElem hj, h]; simp
theorem flatT_take_le (xs : List ByteArray) (j : Nat) : (flatT (xs.take j)).length ≤ (flatT xs).length := by
  unfold flatT
  have h : (xs.map fun x => x.data.toList).flatten = ((xs.take j).map fun x => x.data.toList).flatten ++ ((xs.drop j).map fun x => x.data.toList).flatten := by
    rw [← List.flatten_append, ← List.map_append, List.take_append_drop]
  rw [h, List.length_append]; omega
/-- A slice of texts that came in, as the frame of a law tells it. -/
theorem texts_of_row {w : World} {a : Option Addr} {len cap : Nat} {ss : List ByteArray}
    (h : (a = none ∧ len = 0 ∧ cap = 0 ∧ ss = []) ∨ ∃ x, a = some x ∧ len ≤ cap ∧ cap ≤ maxLen ∧ ss.length = cap ∧ (∀ i, i < ss.length → w.cell? (x.add i) = some (.string (ss.getD i ByteArray.empty))) ∧ ∀ s ∈ ss, s.size ≤ maxLen) :
    (ss.take len).length = len ∧ len ≤ 9223372036854775807 ∧ (∀ s ∈ ss.take len, s.size ≤ maxLen) ∧ Texts w a (ss.take len) := by
  rcases h with ⟨rfl, rfl, rfl, rfl⟩ | ⟨x, rfl, hl, hm, hz, hc, hwf⟩
  · exact ⟨rfl, by omega, (fun s hs => by simp at hs), .inl rfl⟩
  · have hlen : (ss.take len).length = len := by rw [List.length_take]; omega
    refine ⟨hlen, by unfold maxLen at hm; omega, fun s hs => hwf s (List.mem_of_mem_take hs), ?_⟩
    by_cases h0 : len = 0
    · left; subst h0; rfl
    · right
      obtain ⟨b, off, spot⟩ := x
      have hspot : spot = none := by simpa [Addr.add] using World.cell?_spot (hc 0 (by omega))
      subst hspot
      refine ⟨b, off, rfl, fun i hi => ?_⟩
      rw [hlen] at hi
      have := hc i (by omega)
      have e : (⟨b, off, none⟩ : Addr).add i = ⟨b, off + i, none⟩ := by unfold Addr.add; split <;> simp_all
      rw [e] at this
      rw [this, List.getElem?_take_of_lt hi]
      simp [List.getD]

end Go.Proofs.YtllimejpmihpfaaDoor

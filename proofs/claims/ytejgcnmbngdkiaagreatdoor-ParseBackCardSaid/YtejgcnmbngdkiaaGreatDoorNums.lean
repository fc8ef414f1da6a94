/-
  Slices of numbers in memory.
-/
import Derived.Test.YtejgcnmbngdkiaaGreatDoorNPlain
import Derived.WalkKit
import Derived.ProofKit
import Derived.Deep.Draws
namespace Go.Proofs.YtejgcnmbngdkiaaGreatDoor
open Go.RowKit

/-- A slice of numbers, as far as its length, in memory. -/
def Nums (w : World) (a : Option Addr) (zs : List Int) : Prop :=
  zs = [] ∨ ∃ b off, a = some ⟨b, off, none⟩ ∧ ∀ i, i < zs.length → w.cell? ⟨b, off + i, none⟩ = some (.int .i64 (zs[i]?.getD 0))

theorem Nums.at {w : World} {a : Option Addr} {zs : List Int} (h : Nums w a zs) (j : Nat) (hj : j < zs.length) :
    ∃ b off, a = some ⟨b, off, none⟩ ∧ w.cell? ⟨b, off + j, none⟩ = some (.int .i64 (zs[j]?.getD 0)) := by
  rcases h with rfl | ⟨b, off, e, h⟩
  · cases hj
  · exact ⟨b, off, e, h j hj⟩
theorem cell_block {w : World} {p : Addr} {v : Value} (h : w.cell? p = some v) : p.block < w.heap.size := by
  rcases Nat.lt_or_ge p.block w.heap.size with h' | h'
  · exact h'
  · unfold World.cell? at h
    rw [Array.getElem?_eq_none h'] at h
    simp at h
theorem cell_later {w w' : World} {p : Addr} {v : Value} (h : w.cell? p = some v) (hb : Below w.heap.size w w') : w'.cell? p = some v :=
  (hb.cell (cell_block h)).trans h
theorem Nums.later {w w' : World} {a : Option Addr} {zs : List Int} (h : Nums w a zs) (hb : Below w.heap.size w w') : Nums w' a zs := by
  rcases h with h | ⟨b, off, e, h⟩
  · exact .inl h
  · exact .inr ⟨b, off, e, fun i hi => cell_later (h i hi) hb⟩

/-- Each of them is an int. -/
def Ints (zs : List Int) : Prop := ∀ i, i < zs.length → -9223372036854775808 ≤ zs[i]?.getD 0 ∧ zs[i]?.getD 0 ≤ 9223372036854775807

/-- What lies behind a call's new slice. -/
def Listed (w : World) (zs : List Int) (e : Ending) (w' : World) : Prop :=
  ∃ a cap, e = .returned (.slice a zs.length cap) ∧ Nums w' a zs ∧ Below w.heap.size w w'

theorem nums_new (W : World) (zs : List Int) (n : Nat) (hn : n = W.heap.size) : Nums (W.alloc (.cells (zs.map (Value.int .i64)).toArray 3)) (some ⟨n, 0, none⟩) zs := by
  subst hn
  refine .inr ⟨W.heap.size, 0, rfl, fun i hi => ?_⟩
  rw [Nat.zero_add, World.cell?_alloc_new]
  simp [List.getElem?_eq_getElem hi]
theorem nums_one (W : World) (z : Int) : Nums (W.alloc (.cells #[.int .i64 z] 3)) (some ⟨W.heap.size, 0, none⟩) [z] := nums_new W [z] _ rfl
theorem ints_of {zs : List Int} (h : ∀ z ∈ zs, -9223372036854775808 ≤ z ∧ z ≤ 9223372036854775807) : Ints zs := fun i hi => by
  rw [List.getElem?_eq_getElem hi]; exact h _ (List.getElem_mem hi)
theorem ints_mem {zs : List Int} (h : Ints zs) {z : Int} (hz : z ∈ zs) : -9223372036854775808 ≤ z ∧ z ≤ 9223372036854775807 := by
  obtain ⟨i, hi, rfl⟩ := List.getElem_of_mem hz
  have := h i hi
  rw [List.getElem?_eq_getElem hi] at this
  simpa using this
/-- A slice that came in, as the frame of a law tells it. -/
theorem nums_of_row {w : World} {a : Option Addr} {len cap : Nat} {zs : List Int}
    (h : (a = none ∧ len = 0 ∧ cap = 0 ∧ zs = []) ∨ ∃ x, a = some x ∧ len ≤ cap ∧ cap ≤ maxLen ∧ zs.length = cap ∧ (∀ i, i < zs.length → w.cell? (x.add i) = some (.int .i64 (zs.getD i 0))) ∧ ∀ n ∈ zs, (Lit.int .i64 n).wf = true) :
    (zs.take len).length = len ∧ len ≤ 9223372036854775807 ∧ Ints (zs.take len) ∧ Nums w a (zs.take len) := by
  rcases h with ⟨rfl, rfl, rfl, rfl⟩ | ⟨x, rfl, hl, hm, hz, hc, hwf⟩
  · exact ⟨rfl, by omega, fun i hi => by simp at hi, .inl rfl⟩
  · have hlen : (zs.take len).length = len := by rw [List.length_take]; omega
    refine ⟨hlen, by unfold maxLen at hm; omega, ints_of fun z hzm => ?_, ?_⟩
    · have := hwf z (List.mem_of_mem_take hzm)
      simpa [Lit.wf, IntKind.min, IntKind.max, IntKind.signed, IntKind.bits] using this
    · by_cases h0 : len = 0
      · left; subst h0; rfl
      · right
        obtain ⟨b, off, spot⟩ := x
        have hspot : spot = none := by simpa [Addr.add] using World.cell?_spot (hc 0 (by omega))
        subst hspot
        refine ⟨b, off, rfl, fun i hi => ?_⟩
        rw [hlen] at hi
        have := hc i (by omega)
        have e : (⟨b, off, none⟩ : Addr).add i = ⟨b, off + i, none⟩ := by unfold Addr.add; split <;> simp_all
        rw [e] at this
        rw [this, List.getElem?_take_of_lt hi]
        simp [List.getD]
theorem drewN_add (w : World) (a b : Nat) : w.drewN (a + b) = (w.drewN a).drewN b := by unfold World.drewN; simp [Nat.add_assoc]

end Go.Proofs.YtejgcnmbngdkiaaGreatDoor

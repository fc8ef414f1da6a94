/-
  A row of bytes of a call's own: made of a text, written at a place, made a text again.
-/
import Derived.Test.YtboiljclenikbaaDoorRows
import Derived.Test.YtboiljclenikbaaDoorHPlain
import Derived.WalkKit
import Derived.Lib.ConvBytes
import Derived.Lib.AtoiErrMem
import Derived.Laws.IdiomStrings
import Derived.Laws.BitsAllLaws
namespace Go.Proofs.YtboiljclenikbaaDoor
open Go.RowKit

/-- These bytes lie in a block, and may be written. -/
def BRowAt (W : World) (B : Nat) (l : List UInt8) : Prop :=
  (∀ j (h : j < l.length), W.cell? ⟨B, j, none⟩ = some (.int .u8 (l[j].toNat : Int))) ∧ ∀ j, j < l.length → W.frozen? ⟨B, j, none⟩ = false

theorem row_new (w : World) (T : TypeId) (s : ByteArray) : BRowAt (Lib.bytesWorld w T s) w.heap.size s.data.toList := by
  constructor
  · intro j h
    have hj : j < s.size := by simpa using h
    rw [Lib.bytesWorld_cell w T s j hj]
    simp [List.getD, List.getElem?_eq_getElem h]
  · intro j h
    have hj : j < s.size := by simpa using h
    have hs : s.size ≤ (Lib.bytesCells w T s).size := by simp [Lib.bytesCells]
    unfold World.frozen?
    rw [Lib.bytesWorld_at_new]
    simp; omega
theorem frozen_setCell (W : World) (p q : Addr) (v : Value) : (W.setCell p v).frozen? q = W.frozen? q := by
  unfold World.setCell World.frozen?
  simp only [Array.getElem?_modify]
  by_cases h : p.block = q.block
  · rw [if_pos h]
    cases hq : W.heap[q.block]? with
    | none => rfl
    | some o => cases o <;> rfl
  · rw [if_neg h]
theorem BRowAt.set {W : World} {B : Nat} {l : List UInt8} (h : BRowAt W B l) (i : Nat) (d : UInt8) : BRowAt (W.setCell ⟨B, i, none⟩ (.int .u8 (d.toNat : Int))) B (l.set i d) := by
  constructor
  · intro j hj
    rw [List.length_set] at hj
    by_cases e : i = j
    · subst e
      rw [World.cell?_setCell_same _ _ _ (h.1 i hj)]
      simp
    · rw [World.cell?_setCell_other _ _ _ _ (by intro e2; exact e (congrArg Addr.off e2)), h.1 j hj]
      simp [e]
  · intro j hj
    rw [List.length_set] at hj
    rw [frozen_setCell]
    exact h.2 j hj
theorem BRowAt.back {W : World} {B : Nat} {l : List UInt8} (h : BRowAt W B l) (cap n : Nat) (hn : n = l.length) :
    (convert 28 9 (.slice (some ⟨B, 0, none⟩) n cap)).run Tryd.prog W = .ok (.string (bytes l)) W := by
  subst hn
  exact run_convert_bytes_back (P := Tryd.prog) W 28 9 5 ⟨B, 0, none⟩ cap l Tryd.underlying28 Tryd.underlying5 Tryd.underlying9 (fun j hj => by
    have e : (⟨B, 0, none⟩ : Addr).add j = ⟨B, j, none⟩ := by unfold Addr.add; split <;> simp_all
    rw [e]
    exact h.1 j hj)
theorem BRowAt.cell_at {W : World} {B : Nat} {s : ByteArray} (h : BRowAt W B s.data.toList) {i : Nat} (hi : i < s.size) : W.cell? ⟨B, i, none⟩ = some (.int .u8 (s[i].toNat : Int)) := h.1 i (by simpa using hi)
theorem BRowAt.later {W W' : World} {B : Nat} {l : List UInt8} (h : BRowAt W B l) (hb : Below W.heap.size W W') : BRowAt W' B l := by
  constructor
  · intro j hj
    have hc := h.1 j hj
    have hlt : B < W.heap.size := by
      rcases Nat.lt_or_ge B W.heap.size with h' | h'
      · exact h'
      · unfold World.cell? at hc
        simp [Array.getElem?_eq_none h'] at hc
    exact (hb.cell (p := ⟨B, j, none⟩) hlt).trans hc
  · intro j hj
    have hc := h.1 j hj
    have hlt : B < W.heap.size := by
      rcases Nat.lt_or_ge B W.heap.size with h' | h'
      · exact h'
      · unfold World.cell? at hc
        simp [Array.getElem?_eq_none h'] at hc
    have hf := h.2 j hj
    unfold World.frozen? at hf ⊢
    rw [hb.block B hlt]
    exact hf
theorem below_set {B' : Nat} {a W : World} (h : Below B' a W) {B : Nat} (hB : B' ≤ B) (i : Nat) (v : Value) : Below B' a (W.setCell ⟨B, i, none⟩ v) :=
  h.trans ⟨rfl, rfl, rfl, by simp [World.setCell], fun k hk => Below.heap_setCell _ _ _ _ (by show k ≠ B; omega)⟩

end Go.Proofs.YtboiljclenikbaaDoor
